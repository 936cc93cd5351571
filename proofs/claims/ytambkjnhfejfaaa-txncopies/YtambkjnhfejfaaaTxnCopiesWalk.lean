/-
  The walk of rickyardlaw.TxnCopies: it returns true and turns no old memory. Conditions: the world comes in as it should ('WoIn').
-/
import Derived.Test.YtambkjnhfejfaaaTCopyWalk
import Derived.Test.YtambkjnhfejfaaaTSame
namespace Go.Proofs.Ytambkjnhfejfaaa
open Go.RowKit

set_option maxHeartbeats 1000000 in
theorem txnCopies_walk (w : World) (wo : WoM) (RA : Option Addr) (n rc : Nat) (CA : Option Addr) (m cc : Nat) (hin : WoIn w RA n rc CA m cc wo) :
    Calls Try.prog 12 #[woV RA n rc wo.clock CA m cc] w fun e w' => e = .returned (.bool true) ∧ Below w.heap.size w w' := by
  have HI := Lib.hid hin
  clear hin
  obtain ⟨W1, hW1⟩ : ∃ W1, W1 = w.alloc (.cells #[.slice RA n rc, .int .i64 wo.clock, .slice CA m cc] 47) := ⟨_, rfl⟩
  have hb1 : Below w.heap.size w W1 := by rw [hW1]; repeat (first | with_reducible exact Below.refl _ _ | assumption | with_reducible apply below_alloc | with_reducible apply below_drew | with_reducible apply below_drewN | (with_reducible apply below_next; rotate_left; assumption))
  have hs1 : w.heap.size < W1.heap.size := by rw [hW1]; simp
  have k0 : W1.cell? ⟨w.heap.size, 0, none⟩ = some (.slice RA n rc) := by rw [hW1]; simp
  have k1 : W1.cell? ⟨w.heap.size, 1, none⟩ = some (.int .i64 wo.clock) := by rw [hW1]; simp
  have k2 : W1.cell? ⟨w.heap.size, 2, none⟩ = some (.slice CA m cc) := by rw [hW1]; simp
  have HW := Lib.hid hW1
  have HB1 := Lib.hid hb1
  clear hW1 hb1
  go_enter Try.func12, Try.ntmps12
  go_wp2_with fail
  rw [← HW.out]
  refine (copyWo_any wo RA n rc CA m cc W1 (HI.out.upto HB1.out)).mono ?_
  rintro e w2 ⟨bR, bC, wb, rfl, hcore, hb2⟩
  have HC := Lib.hid hcore
  have HB2 := Lib.hid hb2
  have g0 := (hb2.cell (p := ⟨w.heap.size, 0, none⟩) hs1).trans k0
  have g1 := (hb2.cell (p := ⟨w.heap.size, 1, none⟩) hs1).trans k1
  have g2 := (hb2.cell (p := ⟨w.heap.size, 2, none⟩) hs1).trans k2
  have hs2 : w.heap.size < w2.heap.size := Nat.lt_of_lt_of_le hs1 hb2.size
  have hw2 : Below w.heap.size w w2 := below_next HB1.out hb2
  have HW2 := Lib.hid hw2
  clear hcore hb2 k0 k1 k2 hw2
  go_wp2_with fail
  have hal : Below w2.heap.size w2 (w2.alloc (.cells #[.slice (some ⟨bR, 0, none⟩) wo.rows.length wo.rows.length, .int .i64 wo.clock, .slice (some ⟨bC, 0, none⟩) wo.cls.length wo.cls.length] 47)) := below_alloc (Below.refl _ _) _
  refine (sameWorld_true wo _ _ _ _ _ _ RA n rc CA m cc _ ((HC.out.in_ (Nat.le_refl _) (Nat.le_refl _)).upto hal) (HI.out.upto (below_next HW2.out hal))).mono ?_
  rintro e w3 ⟨rfl, hb3⟩
  go_wp2
  go_ret
  exact ⟨rfl, below_next (below_next HW2.out hal) hb3⟩
end Go.Proofs.Ytambkjnhfejfaaa
