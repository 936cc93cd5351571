/-
  The walk of rickyardlaw.TxnChecks: it returns true and turns no old memory. Conditions: the world comes in as it should ('WoIn').
-/
import Derived.Test.YtambkjnhfejfaaaTCheck
import Derived.Test.YtambkjnhfejfaaaTRefMay3
namespace Go.Proofs.Ytambkjnhfejfaaa
open Go.RowKit

set_option maxHeartbeats 1000000 in
theorem txnChecks_walk (w : World) (wo : WoM) (RA : Option Addr) (n rc : Nat) (CA : Option Addr) (m cc : Nat) (hin : WoIn w RA n rc CA m cc wo) :
    Calls Try.prog 11 #[woV RA n rc wo.clock CA m cc] w fun e w' => e = .returned (.bool true) ∧ Below w.heap.size w w' := by
  obtain ⟨W0, hW, k0, k1, k2, hbW, hsW⟩ := box3_new w (.slice RA n rc) (.int .i64 wo.clock) (.slice CA m cc) 47
  have HW := Lib.hid hW
  have HBW := Lib.hid hbW
  have HI := Lib.hid (hin.upto hbW)
  clear hW hbW hsW hin
  by_cases t : wo.ok = true
  · have HC := Lib.hid (show checkE wo = 0 by simp [checkE, t])
    go_enter Try.func11, Try.ntmps11
    go_wp2_with fail
    rw [← HW.out]
    refine (checkWo_any wo RA n rc CA m cc W0 HI.out).mono ?_
    rw [HC.out]
    rintro e w1 ⟨rfl, hb1⟩
    obtain ⟨g0, g1, g2⟩ := box3S k0 k1 k2 hb1
    go_wp2_with fail
    refine (worldMay_any wo RA n rc CA m cc w1 (HI.out.upto hb1)).mono ?_
    rw [t]
    rintro e w2 ⟨rfl, hb2⟩
    go_wp2
    go_ret
    exact ⟨rfl, below_next (below_next HBW.out hb1) hb2⟩
  · have t : wo.ok = false := by simpa using t
    have HC := Lib.hid (show checkE wo = 6 by simp [checkE, t])
    go_enter Try.func11, Try.ntmps11
    go_wp2_with fail
    rw [← HW.out]
    refine (checkWo_any wo RA n rc CA m cc W0 HI.out).mono ?_
    rw [HC.out]
    rintro e w1 ⟨rfl, hb1⟩
    obtain ⟨g0, g1, g2⟩ := box3S k0 k1 k2 hb1
    go_wp2_with fail
    refine (worldMay_any wo RA n rc CA m cc w1 (HI.out.upto hb1)).mono ?_
    rw [t]
    rintro e w2 ⟨rfl, hb2⟩
    go_wp2
    go_ret
    exact ⟨rfl, below_next (below_next HBW.out hb1) hb2⟩
end Go.Proofs.Ytambkjnhfejfaaa
