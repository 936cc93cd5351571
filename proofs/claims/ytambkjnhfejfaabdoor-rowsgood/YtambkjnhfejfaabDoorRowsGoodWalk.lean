/-
  The walk of rickyardkeep.RowsGood: it returns true and turns no old memory. Conditions: the raw numbers lie in memory.
-/
import Derived.Test.YtambkjnhfejfaabDoorG31
import Derived.Test.YtambkjnhfejfaabDoorG10
import Derived.Test.YtambkjnhfejfaabDoorG02
namespace Go.Proofs.YtambkjnhfejfaabDoor
open Go.RowKit

set_option maxRecDepth 100000 in
set_option maxHeartbeats 2000000 in
theorem rowsGood_walk (w : World) (l : List RawM) (A : Option Addr) (q : Nat) (hr : RawsAt w (· < w.heap.size) A l) :
    Calls Tryd.prog 3 #[.slice A l.length q] w fun e w' => e = .returned (.bool true) ∧ Below w.heap.size w w' := by
  have HR := Lib.hid (kRow_any A q l w hr)
  have hk := rowsM_keep l (min l.length 40)
  obtain ⟨r, hrd⟩ : ∃ r, r = rowsM l (min l.length 40) := ⟨_, rfl⟩
  rw [← hrd] at HR hk
  have HZ := Lib.hid (show rowB ⟨#[]⟩ 0 ⟨#[]⟩ ⟨#[]⟩ [] = false by decide +kernel)
  have HK := Lib.hid hk
  clear hrd hr hk
  go_enter Tryd.func3, Tryd.ntmps3
  go_wp2_with fail
  refine HR.out.mono ?_
  rintro e w1 ⟨B, c, rfl, hin, hb1⟩
  obtain ⟨W0, hW, k0, k1, k2, k3, k4, hbW, hsW⟩ := box_new w1 (.string r.key) (.int .i64 r.ls) (.string r.lp) (.string r.val) (.slice B r.recs.length c) 27
  have HW := Lib.hid hW
  have HI := Lib.hid (hin.i.upto hbW)
  have HB0 := Lib.hid (below_next hb1 hbW)
  clear hW hin hb1 hbW hsW
  go_wp2_with fail
  rw [← HW.out]
  refine (check_ok r.key r.lp r.val r.ls B r.recs r.recs.length c W0 rfl HI.out.l HI.out.k HI.out.p HI.out.v HK.out.ok).mono ?_
  rintro e w2 ⟨rfl, hb2⟩
  obtain ⟨g0, g1, g2, g3, g4, _⟩ := boxS k0 k1 k2 k3 k4 hb2
  have HI2 := Lib.hid (HI.out.upto hb2)
  have HB2 := Lib.hid (below_next HB0.out hb2)
  clear hb2
  go_wp2_with fail
  refine (copy_any r.key r.lp r.val r.ls B r.recs.length c r.recs w2 rfl HI2.out.l).mono ?_
  rintro e w3 ⟨B3, c3, rfl, hrec, _, hb3⟩
  have HR3 := Lib.hid hrec
  have HB3 := Lib.hid (below_next HB2.out hb3)
  clear hrec hb3
  go_wp2_with fail
  refine (check_ok r.key r.lp r.val r.ls B3 r.recs r.recs.length c3 w3 rfl HR3.out HI2.out.k HI2.out.p HI2.out.v HK.out.ok).mono ?_
  rintro e w4 ⟨rfl, hb4⟩
  have HB4 := Lib.hid (below_next HB3.out hb4)
  clear hb4
  go_wp2_with fail
  refine (check_bad ⟨#[]⟩ ⟨#[]⟩ ⟨#[]⟩ 0 none [] 0 0 w4 rfl ⟨Nat.zero_le _, (fun _ h => by cases h), (fun h => absurd h (Nat.lt_irrefl 0))⟩ (Nat.zero_le _) (Nat.zero_le _) (Nat.zero_le _) HZ.out).mono ?_
  rintro e w5 ⟨rfl, hb5⟩
  have HB5 := Lib.hid (below_next HB4.out hb5)
  clear hb5
  go_wp2
  go_ret
  exact ⟨rfl, HB5.out⟩
end Go.Proofs.YtambkjnhfejfaabDoor
