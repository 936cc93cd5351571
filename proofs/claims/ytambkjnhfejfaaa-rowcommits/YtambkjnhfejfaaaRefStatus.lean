/-
  Contract of rickyardref.StatusOf. Conditions: the row comes in as it should ('RowIn').
-/
import Derived.Test.YtambkjnhfejfaaaRefHeld
import Derived.Test.YtambkjnhfejfaaaStatusPure
namespace Go.Proofs.Ytambkjnhfejfaaa
open Go.RowKit

section
variable (key lp val : ByteArray) (ls : Int) (A : Option Addr) (n c : Nat) (l : List RecM) (st : Int) (w : World)
theorem refStatus_state (hi : RowIn w key lp val A n l) (t : rowB key ls lp val l = false) :
    Calls Try.prog 22 #[rowV key ls lp val A n c, .int .i64 st] w fun e w' => e = .returned (.tuple #[.int .i64 0, .int .i64 0, .int .i64 6]) ∧ Below w.heap.size w w' := by
  obtain ⟨W0, hW, k0, k1, k2, k3, k4, hbW, hsW⟩ := box_new w (.string key) (.int .i64 ls) (.string lp) (.string val) (.slice A n c) 27; have HW := Lib.hid hW; have HI := Lib.hid (hi.upto hbW); have hsz : w.heap.size < W0.heap.size := (by omega); clear hW hi hsW
  go_enter Try.func22, Try.ntmps22
  go_wp2_with fail
  rw [← HW.out]
  refine (rowMay_any key lp val ls A l n c W0 HI.out.n HI.out.l HI.out.k HI.out.p HI.out.v).mono ?_
  rintro e w1 ⟨rfl, hb1⟩
  go_wp2
  go_ret3
  exact ⟨rfl, by repeat (first | with_reducible exact Below.refl _ _ | assumption | with_reducible apply below_alloc | with_reducible apply below_drew | with_reducible apply below_drewN | (with_reducible apply below_next; rotate_left; assumption))⟩
theorem refStatus_range (hi : RowIn w key lp val A n l) (t : rowB key ls lp val l = true) (t2 : inB st 1 1099511627776 = false) :
    Calls Try.prog 22 #[rowV key ls lp val A n c, .int .i64 st] w fun e w' => e = .returned (.tuple #[.int .i64 0, .int .i64 0, .int .i64 2]) ∧ Below w.heap.size w w' := by
  obtain ⟨W0, hW, k0, k1, k2, k3, k4, hbW, hsW⟩ := box_new w (.string key) (.int .i64 ls) (.string lp) (.string val) (.slice A n c) 27; have HW := Lib.hid hW; have HI := Lib.hid (hi.upto hbW); have hsz : w.heap.size < W0.heap.size := (by omega); clear hW hi hsW
  go_enter Try.func22, Try.ntmps22
  go_wp2_with fail
  rw [← HW.out]
  refine (rowMay_any key lp val ls A l n c W0 HI.out.n HI.out.l HI.out.k HI.out.p HI.out.v).mono ?_
  rintro e w1 ⟨rfl, hb1⟩
  go_wp2_with (go_at_call 39; refine (refTime_any _ _).mono ?_; rintro e w' ⟨rfl, rfl⟩)
  go_ret3
  exact ⟨rfl, by repeat (first | with_reducible exact Below.refl _ _ | assumption | with_reducible apply below_alloc | with_reducible apply below_drew | with_reducible apply below_drewN | (with_reducible apply below_next; rotate_left; assumption))⟩

theorem ret_three {a b a' b' k : Int} (h : a = a') (h' : b = b') : Ending.returned (.tuple #[.int .i64 a, .int .i64 b, .int .i64 k]) = .returned (.tuple #[.int .i64 a', .int .i64 b', .int .i64 k]) := by rw [h, h']

set_option maxHeartbeats 2000000 in
theorem refStatus_ok (hi : RowIn w key lp val A n l) (t : rowB key ls lp val l = true) (t2 : inB st 1 1099511627776 = true) :
    Calls Try.prog 22 #[rowV key ls lp val A n c, .int .i64 st] w fun e w' => e = .returned (.tuple #[.int .i64 (stOf ls st l), .int .i64 (cmOf ls st l), .int .i64 0]) ∧ Below w.heap.size w w' := by
  obtain ⟨W0, hW, k0, k1, k2, k3, k4, hbW, hsW⟩ := box_new w (.string key) (.int .i64 ls) (.string lp) (.string val) (.slice A n c) 27; have HW := Lib.hid hW; have HI := Lib.hid (hi.upto hbW); have hsz : w.heap.size < W0.heap.size := (by omega); clear hW hi hsW
  by_cases q1 : ls = st
  · subst q1
    go_enter Try.func22, Try.ntmps22
    go_wp2_with fail
    rw [← HW.out]
    refine (rowMay_any key lp val ls A l n c W0 HI.out.n HI.out.l HI.out.k HI.out.p HI.out.v).mono ?_
    rintro e w1 ⟨rfl, hb1⟩
    obtain ⟨g0, g1, g2, g3, g4, _⟩ := boxS k0 k1 k2 k3 k4 hb1
    go_wp2_with (go_at_call 39; refine (refTime_any _ _).mono ?_; rintro e w' ⟨rfl, rfl⟩)
    go_ret3
    exact ⟨ret_three (by simp [stOf]) (by simp [cmOf]), by repeat (first | with_reducible exact Below.refl _ _ | assumption | with_reducible apply below_alloc | with_reducible apply below_drew | with_reducible apply below_drewN | (with_reducible apply below_next; rotate_left; assumption))⟩
  · have q1' : (ls == st) = false := by simpa using q1
    have HQ := Lib.hid q1
    clear q1
    go_enter Try.func22, Try.ntmps22
    go_wp2_with fail
    rw [← HW.out]
    refine (rowMay_any key lp val ls A l n c W0 HI.out.n HI.out.l HI.out.k HI.out.p HI.out.v).mono ?_
    rintro e w1 ⟨rfl, hb1⟩
    obtain ⟨g0, g1, g2, g3, g4, _⟩ := boxS k0 k1 k2 k3 k4 hb1
    go_wp2_with (go_at_call 39; refine (refTime_any _ _).mono ?_; rintro e w' ⟨rfl, rfl⟩)
    refine (recordOf_any key lp val ls st A l n c w1 HI.out.n (HI.out.l.upto hb1)).mono ?_
    rintro e w2 ⟨rfl, hb2⟩
    by_cases q2 : hasRec st l = true
    · by_cases q3 : (recOf st l).c = 0
      · have q3' : ((recOf st l).c == 0) = true := by simpa using q3
        have HZ := Lib.hid q3
        clear q3
        go_wp2
        go_ret3
        exact ⟨ret_three (by simp [stOf, HQ.out, q2, HZ.out]) (by simp [cmOf, HQ.out, HZ.out]), by repeat (first | with_reducible exact Below.refl _ _ | assumption | with_reducible apply below_alloc | with_reducible apply below_drew | with_reducible apply below_drewN | (with_reducible apply below_next; rotate_left; assumption))⟩
      · have q3' : ((recOf st l).c == 0) = false := by simpa using q3
        have HZ := Lib.hid q3
        clear q3
        go_wp2
        go_quiet (fail)
        go_wp2
        go_ret3
        exact ⟨ret_three (by simp [stOf, HQ.out, q2, HZ.out]) (by simp [cmOf, HQ.out]), by repeat (first | with_reducible exact Below.refl _ _ | assumption | with_reducible apply below_alloc | with_reducible apply below_drew | with_reducible apply below_drewN | (with_reducible apply below_next; rotate_left; assumption))⟩
    · have q2' : hasRec st l = false := by simpa using q2
      have HR := Lib.hid q2'
      clear q2
      go_wp2
      go_ret3
      exact ⟨ret_three (by simp [stOf, HQ.out, HR.out]) (by have h := HR.out; simp only [hasRec, Option.isSome_eq_false_iff, Option.isNone_iff_eq_none] at h; simp [cmOf, HQ.out, recOf, h]), by repeat (first | with_reducible exact Below.refl _ _ | assumption | with_reducible apply below_alloc | with_reducible apply below_drew | with_reducible apply below_drewN | (with_reducible apply below_next; rotate_left; assumption))⟩
end
end Go.Proofs.Ytambkjnhfejfaaa
