/-
  The walk of rickyardlaw.RowStatus: it returns true and turns no old memory. Conditions: the row comes in as it should ('RowIn').
-/
import Derived.Test.YtambkjnhfejfaaaStatus
import Derived.Test.YtambkjnhfejfaaaRefStatus
namespace Go.Proofs.Ytambkjnhfejfaaa
open Go.RowKit

set_option maxHeartbeats 1000000 in
theorem rowStatus_walk (w : World) (key lp val : ByteArray) (ls : Int) (A : Option Addr) (n c : Nat) (l : List RecM) (h0 : key.size ≤ maxLen) (h1 : lp.size ≤ maxLen) (h2 : val.size ≤ maxLen) (_ : i64 ls) (hn : n = l.length) (hl : RecsAt w w.heap.size A l) (st : Int) (_ : i64 st) :
    Calls Try.prog 7 #[rowV key ls lp val A n c, .int .i64 st] w fun e w' => e = .returned (.bool true) ∧ Below w.heap.size w w' := by
  have hi : RowIn w key lp val A n l := ⟨hn, hl, h0, h1, h2⟩
  clear hn hl h0 h1 h2
  obtain ⟨W0, hW, k0, k1, k2, k3, k4, hbW, hsW⟩ := box_new w (.string key) (.int .i64 ls) (.string lp) (.string val) (.slice A n c) 27; have HW := Lib.hid hW; have HI := Lib.hid (hi.upto hbW); have hsz : w.heap.size < W0.heap.size := (by omega); clear hW hi hsW
  by_cases t : rowB key ls lp val l = true
  · by_cases t2 : inB st 1 1099511627776 = true
    · go_enter Try.func7, Try.ntmps7
      go_wp2_with fail
      rw [← HW.out]
      refine (status_ok key lp val ls A n c l st W0 HI.out t t2).mono ?_
      rintro e w1 ⟨rfl, hb1⟩
      obtain ⟨g0, g1, g2, g3, g4, _⟩ := boxS k0 k1 k2 k3 k4 hb1
      go_wp2_with fail
      refine (refStatus_ok key lp val ls A n c l st w1 (HI.out.upto hb1) t t2).mono ?_
      rintro e w2 ⟨rfl, hb2⟩
      go_wp2
      go_ret
      exact ⟨rfl, by repeat (first | with_reducible exact Below.refl _ _ | assumption | with_reducible apply below_alloc | with_reducible apply below_drew | with_reducible apply below_drewN | (with_reducible apply below_next; rotate_left; assumption))⟩
    · have t2' : inB st 1 1099511627776 = false := by simpa using t2
      clear t2
      go_enter Try.func7, Try.ntmps7
      go_wp2_with fail
      rw [← HW.out]
      refine (status_range key lp val ls A n c l st W0 HI.out t t2').mono ?_
      rintro e w1 ⟨rfl, hb1⟩
      obtain ⟨g0, g1, g2, g3, g4, _⟩ := boxS k0 k1 k2 k3 k4 hb1
      go_wp2_with fail
      refine (refStatus_range key lp val ls A n c l st w1 (HI.out.upto hb1) t t2').mono ?_
      rintro e w2 ⟨rfl, hb2⟩
      go_wp2
      go_ret
      exact ⟨rfl, by repeat (first | with_reducible exact Below.refl _ _ | assumption | with_reducible apply below_alloc | with_reducible apply below_drew | with_reducible apply below_drewN | (with_reducible apply below_next; rotate_left; assumption))⟩
  · have t' : rowB key ls lp val l = false := by simpa using t
    clear t
    go_enter Try.func7, Try.ntmps7
    go_wp2_with fail
    rw [← HW.out]
    refine (status_state key lp val ls A n c l st W0 HI.out t').mono ?_
    rintro e w1 ⟨rfl, hb1⟩
    obtain ⟨g0, g1, g2, g3, g4, _⟩ := boxS k0 k1 k2 k3 k4 hb1
    go_wp2_with fail
    refine (refStatus_state key lp val ls A n c l st w1 (HI.out.upto hb1) t').mono ?_
    rintro e w2 ⟨rfl, hb2⟩
    go_wp2
    go_ret
    exact ⟨rfl, by repeat (first | with_reducible exact Below.refl _ _ | assumption | with_reducible apply below_alloc | with_reducible apply below_drew | with_reducible apply below_drewN | (with_reducible apply below_next; rotate_left; assumption))⟩
end Go.Proofs.Ytambkjnhfejfaaa
