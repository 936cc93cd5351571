/-
  The walk of rickyardlaw.RowChecks: it returns true and turns no old memory. Conditions: the row's records lie in memory ('RecsAt'); strings are at most maxLen bytes long.
-/
import Derived.Test.YtambkjnhfejfaaaCheckNo
import Derived.Test.YtambkjnhfejfaaaRefHeld
namespace Go.Proofs.Ytambkjnhfejfaaa
open Go.RowKit

set_option maxHeartbeats 1000000 in
theorem rowChecks_walk (w : World) (key lp val : ByteArray) (ls : Int) (A : Option Addr) (n c : Nat) (l : List RecM) (h0 : key.size ≤ maxLen) (h1 : lp.size ≤ maxLen) (h2 : val.size ≤ maxLen) (_ : i64 ls) (hn : n = l.length) (hl : RecsAt w w.heap.size A l) :
    Calls Try.prog 4 #[.agg #[.string key, .int .i64 ls, .string lp, .string val, .slice A n c]] w fun e w' => e = .returned (.bool true) ∧ Below w.heap.size w w' := by
  obtain ⟨W0, hW, k0, k1, k2, k3, k4, hbW, hsW⟩ := box_new w (.string key) (.int .i64 ls) (.string lp) (.string val) (.slice A n c) 27
  have HW := Lib.hid hW
  have HL0 := Lib.hid (hl.upto hbW)
  have HN := Lib.hid hn
  have H0 := Lib.hid h0
  have H1 := Lib.hid h1
  have H2 := Lib.hid h2
  have hsz : w.heap.size < W0.heap.size := by omega
  clear hW hl hn h0 h1 h2 hsW
  by_cases t : rowB key ls lp val l = true
  · go_enter Try.func4, Try.ntmps4
    go_wp2_with fail
    rw [← HW.out]
    refine (check_ok key lp val ls A l n c W0 HN.out HL0.out H0.out H1.out H2.out t).mono ?_
    rintro e w1 ⟨rfl, hb1⟩
    obtain ⟨g0, g1, g2, g3, g4, _⟩ := boxS k0 k1 k2 k3 k4 hb1
    go_wp2_with fail
    refine (rowMay_any key lp val ls A l n c w1 HN.out (HL0.out.upto hb1) H0.out H1.out H2.out).mono ?_
    rintro e w2 ⟨rfl, hb2⟩
    go_wp2
    go_ret
    exact ⟨rfl, by repeat (first | with_reducible exact Below.refl _ _ | assumption | with_reducible apply below_alloc | with_reducible apply below_drew | with_reducible apply below_drewN | (with_reducible apply below_next; rotate_left; assumption))⟩
  · have t' : rowB key ls lp val l = false := by simpa using t
    clear t
    go_enter Try.func4, Try.ntmps4
    go_wp2_with fail
    rw [← HW.out]
    refine (check_bad key lp val ls A l n c W0 HN.out HL0.out H0.out H1.out H2.out t').mono ?_
    rintro e w1 ⟨rfl, hb1⟩
    obtain ⟨g0, g1, g2, g3, g4, _⟩ := boxS k0 k1 k2 k3 k4 hb1
    go_wp2_with fail
    refine (rowMay_any key lp val ls A l n c w1 HN.out (HL0.out.upto hb1) H0.out H1.out H2.out).mono ?_
    rintro e w2 ⟨rfl, hb2⟩
    go_wp2
    go_ret
    exact ⟨rfl, by repeat (first | with_reducible exact Below.refl _ _ | assumption | with_reducible apply below_alloc | with_reducible apply below_drew | with_reducible apply below_drewN | (with_reducible apply below_next; rotate_left; assumption))⟩
end Go.Proofs.Ytambkjnhfejfaaa
