/-
  The walk of rickyardlaw.RowCopies: it returns true and turns no old memory. Conditions: the row's records lie in memory ('RecsAt').
-/
import Derived.Test.YtambkjnhfejfaaaCopy
namespace Go.Proofs.Ytambkjnhfejfaaa
open Go.RowKit

set_option maxHeartbeats 1000000 in
theorem rowCopies_walk (w : World) (key lp val : ByteArray) (ls : Int) (A : Option Addr) (n c : Nat) (l : List RecM) (_ : key.size ≤ maxLen) (_ : lp.size ≤ maxLen) (_ : val.size ≤ maxLen) (_ : i64 ls) (hn : n = l.length) (hl : RecsAt w w.heap.size A l) :
    Calls Try.prog 5 #[rowV key ls lp val A n c] w fun e w' => e = .returned (.bool true) ∧ Below w.heap.size w w' := by
  obtain ⟨W0, hW, k0, k1, k2, k3, k4, hbW, hsW⟩ := box_new w (.string key) (.int .i64 ls) (.string lp) (.string val) (.slice A n c) 27
  have HW := Lib.hid hW
  have HL := Lib.hid hl
  have HN := Lib.hid hn
  have hsz : w.heap.size < W0.heap.size := by omega
  clear hW hl hn hsW
  go_enter Try.func5, Try.ntmps5
  go_wp2_with fail
  rw [← HW.out]
  refine (copy_any key lp val ls A n c l W0 HN.out (HL.out.upto hbW)).mono ?_
  rintro e w1 ⟨A1, c1, rfl, hr1, _, hb1⟩
  obtain ⟨g0, g1, g2, g3, g4, _⟩ := boxS k0 k1 k2 k3 k4 hb1
  have HR := Lib.hid hr1
  have hs1 : w.heap.size < w1.heap.size := by have := hb1.size; omega
  clear hr1
  go_wp2_with fail
  refine (sameRow_true key lp val ls A1 A l.length c1 n c l _ rfl HN.out (HR.out.upto (by repeat (first | with_reducible exact Below.refl _ _ | assumption | with_reducible apply below_alloc | with_reducible apply below_drew | with_reducible apply below_drewN | (with_reducible apply below_next; rotate_left; assumption)))) (HL.out.upto (by repeat (first | with_reducible exact Below.refl _ _ | assumption | with_reducible apply below_alloc | with_reducible apply below_drew | with_reducible apply below_drewN | (with_reducible apply below_next; rotate_left; assumption))))).mono ?_
  rintro e w2 ⟨rfl, hb2⟩
  go_wp2
  go_ret
  exact ⟨rfl, by repeat (first | with_reducible exact Below.refl _ _ | assumption | with_reducible apply below_alloc | with_reducible apply below_drew | with_reducible apply below_drewN | (with_reducible apply below_next; rotate_left; assumption))⟩
end Go.Proofs.Ytambkjnhfejfaaa
