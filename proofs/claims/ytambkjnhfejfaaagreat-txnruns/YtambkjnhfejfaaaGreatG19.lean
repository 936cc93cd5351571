/-
  Contracts of functions of the program and words for memory, several texts in one: RefLock, RefUndo. Conditions: those stated with each.
-/
import Derived.Test.YtambkjnhfejfaaaGreatG18
namespace Go.Proofs.YtambkjnhfejfaaaGreat
open Go.RowKit
set_option linter.unusedVariables false
section
variable (key lp val : ByteArray) (ls : Int) (A : Option Addr) (n c : Nat) (l : List RecM) (st : Int) (pk pv : ByteArray) (w : World)
set_option maxHeartbeats 2000000 in
theorem locked_state (hi : RowIn w key lp val A n l) (hp : pk.size ≤ maxLen) (hv : pv.size ≤ maxLen) (t : rowB key ls lp val l = false) :
 Calls Tryz.prog 38 #[rowV key ls lp val A n c, .int .i64 st, .string pk, .string pv] w (RowOut2 ⟨#[]⟩ 0 ⟨#[]⟩ ⟨#[]⟩ [] 6 w) := by
 obtain ⟨W0, hW, k0, k1, k2, k3, k4, hz, hbW, hsW⟩ := box2_new w (.string key) (.int .i64 ls) (.string lp) (.string val) (.slice A n c)
 have HW := Lib.hid hW
 have HI := Lib.hid (hi.upto hbW)
 have HP := Lib.hid hp
 have HZ := Lib.hid hz
 unfold maxLen at hv
 have hlen := hi.l.len
 have hsz : w.heap.size + 1 < W0.heap.size := by omega
 clear hW hi hp hz hsW
 go_enter Tryz.func38, Tryz.ntmps38
 go_wp2_with fail
 rw [← HW.out]
 refine (refStatus_state key lp val ls A n c l st W0 HI.out t).mono ?_
 rintro e w1 ⟨rfl, hb1⟩
 obtain ⟨z0, z1, z2, z3, z4, u0, u1, u2, u3, u4⟩ := zero_facts (HZ.out.keep (hb1.block _ hsz))
 obtain ⟨g0, g1, g2, g3, g4, _⟩ := boxS k0 k1 k2 k3 k4 hb1
 go_wp2
 refine bodyPost_ret (v := .tuple #[rowV ⟨#[]⟩ 0 ⟨#[]⟩ ⟨#[]⟩ none 0 0, .int .i64 6]) (by simp [results, Tryz.results38, go_sem, z0, z1, z2, z3, z4]) rfl ⟨none, 0, rfl, RecsAt.nil_ _ _ _, ⟨newAt_none _, Nat.le_refl _⟩, ?_⟩
 have hbw : Below w.heap.size w w1 := below_next hbW hb1
 repeat (refine below_set ?_ (by simp) _)
 exact hbw
set_option maxHeartbeats 2000000 in
theorem locked_range (hi : RowIn w key lp val A n l) (hp : pk.size ≤ maxLen) (hv : pv.size ≤ maxLen) (t : rowB key ls lp val l = true) (t2 : inB st 1 1099511627776 = false) :
 Calls Tryz.prog 38 #[rowV key ls lp val A n c, .int .i64 st, .string pk, .string pv] w (RowOut2 ⟨#[]⟩ 0 ⟨#[]⟩ ⟨#[]⟩ [] 2 w) := by
 obtain ⟨W0, hW, k0, k1, k2, k3, k4, hz, hbW, hsW⟩ := box2_new w (.string key) (.int .i64 ls) (.string lp) (.string val) (.slice A n c)
 have HW := Lib.hid hW
 have HI := Lib.hid (hi.upto hbW)
 have HP := Lib.hid hp
 have HZ := Lib.hid hz
 unfold maxLen at hv
 have hlen := hi.l.len
 have hsz : w.heap.size + 1 < W0.heap.size := by omega
 clear hW hi hp hz hsW
 go_enter Tryz.func38, Tryz.ntmps38
 go_wp2_with fail
 rw [← HW.out]
 refine (refStatus_range key lp val ls A n c l st W0 HI.out t t2).mono ?_
 rintro e w1 ⟨rfl, hb1⟩
 obtain ⟨z0, z1, z2, z3, z4, u0, u1, u2, u3, u4⟩ := zero_facts (HZ.out.keep (hb1.block _ hsz))
 obtain ⟨g0, g1, g2, g3, g4, _⟩ := boxS k0 k1 k2 k3 k4 hb1
 go_wp2
 refine bodyPost_ret (v := .tuple #[rowV ⟨#[]⟩ 0 ⟨#[]⟩ ⟨#[]⟩ none 0 0, .int .i64 2]) (by simp [results, Tryz.results38, go_sem, z0, z1, z2, z3, z4]) rfl ⟨none, 0, rfl, RecsAt.nil_ _ _ _, ⟨newAt_none _, Nat.le_refl _⟩, ?_⟩
 have hbw : Below w.heap.size w w1 := below_next hbW hb1
 repeat (refine below_set ?_ (by simp) _)
 exact hbw
set_option maxHeartbeats 2000000 in
theorem locked_form (hi : RowIn w key lp val A n l) (hp : pk.size ≤ maxLen) (hv : pv.size ≤ maxLen) (t : rowB key ls lp val l = true) (t2 : inB st 1 1099511627776 = true) (t3 : keyB pk = false) :
 Calls Tryz.prog 38 #[rowV key ls lp val A n c, .int .i64 st, .string pk, .string pv] w (RowOut2 ⟨#[]⟩ 0 ⟨#[]⟩ ⟨#[]⟩ [] 4 w) := by
 obtain ⟨W0, hW, k0, k1, k2, k3, k4, hz, hbW, hsW⟩ := box2_new w (.string key) (.int .i64 ls) (.string lp) (.string val) (.slice A n c)
 have HW := Lib.hid hW
 have HI := Lib.hid (hi.upto hbW)
 have HP := Lib.hid hp
 have HZ := Lib.hid hz
 unfold maxLen at hv
 have hlen := hi.l.len
 have hsz : w.heap.size + 1 < W0.heap.size := by omega
 clear hW hi hp hz hsW
 go_enter Tryz.func38, Tryz.ntmps38
 go_wp2_with fail
 rw [← HW.out]
 refine (refStatus_ok key lp val ls A n c l st W0 HI.out t t2).mono ?_
 rintro e w1 ⟨rfl, hb1⟩
 obtain ⟨z0, z1, z2, z3, z4, u0, u1, u2, u3, u4⟩ := zero_facts (HZ.out.keep (hb1.block _ hsz))
 obtain ⟨g0, g1, g2, g3, g4, _⟩ := boxS k0 k1 k2 k3 k4 hb1
 go_wp2_with (go_at_call 18; refine (keyMay_any _ _ HP.out).mono ?_; rintro e w' ⟨rfl, rfl⟩)
 refine bodyPost_ret (v := .tuple #[rowV ⟨#[]⟩ 0 ⟨#[]⟩ ⟨#[]⟩ none 0 0, .int .i64 4]) (by simp [results, Tryz.results38, go_sem, z0, z1, z2, z3, z4]) rfl ⟨none, 0, rfl, RecsAt.nil_ _ _ _, ⟨newAt_none _, Nat.le_refl _⟩, ?_⟩
 have hbw : Below w.heap.size w w1 := below_next hbW hb1
 repeat (refine below_set ?_ (by simp) _)
 exact hbw
set_option maxHeartbeats 2000000 in
theorem locked_size (hi : RowIn w key lp val A n l) (hp : pk.size ≤ maxLen) (hv : pv.size ≤ maxLen) (t : rowB key ls lp val l = true) (t2 : inB st 1 1099511627776 = true) (t3 : keyB pk = true) (t4 : 20 < pv.size) :
 Calls Tryz.prog 38 #[rowV key ls lp val A n c, .int .i64 st, .string pk, .string pv] w (RowOut2 ⟨#[]⟩ 0 ⟨#[]⟩ ⟨#[]⟩ [] 1 w) := by
 obtain ⟨W0, hW, k0, k1, k2, k3, k4, hz, hbW, hsW⟩ := box2_new w (.string key) (.int .i64 ls) (.string lp) (.string val) (.slice A n c)
 have HW := Lib.hid hW
 have HI := Lib.hid (hi.upto hbW)
 have HP := Lib.hid hp
 have HZ := Lib.hid hz
 unfold maxLen at hv
 have hlen := hi.l.len
 have hsz : w.heap.size + 1 < W0.heap.size := by omega
 clear hW hi hp hz hsW
 have d4 : decide (20 < (pv.size : Int)) = true := by simp; omega
 go_enter Tryz.func38, Tryz.ntmps38
 go_wp2_with fail
 rw [← HW.out]
 refine (refStatus_ok key lp val ls A n c l st W0 HI.out t t2).mono ?_
 rintro e w1 ⟨rfl, hb1⟩
 obtain ⟨z0, z1, z2, z3, z4, u0, u1, u2, u3, u4⟩ := zero_facts (HZ.out.keep (hb1.block _ hsz))
 obtain ⟨g0, g1, g2, g3, g4, _⟩ := boxS k0 k1 k2 k3 k4 hb1
 go_wp2_with (go_at_call 18; refine (keyMay_any _ _ HP.out).mono ?_; rintro e w' ⟨rfl, rfl⟩)
 refine bodyPost_ret (v := .tuple #[rowV ⟨#[]⟩ 0 ⟨#[]⟩ ⟨#[]⟩ none 0 0, .int .i64 1]) (by simp [results, Tryz.results38, go_sem, z0, z1, z2, z3, z4]) rfl ⟨none, 0, rfl, RecsAt.nil_ _ _ _, ⟨newAt_none _, Nat.le_refl _⟩, ?_⟩
 have hbw : Below w.heap.size w w1 := below_next hbW hb1
 repeat (refine below_set ?_ (by simp) _)
 exact hbw
set_option maxHeartbeats 2000000 in
theorem locked_gone (hi : RowIn w key lp val A n l) (hp : pk.size ≤ maxLen) (hv : pv.size ≤ maxLen) (t : rowB key ls lp val l = true) (t2 : inB st 1 1099511627776 = true) (t3 : keyB pk = true) (t4 : ¬ 20 < pv.size) (t5 : (stOf ls st l == 3) = true) :
 Calls Tryz.prog 38 #[rowV key ls lp val A n c, .int .i64 st, .string pk, .string pv] w (RowOut2 ⟨#[]⟩ 0 ⟨#[]⟩ ⟨#[]⟩ [] 9 w) := by
 obtain ⟨W0, hW, k0, k1, k2, k3, k4, hz, hbW, hsW⟩ := box2_new w (.string key) (.int .i64 ls) (.string lp) (.string val) (.slice A n c)
 have HW := Lib.hid hW
 have HI := Lib.hid (hi.upto hbW)
 have HP := Lib.hid hp
 have HZ := Lib.hid hz
 unfold maxLen at hv
 have hlen := hi.l.len
 have hsz : w.heap.size + 1 < W0.heap.size := by omega
 clear hW hi hp hz hsW
 have d4 : decide (20 < (pv.size : Int)) = false := by simp; omega
 go_enter Tryz.func38, Tryz.ntmps38
 go_wp2_with fail
 rw [← HW.out]
 refine (refStatus_ok key lp val ls A n c l st W0 HI.out t t2).mono ?_
 rintro e w1 ⟨rfl, hb1⟩
 obtain ⟨z0, z1, z2, z3, z4, u0, u1, u2, u3, u4⟩ := zero_facts (HZ.out.keep (hb1.block _ hsz))
 obtain ⟨g0, g1, g2, g3, g4, _⟩ := boxS k0 k1 k2 k3 k4 hb1
 go_wp2_with (go_at_call 18; refine (keyMay_any _ _ HP.out).mono ?_; rintro e w' ⟨rfl, rfl⟩)
 refine bodyPost_ret (v := .tuple #[rowV ⟨#[]⟩ 0 ⟨#[]⟩ ⟨#[]⟩ none 0 0, .int .i64 9]) (by simp [results, Tryz.results38, go_sem, z0, z1, z2, z3, z4]) rfl ⟨none, 0, rfl, RecsAt.nil_ _ _ _, ⟨newAt_none _, Nat.le_refl _⟩, ?_⟩
 have hbw : Below w.heap.size w w1 := below_next hbW hb1
 repeat (refine below_set ?_ (by simp) _)
 exact hbw
set_option maxHeartbeats 2000000 in
theorem locked_late (hi : RowIn w key lp val A n l) (hp : pk.size ≤ maxLen) (hv : pv.size ≤ maxLen) (t : rowB key ls lp val l = true) (t2 : inB st 1 1099511627776 = true) (t3 : keyB pk = true) (t4 : ¬ 20 < pv.size) (t5 : (stOf ls st l == 3) = false) (t6 : lateB st l = true) :
 Calls Tryz.prog 38 #[rowV key ls lp val A n c, .int .i64 st, .string pk, .string pv] w (RowOut2 ⟨#[]⟩ 0 ⟨#[]⟩ ⟨#[]⟩ [] 8 w) := by
 obtain ⟨W0, hW, k0, k1, k2, k3, k4, hz, hbW, hsW⟩ := box2_new w (.string key) (.int .i64 ls) (.string lp) (.string val) (.slice A n c)
 have HW := Lib.hid hW
 have HI := Lib.hid (hi.upto hbW)
 have HP := Lib.hid hp
 have HZ := Lib.hid hz
 unfold maxLen at hv
 have hlen := hi.l.len
 have hsz : w.heap.size + 1 < W0.heap.size := by omega
 clear hW hi hp hz hsW
 have HT := Lib.hid t6
 clear t6
 have d4 : decide (20 < (pv.size : Int)) = false := by simp; omega
 have hn := HI.out.n
 subst hn
 go_enter Tryz.func38, Tryz.ntmps38
 go_wp2_with fail
 rw [← HW.out]
 refine (refStatus_ok key lp val ls A l.length c l st W0 HI.out t t2).mono ?_
 rintro e w1 ⟨rfl, hb1⟩
 obtain ⟨z0, z1, z2, z3, z4, u0, u1, u2, u3, u4⟩ := zero_facts (HZ.out.keep (hb1.block _ hsz))
 obtain ⟨g0, g1, g2, g3, g4, _⟩ := boxS k0 k1 k2 k3 k4 hb1
 go_wp2_with (go_at_call 18; refine (keyMay_any _ _ HP.out).mono ?_; rintro e w' ⟨rfl, rfl⟩)
 go_loop [13] (fun i => ∃ k : Nat, k ≤ l.length ∧ i = .int .i64 k ∧ ∀ j, j < k → (l.getD j default).c ≤ st) (fun i => l.length - (intOf i).toNat)
 case atStart => exact ⟨0, Nat.zero_le _, rfl, fun _ h => absurd h (by omega)⟩
 case round =>
  obtain ⟨k, hk, rfl, hx⟩ := hrel
  have HX := Lib.hid hx
  clear hx
  by_cases hm : k < l.length
  ·obtain ⟨b, o, rfl, hbb, hr⟩ := (HI.out.l.upto hb1).at_ (getD_of hm)
   have c1 := hr.c
   obtain ⟨rc, hrc⟩ : ∃ rc, rc = (l.getD k default).c := ⟨_, rfl⟩
   rw [← hrc] at c1
   have HR := Lib.hid hrc
   clear hrc hr
   by_cases q : st < rc
   ·go_wp2
    refine bodyPost_ret (v := .tuple #[rowV ⟨#[]⟩ 0 ⟨#[]⟩ ⟨#[]⟩ none 0 0, .int .i64 8]) (by simp [results, Tryz.results38, go_sem, z0, z1, z2, z3, z4]) rfl ⟨none, 0, rfl, RecsAt.nil_ _ _ _, ⟨newAt_none _, Nat.le_refl _⟩, ?_⟩
    have hbw : Below w.heap.size w w1 := below_next hbW hb1
    repeat (refine below_set ?_ (by simp) _)
    exact hbw
   ·go_wp2
    go_round
    case rel => exact ⟨k + 1, by omega, by go_num, fun j hj => by
     by_cases e : j = k
     ·subst e; rw [← HR.out]; omega
     ·exact HX.out j (by omega)⟩
    case measure => simp [intOf]; omega
  ·have HNL := Lib.hid (late_none (st := st) (l := l) fun j hj => HX.out j (by omega))
   exact absurd HT.out (by rw [HNL.out]; simp)
set_option maxHeartbeats 2000000 in
theorem locked_busy (hi : RowIn w key lp val A n l) (hp : pk.size ≤ maxLen) (hv : pv.size ≤ maxLen) (t : rowB key ls lp val l = true) (t2 : inB st 1 1099511627776 = true) (t3 : keyB pk = true) (t4 : ¬ 20 < pv.size) (t5 : (stOf ls st l == 3) = false) (t6 : lateB st l = false) (t7 : (ls != 0) = true) :
 Calls Tryz.prog 38 #[rowV key ls lp val A n c, .int .i64 st, .string pk, .string pv] w (RowOut2 ⟨#[]⟩ 0 ⟨#[]⟩ ⟨#[]⟩ [] 7 w) := by
 obtain ⟨W0, hW, k0, k1, k2, k3, k4, hz, hbW, hsW⟩ := box2_new w (.string key) (.int .i64 ls) (.string lp) (.string val) (.slice A n c)
 have HW := Lib.hid hW
 have HI := Lib.hid (hi.upto hbW)
 have HP := Lib.hid hp
 have HZ := Lib.hid hz
 unfold maxLen at hv
 have hlen := hi.l.len
 have hsz : w.heap.size + 1 < W0.heap.size := by omega
 clear hW hi hp hz hsW
 have HT := Lib.hid t6
 clear t6
 have d4 : decide (20 < (pv.size : Int)) = false := by simp; omega
 have hn := HI.out.n
 subst hn
 go_enter Tryz.func38, Tryz.ntmps38
 go_wp2_with fail
 rw [← HW.out]
 refine (refStatus_ok key lp val ls A l.length c l st W0 HI.out t t2).mono ?_
 rintro e w1 ⟨rfl, hb1⟩
 obtain ⟨z0, z1, z2, z3, z4, u0, u1, u2, u3, u4⟩ := zero_facts (HZ.out.keep (hb1.block _ hsz))
 obtain ⟨g0, g1, g2, g3, g4, _⟩ := boxS k0 k1 k2 k3 k4 hb1
 go_wp2_with (go_at_call 18; refine (keyMay_any _ _ HP.out).mono ?_; rintro e w' ⟨rfl, rfl⟩)
 go_loop [13] (fun i => ∃ k : Nat, k ≤ l.length ∧ i = .int .i64 k ∧ ∀ j, j < k → (l.getD j default).c ≤ st) (fun i => l.length - (intOf i).toNat)
 case atStart => exact ⟨0, Nat.zero_le _, rfl, fun _ h => absurd h (by omega)⟩
 case round =>
  obtain ⟨k, hk, rfl, hx⟩ := hrel
  have HX := Lib.hid hx
  clear hx
  by_cases hm : k < l.length
  ·obtain ⟨b, o, rfl, hbb, hr⟩ := (HI.out.l.upto hb1).at_ (getD_of hm)
   have c1 := hr.c
   obtain ⟨rc, hrc⟩ : ∃ rc, rc = (l.getD k default).c := ⟨_, rfl⟩
   rw [← hrc] at c1
   have HR := Lib.hid hrc
   clear hrc hr
   by_cases q : st < rc
   ·exact absurd (late_at hm (HR.out ▸ q)) (by rw [HT.out]; simp)
   ·go_wp2
    go_round
    case rel => exact ⟨k + 1, by omega, by go_num, fun j hj => by
     by_cases e : j = k
     ·subst e; rw [← HR.out]; omega
     ·exact HX.out j (by omega)⟩
    case measure => simp [intOf]; omega
  ·have HNL := Lib.hid (late_none (st := st) (l := l) fun j hj => HX.out j (by omega))
   go_wp2
   refine bodyPost_ret (v := .tuple #[rowV ⟨#[]⟩ 0 ⟨#[]⟩ ⟨#[]⟩ none 0 0, .int .i64 7]) (by simp [results, Tryz.results38, go_sem, z0, z1, z2, z3, z4]) rfl ⟨none, 0, rfl, RecsAt.nil_ _ _ _, ⟨newAt_none _, Nat.le_refl _⟩, ?_⟩
   have hbw : Below w.heap.size w w1 := below_next hbW hb1
   repeat (refine below_set ?_ (by simp) _)
   exact hbw
set_option maxHeartbeats 2000000 in
theorem locked_full (hi : RowIn w key lp val A n l) (hp : pk.size ≤ maxLen) (hv : pv.size ≤ maxLen) (t : rowB key ls lp val l = true) (t2 : inB st 1 1099511627776 = true) (t3 : keyB pk = true) (t4 : ¬ 20 < pv.size) (t5 : (stOf ls st l == 3) = false) (t6 : lateB st l = false) (t7 : (ls != 0) = false) (t8 : 100 ≤ l.length) :
 Calls Tryz.prog 38 #[rowV key ls lp val A n c, .int .i64 st, .string pk, .string pv] w (RowOut2 ⟨#[]⟩ 0 ⟨#[]⟩ ⟨#[]⟩ [] 1 w) := by
 obtain ⟨W0, hW, k0, k1, k2, k3, k4, hz, hbW, hsW⟩ := box2_new w (.string key) (.int .i64 ls) (.string lp) (.string val) (.slice A n c)
 have HW := Lib.hid hW
 have HI := Lib.hid (hi.upto hbW)
 have HP := Lib.hid hp
 have HZ := Lib.hid hz
 unfold maxLen at hv
 have hlen := hi.l.len
 have hsz : w.heap.size + 1 < W0.heap.size := by omega
 clear hW hi hp hz hsW
 have HT := Lib.hid t6
 clear t6
 have d4 : decide (20 < (pv.size : Int)) = false := by simp; omega
 have hn := HI.out.n
 subst hn
 go_enter Tryz.func38, Tryz.ntmps38
 go_wp2_with fail
 rw [← HW.out]
 refine (refStatus_ok key lp val ls A l.length c l st W0 HI.out t t2).mono ?_
 rintro e w1 ⟨rfl, hb1⟩
 obtain ⟨z0, z1, z2, z3, z4, u0, u1, u2, u3, u4⟩ := zero_facts (HZ.out.keep (hb1.block _ hsz))
 obtain ⟨g0, g1, g2, g3, g4, _⟩ := boxS k0 k1 k2 k3 k4 hb1
 go_wp2_with (go_at_call 18; refine (keyMay_any _ _ HP.out).mono ?_; rintro e w' ⟨rfl, rfl⟩)
 go_loop [13] (fun i => ∃ k : Nat, k ≤ l.length ∧ i = .int .i64 k ∧ ∀ j, j < k → (l.getD j default).c ≤ st) (fun i => l.length - (intOf i).toNat)
 case atStart => exact ⟨0, Nat.zero_le _, rfl, fun _ h => absurd h (by omega)⟩
 case round =>
  obtain ⟨k, hk, rfl, hx⟩ := hrel
  have HX := Lib.hid hx
  clear hx
  by_cases hm : k < l.length
  ·obtain ⟨b, o, rfl, hbb, hr⟩ := (HI.out.l.upto hb1).at_ (getD_of hm)
   have c1 := hr.c
   obtain ⟨rc, hrc⟩ : ∃ rc, rc = (l.getD k default).c := ⟨_, rfl⟩
   rw [← hrc] at c1
   have HR := Lib.hid hrc
   clear hrc hr
   by_cases q : st < rc
   ·exact absurd (late_at hm (HR.out ▸ q)) (by rw [HT.out]; simp)
   ·go_wp2
    go_round
    case rel => exact ⟨k + 1, by omega, by go_num, fun j hj => by
     by_cases e : j = k
     ·subst e; rw [← HR.out]; omega
     ·exact HX.out j (by omega)⟩
    case measure => simp [intOf]; omega
  ·have HNL := Lib.hid (late_none (st := st) (l := l) fun j hj => HX.out j (by omega))
   go_wp2
   refine bodyPost_ret (v := .tuple #[rowV ⟨#[]⟩ 0 ⟨#[]⟩ ⟨#[]⟩ none 0 0, .int .i64 1]) (by simp [results, Tryz.results38, go_sem, z0, z1, z2, z3, z4]) rfl ⟨none, 0, rfl, RecsAt.nil_ _ _ _, ⟨newAt_none _, Nat.le_refl _⟩, ?_⟩
   have hbw : Below w.heap.size w w1 := below_next hbW hb1
   repeat (refine below_set ?_ (by simp) _)
   exact hbw
set_option maxHeartbeats 4000000 in
theorem locked_ok (hi : RowIn w key lp val A n l) (hp : pk.size ≤ maxLen) (hv : pv.size ≤ maxLen) (t : rowB key ls lp val l = true) (t2 : inB st 1 1099511627776 = true) (t3 : keyB pk = true) (t4 : ¬ 20 < pv.size) (t5 : (stOf ls st l == 3) = false) (t6 : lateB st l = false) (t7 : (ls != 0) = false) (t8 : ¬ 100 ≤ l.length) :
 Calls Tryz.prog 38 #[rowV key ls lp val A n c, .int .i64 st, .string pk, .string pv] w (RowOut2 key st pk pv l 0 w) := by
 obtain ⟨W0, hW, k0, k1, k2, k3, k4, hz, hbW, hsW⟩ := box2_new w (.string key) (.int .i64 ls) (.string lp) (.string val) (.slice A n c)
 have HW := Lib.hid hW
 have HI := Lib.hid (hi.upto hbW)
 have HP := Lib.hid hp
 have HZ := Lib.hid hz
 unfold maxLen at hv
 have hlen := hi.l.len
 have hsz : w.heap.size + 1 < W0.heap.size := by omega
 clear hW hi hp hz hsW
 have HT := Lib.hid t6
 clear t6
 have d4 : decide (20 < (pv.size : Int)) = false := by simp; omega
 have hn := HI.out.n
 subst hn
 go_enter Tryz.func38, Tryz.ntmps38
 go_wp2_with fail
 rw [← HW.out]
 refine (refStatus_ok key lp val ls A l.length c l st W0 HI.out t t2).mono ?_
 rintro e w1 ⟨rfl, hb1⟩
 obtain ⟨z0, z1, z2, z3, z4, u0, u1, u2, u3, u4⟩ := zero_facts (HZ.out.keep (hb1.block _ hsz))
 obtain ⟨g0, g1, g2, g3, g4, _⟩ := boxS k0 k1 k2 k3 k4 hb1
 go_wp2_with (go_at_call 18; refine (keyMay_any _ _ HP.out).mono ?_; rintro e w' ⟨rfl, rfl⟩)
 go_loop [13] (fun i => ∃ k : Nat, k ≤ l.length ∧ i = .int .i64 k ∧ ∀ j, j < k → (l.getD j default).c ≤ st) (fun i => l.length - (intOf i).toNat)
 case atStart => exact ⟨0, Nat.zero_le _, rfl, fun _ h => absurd h (by omega)⟩
 case round =>
  obtain ⟨k, hk, rfl, hx⟩ := hrel
  have HX := Lib.hid hx
  clear hx
  by_cases hm : k < l.length
  ·obtain ⟨b, o, rfl, hbb, hr⟩ := (HI.out.l.upto hb1).at_ (getD_of hm)
   have c1 := hr.c
   obtain ⟨rc, hrc⟩ : ∃ rc, rc = (l.getD k default).c := ⟨_, rfl⟩
   rw [← hrc] at c1
   have HR := Lib.hid hrc
   clear hrc hr
   by_cases q : st < rc
   ·exact absurd (late_at hm (HR.out ▸ q)) (by rw [HT.out]; simp)
   ·go_wp2
    go_round
    case rel => exact ⟨k + 1, by omega, by go_num, fun j hj => by
     by_cases e : j = k
     ·subst e; rw [← HR.out]; omega
     ·exact HX.out j (by omega)⟩
    case measure => simp [intOf]; omega
  ·have HNL := Lib.hid (late_none (st := st) (l := l) fun j hj => HX.out j (by omega))
   go_wp2_with fail
   refine (refCopy_any key lp val ls A l.length c l w1 rfl (HI.out.l.upto hb1)).mono ?_
   rintro e w2 ⟨A2, c2, rfl, hr2, hnew, hb2⟩
   have HN := Lib.hid hnew
   have hs1 : w.heap.size + 1 < w1.heap.size := by have := hb1.size; omega
   have HR := Lib.hid hr2
   have hb12 : Below W0.heap.size W0 w2 := below_next hb1 hb2
   have hs2 : w.heap.size + 1 < w2.heap.size := by have := hb12.size; omega
   clear hnew hr2 z0 z1 z2 z3 z4 u0 u1 u2 u3 u4
   obtain ⟨z0, z1, z2, z3, z4, u0, u1, u2, u3, u4⟩ := zero_facts (HZ.out.keep (hb12.block _ hsz))
   go_wp2
   refine bodyPost_ret (v := .tuple #[rowV key st pk pv A2 l.length c2, .int .i64 0]) (by simp [results, Tryz.results38, go_sem, z0, z1, z2, z3, z4, hs2]) rfl ⟨A2, c2, rfl, ?_, ⟨fun ad h => by have := HN.out.1 ad h; omega, HN.out.2⟩, ?_⟩
   ·refine (RecsAt.alloc ?_ (Nat.le_refl _) _).more (by simp)
    have e : ∀ (W : World) (p : Addr) (u : Value), (W.setCell p u).heap.size = W.heap.size := fun W p u => by simp [World.setCell]
    rw [e, e, e, e, e]
    repeat (refine RecsAt.setLow ?_ HN.out.1 hs1 _)
    exact HR.out
   ·have hbw : Below w.heap.size w w2 := below_next hbW hb12
    refine below_alloc ?_ _
    repeat (refine below_set ?_ (by simp) _)
    exact hbw
theorem lockedOf_err (hi : RowIn w key lp val A n l) (hp : pk.size ≤ maxLen) (hv : pv.size ≤ maxLen) (h : lockE key ls lp val l st pk pv ≠ 0) : Calls Tryz.prog 38 #[rowV key ls lp val A n c, .int .i64 st, .string pk, .string pv] w (RowOut2 ⟨#[]⟩ 0 ⟨#[]⟩ ⟨#[]⟩ [] (lockE key ls lp val l st pk pv) w) := by
 unfold lockE at h ⊢
 split
 ·exact locked_state key lp val ls A n c l st pk pv w hi hp hv ‹_›
 rename_i t
 rw [if_neg t] at h
 have t' : rowB key ls lp val l = true := by simpa using t
 split
 ·exact locked_range key lp val ls A n c l st pk pv w hi hp hv t' ‹_›
 rename_i t2
 rw [if_neg t2] at h
 have t2' : inB st 1 1099511627776 = true := by simpa using t2
 split
 ·exact locked_form key lp val ls A n c l st pk pv w hi hp hv t' t2' ‹_›
 rename_i t3
 rw [if_neg t3] at h
 have t3' : keyB pk = true := by simpa using t3
 split
 ·exact locked_size key lp val ls A n c l st pk pv w hi hp hv t' t2' t3' ‹_›
 rename_i t4
 rw [if_neg t4] at h
 split
 ·rename_i t5
  exact locked_gone key lp val ls A n c l st pk pv w hi hp hv t' t2' t3' t4 (by simpa using t5)
 rename_i t5
 rw [if_neg t5] at h
 split
 ·rename_i t6
  exact locked_late key lp val ls A n c l st pk pv w hi hp hv t' t2' t3' t4 (by simpa using t5) t6
 rename_i t6
 rw [if_neg t6] at h
 split
 ·rename_i t7
  exact locked_busy key lp val ls A n c l st pk pv w hi hp hv t' t2' t3' t4 (by simpa using t5) (by simpa using t6) (by simpa using t7)
 rename_i t7
 rw [if_neg t7] at h
 split
 ·rename_i t8
  exact locked_full key lp val ls A n c l st pk pv w hi hp hv t' t2' t3' t4 (by simpa using t5) (by simpa using t6) (by simpa using t7) t8
 ·rename_i t8
  rw [if_neg t8] at h
  exact absurd rfl h
theorem lockedOf_ok (hi : RowIn w key lp val A n l) (hp : pk.size ≤ maxLen) (hv : pv.size ≤ maxLen) (h : lockE key ls lp val l st pk pv = 0) : Calls Tryz.prog 38 #[rowV key ls lp val A n c, .int .i64 st, .string pk, .string pv] w (RowOut2 key st pk pv l 0 w) := by
 unfold lockE at h
 split at h
 ·omega
 rename_i t
 split at h
 ·omega
 rename_i t2
 split at h
 ·omega
 rename_i t3
 split at h
 ·omega
 rename_i t4
 split at h
 ·omega
 rename_i t5
 split at h
 ·omega
 rename_i t6
 split at h
 ·omega
 rename_i t7
 split at h
 ·omega
 rename_i t8
 exact locked_ok key lp val ls A n c l st pk pv w hi hp hv (by simpa using t) (by simpa using t2) (by simpa using t3) t4 (by simpa using t5) (by simpa using t6) (by simpa using t7) t8
end
theorem stOf_cases (ls st : Int) (l : List RecM) : stOf ls st l = 0 ∨ stOf ls st l = 1 ∨ stOf ls st l = 2 ∨ stOf ls st l = 3 := by
 unfold stOf
 split
 ·exact .inr (.inl rfl)
 ·split
  ·split
   ·exact .inr (.inr (.inr rfl))
   ·exact .inr (.inr (.inl rfl))
  ·exact .inl rfl
section
variable (key lp val : ByteArray) (ls : Int) (A : Option Addr) (n c : Nat) (l : List RecM) (st : Int) (w : World)
set_option maxHeartbeats 8000000 in
theorem undone_state (hi : RowIn w key lp val A n l) (t : rowB key ls lp val l = false) :
 Calls Tryz.prog 62 #[rowV key ls lp val A n c, .int .i64 st] w (RowOut2 ⟨#[]⟩ 0 ⟨#[]⟩ ⟨#[]⟩ [] 6 w) := by
 obtain ⟨W0, hW, k0, k1, k2, k3, k4, hz, hbW, hsW⟩ := box2_new w (.string key) (.int .i64 ls) (.string lp) (.string val) (.slice A n c)
 have HW := Lib.hid hW
 have HI0 := Lib.hid hi
 have HI := Lib.hid (hi.upto hbW)
 have HZ := Lib.hid hz
 have hlen := hi.l.len
 have hsz : w.heap.size + 1 < W0.heap.size := by omega
 clear hW hi hz hsW
 go_enter Tryz.func62, Tryz.ntmps62
 go_wp2_with fail
 rw [← HW.out]
 refine (refStatus_state key lp val ls A n c l st W0 HI.out t).mono ?_
 rintro e w1 ⟨rfl, hb1⟩
 obtain ⟨g0, g1, g2, g3, g4, _⟩ := boxS k0 k1 k2 k3 k4 hb1
 have hs1 : w.heap.size + 1 < w1.heap.size := by have := hb1.size; omega
 have hw1 : Below w.heap.size w w1 := below_next hbW hb1
 obtain ⟨z0, z1, z2, z3, z4, u0, u1, u2, u3, u4⟩ := zero_facts (HZ.out.keep (hb1.block _ hsz))
 go_wp2
 refine bodyPost_ret (v := .tuple #[rowV ⟨#[]⟩ 0 ⟨#[]⟩ ⟨#[]⟩ none 0 0, .int .i64 6]) (by simp [results, Tryz.results62, go_sem, z0, z1, z2, z3, z4]) rfl ⟨none, 0, rfl, RecsAt.nil_ _ _ _, ⟨newAt_none _, Nat.le_refl _⟩, ?_⟩
 have hbw : Below w.heap.size w w1 := hw1
 repeat (refine below_set ?_ (by simp) _)
 exact hbw
set_option maxHeartbeats 8000000 in
theorem undone_range (hi : RowIn w key lp val A n l) (t : rowB key ls lp val l = true) (t2 : inB st 1 1099511627776 = false) :
 Calls Tryz.prog 62 #[rowV key ls lp val A n c, .int .i64 st] w (RowOut2 ⟨#[]⟩ 0 ⟨#[]⟩ ⟨#[]⟩ [] 2 w) := by
 obtain ⟨W0, hW, k0, k1, k2, k3, k4, hz, hbW, hsW⟩ := box2_new w (.string key) (.int .i64 ls) (.string lp) (.string val) (.slice A n c)
 have HW := Lib.hid hW
 have HI0 := Lib.hid hi
 have HI := Lib.hid (hi.upto hbW)
 have HZ := Lib.hid hz
 have hlen := hi.l.len
 have hsz : w.heap.size + 1 < W0.heap.size := by omega
 clear hW hi hz hsW
 go_enter Tryz.func62, Tryz.ntmps62
 go_wp2_with fail
 rw [← HW.out]
 refine (refStatus_range key lp val ls A n c l st W0 HI.out t t2).mono ?_
 rintro e w1 ⟨rfl, hb1⟩
 obtain ⟨g0, g1, g2, g3, g4, _⟩ := boxS k0 k1 k2 k3 k4 hb1
 have hs1 : w.heap.size + 1 < w1.heap.size := by have := hb1.size; omega
 have hw1 : Below w.heap.size w w1 := below_next hbW hb1
 obtain ⟨z0, z1, z2, z3, z4, u0, u1, u2, u3, u4⟩ := zero_facts (HZ.out.keep (hb1.block _ hsz))
 go_wp2
 refine bodyPost_ret (v := .tuple #[rowV ⟨#[]⟩ 0 ⟨#[]⟩ ⟨#[]⟩ none 0 0, .int .i64 2]) (by simp [results, Tryz.results62, go_sem, z0, z1, z2, z3, z4]) rfl ⟨none, 0, rfl, RecsAt.nil_ _ _ _, ⟨newAt_none _, Nat.le_refl _⟩, ?_⟩
 have hbw : Below w.heap.size w w1 := hw1
 repeat (refine below_set ?_ (by simp) _)
 exact hbw
set_option maxHeartbeats 8000000 in
theorem undone_done (hi : RowIn w key lp val A n l) (t : rowB key ls lp val l = true) (t2 : inB st 1 1099511627776 = true) (t3 : (stOf ls st l == 2) = true) :
 Calls Tryz.prog 62 #[rowV key ls lp val A n c, .int .i64 st] w (RowOut2 ⟨#[]⟩ 0 ⟨#[]⟩ ⟨#[]⟩ [] 6 w) := by
 obtain ⟨W0, hW, k0, k1, k2, k3, k4, hz, hbW, hsW⟩ := box2_new w (.string key) (.int .i64 ls) (.string lp) (.string val) (.slice A n c)
 have HW := Lib.hid hW
 have HI0 := Lib.hid hi
 have HI := Lib.hid (hi.upto hbW)
 have HZ := Lib.hid hz
 have hlen := hi.l.len
 have hsz : w.heap.size + 1 < W0.heap.size := by omega
 clear hW hi hz hsW
 by_cases q0 : (ls != 0) = true
 all_goals
  try (have q0' : (ls != 0) = false := by simpa using q0)
  go_enter Tryz.func62, Tryz.ntmps62
  go_wp2_with fail
  rw [← HW.out]
  refine (refStatus_ok key lp val ls A n c l st W0 HI.out t t2).mono ?_
  rintro e w1 ⟨rfl, hb1⟩
  obtain ⟨g0, g1, g2, g3, g4, _⟩ := boxS k0 k1 k2 k3 k4 hb1
  have hs1 : w.heap.size + 1 < w1.heap.size := by have := hb1.size; omega
  have hw1 : Below w.heap.size w w1 := below_next hbW hb1
  obtain ⟨z0, z1, z2, z3, z4, u0, u1, u2, u3, u4⟩ := zero_facts (HZ.out.keep (hb1.block _ hsz))
  go_wp2
  refine bodyPost_ret (v := .tuple #[rowV ⟨#[]⟩ 0 ⟨#[]⟩ ⟨#[]⟩ none 0 0, .int .i64 6]) (by simp [results, Tryz.results62, go_sem, z0, z1, z2, z3, z4]) rfl ⟨none, 0, rfl, RecsAt.nil_ _ _ _, ⟨newAt_none _, Nat.le_refl _⟩, ?_⟩
  have hbw : Below w.heap.size w w1 := hw1
  repeat (refine below_set ?_ (by simp) _)
  exact hbw
set_option maxHeartbeats 8000000 in
theorem undone_gone (hi : RowIn w key lp val A n l) (t : rowB key ls lp val l = true) (t2 : inB st 1 1099511627776 = true) (t3 : (stOf ls st l == 2) = false) (t4 : (stOf ls st l == 3) = true) :
 Calls Tryz.prog 62 #[rowV key ls lp val A n c, .int .i64 st] w (RowOut2 key ls lp val l 0 w) := by
 obtain ⟨W0, hW, k0, k1, k2, k3, k4, hz, hbW, hsW⟩ := box2_new w (.string key) (.int .i64 ls) (.string lp) (.string val) (.slice A n c)
 have HW := Lib.hid hW
 have HI0 := Lib.hid hi
 have HI := Lib.hid (hi.upto hbW)
 have HZ := Lib.hid hz
 have hlen := hi.l.len
 have hsz : w.heap.size + 1 < W0.heap.size := by omega
 clear hW hi hz hsW
 by_cases q0 : (ls != 0) = true
 all_goals
  try (have q0' : (ls != 0) = false := by simpa using q0)
  go_enter Tryz.func62, Tryz.ntmps62
  go_wp2_with fail
  rw [← HW.out]
  refine (refStatus_ok key lp val ls A n c l st W0 HI.out t t2).mono ?_
  rintro e w1 ⟨rfl, hb1⟩
  obtain ⟨g0, g1, g2, g3, g4, _⟩ := boxS k0 k1 k2 k3 k4 hb1
  have hs1 : w.heap.size + 1 < w1.heap.size := by have := hb1.size; omega
  have hw1 : Below w.heap.size w w1 := below_next hbW hb1
  have HZ1 := Lib.hid (HZ.out.keep (hb1.block _ hsz))
  go_wp2_with fail
  refine (refCopy_any key lp val ls A n c l w1 HI0.out.n (HI0.out.l.upto hw1)).mono ?_
  rintro e w2 ⟨A2, c2, rfl, hr2, hnew, hb2⟩
  have HR2 := Lib.hid hr2
  have HN2 := Lib.hid hnew
  obtain ⟨z0, z1, z2, z3, z4, u0, u1, u2, u3, u4⟩ := zero_facts (HZ1.out.keep (hb2.block _ hs1))
  clear hr2 hnew
  go_wp2
  refine bodyPost_ret (v := .tuple #[rowV key ls lp val A2 l.length c2, .int .i64 0]) (by simp [results, Tryz.results62, go_sem, z0, z1, z2, z3, z4]) rfl ⟨A2, c2, rfl, ?_, ⟨fun ad h => by have := HN2.out.1 ad h; omega, HN2.out.2⟩, ?_⟩
  ·have e : ∀ (W : World) (p : Addr) (u : Value), (W.setCell p u).heap.size = W.heap.size := fun W p u => by simp [World.setCell]
   rw [e, e, e, e, e]
   repeat (refine RecsAt.setLow ?_ HN2.out.1 hs1 _)
   exact HR2.out
  ·have hbw : Below w.heap.size w w2 := below_next hw1 hb2
   repeat (refine below_set ?_ (by simp) _)
   exact hbw
set_option maxHeartbeats 8000000 in
theorem undone_held (hi : RowIn w key lp val A n l) (t : rowB key ls lp val l = true) (t2 : inB st 1 1099511627776 = true) (t3 : (stOf ls st l == 2) = false) (t4 : (stOf ls st l == 3) = false) (t5 : (stOf ls st l == 0) = false) (t6 : ls = st) (h99 : n ≤ 100) :
 Calls Tryz.prog 62 #[rowV key ls lp val A n c, .int .i64 st] w (RowOut2 key 0 ⟨#[]⟩ ⟨#[]⟩ (endRec l ⟨st, 0, ⟨#[]⟩⟩) 0 w) := by
 subst t6
 obtain ⟨W0, hW, k0, k1, k2, k3, k4, hz, hbW, hsW⟩ := box2_new w (.string key) (.int .i64 ls) (.string lp) (.string val) (.slice A n c)
 have HW := Lib.hid hW
 have HI0 := Lib.hid hi
 have HI := Lib.hid (hi.upto hbW)
 have HZ := Lib.hid hz
 have hlen := hi.l.len
 have hsz : w.heap.size + 1 < W0.heap.size := by omega
 clear hW hi hz hsW
 have HRK := Lib.hid (show RecOk ⟨ls, 0, ⟨#[]⟩⟩ from ⟨by have := inB_true.1 t2; unfold i64; dsimp only; omega, by unfold i64; dsimp only; omega, Nat.zero_le _⟩)
 have q0 : (ls != 0) = true := by have := (inB_true.1 t2).1; simp; omega
 go_enter Tryz.func62, Tryz.ntmps62
 go_wp2_with fail
 rw [← HW.out]
 refine (refStatus_ok key lp val ls A n c l ls W0 HI.out t t2).mono ?_
 rintro e w1 ⟨rfl, hb1⟩
 obtain ⟨g0, g1, g2, g3, g4, _⟩ := boxS k0 k1 k2 k3 k4 hb1
 have hs1 : w.heap.size + 1 < w1.heap.size := by have := hb1.size; omega
 have hw1 : Below w.heap.size w w1 := below_next hbW hb1
 have HZ1 := Lib.hid (HZ.out.keep (hb1.block _ hsz))
 go_wp2_with fail
 refine (ended_own key lp val A n c l ls 0 ⟨#[]⟩ w1 HI0.out.n h99 (HI0.out.l.upto hw1) HRK.out).mono ?_
 rintro e w2 ⟨A2, c2, rfl, hr2, hnew, hb2⟩
 have HR2 := Lib.hid hr2
 have HN2 := Lib.hid hnew
 obtain ⟨z0, z1, z2, z3, z4, u0, u1, u2, u3, u4⟩ := zero_facts (HZ1.out.keep (hb2.block _ hs1))
 clear hr2 hnew
 go_wp2
 refine bodyPost_ret (v := .tuple #[rowV key 0 ⟨#[]⟩ ⟨#[]⟩ A2 (endRec l ⟨ls, 0, ⟨#[]⟩⟩).length c2, .int .i64 0]) (by simp [results, Tryz.results62, go_sem, z0, z1, z2, z3, z4]) rfl ⟨A2, c2, rfl, ?_, ⟨fun ad h => by have := HN2.out.1 ad h; omega, HN2.out.2⟩, ?_⟩
 ·have e : ∀ (W : World) (p : Addr) (u : Value), (W.setCell p u).heap.size = W.heap.size := fun W p u => by simp [World.setCell]
  rw [e, e, e, e, e]
  repeat (refine RecsAt.setLow ?_ HN2.out.1 hs1 _)
  exact HR2.out
 ·have hbw : Below w.heap.size w w2 := below_next hw1 hb2
  repeat (refine below_set ?_ (by simp) _)
  exact hbw
set_option maxHeartbeats 8000000 in
theorem undone_full (hi : RowIn w key lp val A n l) (t : rowB key ls lp val l = true) (t2 : inB st 1 1099511627776 = true) (t3 : (stOf ls st l == 2) = false) (t4 : (stOf ls st l == 3) = false) (t5 : (stOf ls st l == 0) = true) (t6 : decide (roomOf ls ≤ (l.length : Int)) = true) :
 Calls Tryz.prog 62 #[rowV key ls lp val A n c, .int .i64 st] w (RowOut2 ⟨#[]⟩ 0 ⟨#[]⟩ ⟨#[]⟩ [] 1 w) := by
 obtain ⟨W0, hW, k0, k1, k2, k3, k4, hz, hbW, hsW⟩ := box2_new w (.string key) (.int .i64 ls) (.string lp) (.string val) (.slice A n c)
 have HW := Lib.hid hW
 have HI0 := Lib.hid hi
 have HI := Lib.hid (hi.upto hbW)
 have HZ := Lib.hid hz
 have hlen := hi.l.len
 have hsz : w.heap.size + 1 < W0.heap.size := by omega
 clear hW hi hz hsW
 have hn := HI0.out.n
 subst hn
 by_cases q0 : (ls != 0) = true
 all_goals
  first
  | (have hrm : roomOf ls = 99 := if_neg (by simpa using q0))
  | (have q0' : (ls != 0) = false := by simpa using q0
     have hrm : roomOf ls = 100 := if_pos (by simpa using q0))
  rw [hrm] at t6
  have HRM := Lib.hid hrm
  clear hrm
  go_enter Tryz.func62, Tryz.ntmps62
  go_wp2_with fail
  rw [← HW.out]
  refine (refStatus_ok key lp val ls A l.length c l st W0 HI.out t t2).mono ?_
  rintro e w1 ⟨rfl, hb1⟩
  obtain ⟨g0, g1, g2, g3, g4, _⟩ := boxS k0 k1 k2 k3 k4 hb1
  have hs1 : w.heap.size + 1 < w1.heap.size := by have := hb1.size; omega
  have hw1 : Below w.heap.size w w1 := below_next hbW hb1
  obtain ⟨z0, z1, z2, z3, z4, u0, u1, u2, u3, u4⟩ := zero_facts (HZ.out.keep (hb1.block _ hsz))
  go_wp2
  refine bodyPost_ret (v := .tuple #[rowV ⟨#[]⟩ 0 ⟨#[]⟩ ⟨#[]⟩ none 0 0, .int .i64 1]) (by simp [results, Tryz.results62, go_sem, z0, z1, z2, z3, z4]) rfl ⟨none, 0, rfl, RecsAt.nil_ _ _ _, ⟨newAt_none _, Nat.le_refl _⟩, ?_⟩
  have hbw : Below w.heap.size w w1 := hw1
  repeat (refine below_set ?_ (by simp) _)
  exact hbw
set_option maxHeartbeats 8000000 in
theorem undone_new (hi : RowIn w key lp val A n l) (t : rowB key ls lp val l = true) (t2 : inB st 1 1099511627776 = true) (t3 : (stOf ls st l == 2) = false) (t4 : (stOf ls st l == 3) = false) (t5 : (stOf ls st l == 0) = true) (t6 : decide (roomOf ls ≤ (l.length : Int)) = false) (t7 : (ls == st) = false) (h99 : n ≤ 100) :
 Calls Tryz.prog 62 #[rowV key ls lp val A n c, .int .i64 st] w (RowOut2 key ls lp val (endRec l ⟨st, 0, ⟨#[]⟩⟩) 0 w) := by
 obtain ⟨W0, hW, k0, k1, k2, k3, k4, hz, hbW, hsW⟩ := box2_new w (.string key) (.int .i64 ls) (.string lp) (.string val) (.slice A n c)
 have HW := Lib.hid hW
 have HI0 := Lib.hid hi
 have HI := Lib.hid (hi.upto hbW)
 have HZ := Lib.hid hz
 have hlen := hi.l.len
 have hsz : w.heap.size + 1 < W0.heap.size := by omega
 clear hW hi hz hsW
 have HRK := Lib.hid (show RecOk ⟨st, 0, ⟨#[]⟩⟩ from ⟨by have := inB_true.1 t2; unfold i64; dsimp only; omega, by unfold i64; dsimp only; omega, Nat.zero_le _⟩)
 have hn := HI0.out.n
 subst hn
 by_cases q0 : (ls != 0) = true
 all_goals
  first
  | (have hrm : roomOf ls = 99 := if_neg (by simpa using q0))
  | (have q0' : (ls != 0) = false := by simpa using q0
     have hrm : roomOf ls = 100 := if_pos (by simpa using q0))
  rw [hrm] at t6
  have HRM := Lib.hid hrm
  clear hrm
  go_enter Tryz.func62, Tryz.ntmps62
  go_wp2_with fail
  rw [← HW.out]
  refine (refStatus_ok key lp val ls A l.length c l st W0 HI.out t t2).mono ?_
  rintro e w1 ⟨rfl, hb1⟩
  obtain ⟨g0, g1, g2, g3, g4, _⟩ := boxS k0 k1 k2 k3 k4 hb1
  have hs1 : w.heap.size + 1 < w1.heap.size := by have := hb1.size; omega
  have hw1 : Below w.heap.size w w1 := below_next hbW hb1
  have HZ1 := Lib.hid (HZ.out.keep (hb1.block _ hsz))
  go_wp2_with fail
  refine (ended_other key lp val ls A l.length c l st 0 ⟨#[]⟩ w1 rfl h99 (HI0.out.l.upto hw1) HRK.out t7).mono ?_
  rintro e w2 ⟨A2, c2, rfl, hr2, hnew, hb2⟩
  have HR2 := Lib.hid hr2
  have HN2 := Lib.hid hnew
  obtain ⟨z0, z1, z2, z3, z4, u0, u1, u2, u3, u4⟩ := zero_facts (HZ1.out.keep (hb2.block _ hs1))
  clear hr2 hnew
  go_wp2
  refine bodyPost_ret (v := .tuple #[rowV key ls lp val A2 (endRec l ⟨st, 0, ⟨#[]⟩⟩).length c2, .int .i64 0]) (by simp [results, Tryz.results62, go_sem, z0, z1, z2, z3, z4]) rfl ⟨A2, c2, rfl, ?_, ⟨fun ad h => by have := HN2.out.1 ad h; omega, HN2.out.2⟩, ?_⟩
  ·have e : ∀ (W : World) (p : Addr) (u : Value), (W.setCell p u).heap.size = W.heap.size := fun W p u => by simp [World.setCell]
   rw [e, e, e, e, e]
   repeat (refine RecsAt.setLow ?_ HN2.out.1 hs1 _)
   exact HR2.out
  ·have hbw : Below w.heap.size w w2 := below_next hw1 hb2
   repeat (refine below_set ?_ (by simp) _)
   exact hbw
theorem undoFn_err (hi : RowIn w key lp val A n l) (h : undoE key ls lp val l st ≠ 0) : Calls Tryz.prog 87 #[rowV key ls lp val A n c, .int .i64 st] w (RowOut2 ⟨#[]⟩ 0 ⟨#[]⟩ ⟨#[]⟩ [] (undoE key ls lp val l st) w) := by
 unfold undoE at h ⊢
 split
 ·exact undo_state key lp val ls A n c l st w hi ‹_›
 rename_i t
 rw [if_neg t] at h
 have t' : rowB key ls lp val l = true := by simpa using t
 split
 ·exact undo_range key lp val ls A n c l st w hi t' ‹_›
 rename_i t2
 rw [if_neg t2] at h
 have t2' : inB st 1 1099511627776 = true := by simpa using t2
 split
 ·rename_i t3
  exact undo_done key lp val ls A n c l st w hi t' t2' (by simpa using t3)
 rename_i t3
 rw [if_neg t3] at h
 split
 ·rename_i t4
  rw [if_pos t4] at h
  exact absurd rfl h
 rename_i t4
 rw [if_neg t4] at h
 split
 ·rename_i t5
  rw [if_pos t5] at h
  exact absurd rfl h
 rename_i t5
 rw [if_neg t5] at h
 split
 ·rename_i t6
  have hz : ¬ ls = st → (stOf ls st l == 0) = true := fun h5 => by
   have := stOf_cases ls st l
   rw [beq_iff_eq]
   rcases this with h | h | h | h
   ·exact h
   ·exact absurd (stOf_one.1 h) h5
   ·exact absurd h t3
   ·exact absurd h t4
  exact undo_full key lp val ls A n c l st w hi t' t2' (by simpa using t3) (by simpa using t4) (by rw [beq_eq_false_iff_ne]; exact fun h => t5 (stOf_one.1 h)) (by simpa using t6)
 ·rename_i t6
  rw [if_neg t6] at h
  exact absurd rfl h
theorem undoRef_err (hi : RowIn w key lp val A n l) (h : undoE key ls lp val l st ≠ 0) : Calls Tryz.prog 62 #[rowV key ls lp val A n c, .int .i64 st] w (RowOut2 ⟨#[]⟩ 0 ⟨#[]⟩ ⟨#[]⟩ [] (undoE key ls lp val l st) w) := by
 unfold undoE at h ⊢
 split
 ·exact undone_state key lp val ls A n c l st w hi ‹_›
 rename_i t
 rw [if_neg t] at h
 have t' : rowB key ls lp val l = true := by simpa using t
 split
 ·exact undone_range key lp val ls A n c l st w hi t' ‹_›
 rename_i t2
 rw [if_neg t2] at h
 have t2' : inB st 1 1099511627776 = true := by simpa using t2
 split
 ·rename_i t3
  exact undone_done key lp val ls A n c l st w hi t' t2' (by simpa using t3)
 rename_i t3
 rw [if_neg t3] at h
 split
 ·rename_i t4
  rw [if_pos t4] at h
  exact absurd rfl h
 rename_i t4
 rw [if_neg t4] at h
 split
 ·rename_i t5
  rw [if_pos t5] at h
  exact absurd rfl h
 rename_i t5
 rw [if_neg t5] at h
 split
 ·rename_i t6
  have hz : ¬ ls = st → (stOf ls st l == 0) = true := fun h5 => by
   have := stOf_cases ls st l
   rw [beq_iff_eq]
   rcases this with h | h | h | h
   ·exact h
   ·exact absurd (stOf_one.1 h) h5
   ·exact absurd h t3
   ·exact absurd h t4
  exact undone_full key lp val ls A n c l st w hi t' t2' (by simpa using t3) (by simpa using t4) (hz t5) (by simpa using t6)
 ·rename_i t6
  rw [if_neg t6] at h
  exact absurd rfl h
end
end Go.Proofs.YtambkjnhfejfaaaGreat
