/-
  Contracts of functions of the program and words for memory, several texts in one: RefRead, RefStatus, RefCommit, Undo. Conditions: those stated with each.
-/
import Derived.Test.YtambkjnhfejfaaaGreatG08
import Derived.Test.YtambkjnhfejfaaaGreatG17
namespace Go.Proofs.YtambkjnhfejfaaaGreat
open Go.RowKit
theorem ret_readOf {v v' : ByteArray} {b b' : Bool} {k : Int} (h : v = v') (h' : b = b') : Ending.returned (.tuple #[.string v, .bool b, .int .i64 k]) = .returned (.tuple #[.string v', .bool b', .int .i64 k]) := by rw [h, h']
section
variable (key lp val : ByteArray) (ls : Int) (A : Option Addr) (n c : Nat) (l : List RecM) (st : Int) (w : World)
theorem refRead_busy (hi : RowIn w key lp val A n l) (t : rowB key ls lp val l = true) (t2 : inB st 1 1099511627776 = true) (t3 : inB ls 1 st = true) :
 Calls Tryz.prog 20 #[rowV key ls lp val A n c, .int .i64 st] w fun e w' => e = .returned (.tuple #[.string ⟨#[]⟩, .bool false, .int .i64 7]) ∧ Below w.heap.size w w' := by
 obtain ⟨W0, hW, k0, k1, k2, k3, k4, hbW, hsW⟩ := box_new w (.string key) (.int .i64 ls) (.string lp) (.string val) (.slice A n c) 45; have HW := Lib.hid hW; have HI := Lib.hid (hi.upto hbW); have hsz : w.heap.size < W0.heap.size := (by omega); clear hW hi hsW
 go_enter Tryz.func20, Tryz.ntmps20
 go_wp2_with fail
 rw [← HW.out]
 refine (rowMay_any key lp val ls A l n c W0 HI.out.n HI.out.l HI.out.k HI.out.p HI.out.v).mono ?_
 rintro e w1 ⟨rfl, hb1⟩
 obtain ⟨g0, g1, g2, g3, g4, _⟩ := boxS k0 k1 k2 k3 k4 hb1
 go_wp2_with (first | (go_at_call 37; refine (refTime_any _ _).mono ?_; rintro e w' ⟨rfl, rfl⟩) | (go_at_call 16; refine (in_any _ _ _ _).mono ?_; rintro e w' ⟨rfl, rfl⟩))
 go_ret3
 exact ⟨rfl, by repeat (first | with_reducible exact Below.refl _ _ | assumption | with_reducible apply below_alloc | with_reducible apply below_drew | with_reducible apply below_drewN | (with_reducible apply below_next; rotate_left; assumption))⟩
set_option maxHeartbeats 4000000 in
theorem refRead_ok (hi : RowIn w key lp val A n l) (t : rowB key ls lp val l = true) (t2 : inB st 1 1099511627776 = true) (t3 : inB ls 1 st = false) :
 Calls Tryz.prog 20 #[rowV key ls lp val A n c, .int .i64 st] w fun e w' => e = .returned (.tuple #[.string (bestOf st l).v, .bool (decide (0 < (bestOf st l).c)), .int .i64 0]) ∧ Below w.heap.size w w' := by
 have hlen := hi.l.len
 have hn := hi.n
 subst hn
 have HV := Lib.hid (recs_ok t)
 obtain ⟨W0, hW, k0, k1, k2, k3, k4, hbW, hsW⟩ := box_new w (.string key) (.int .i64 ls) (.string lp) (.string val) (.slice A l.length c) 45
 have HW := Lib.hid hW
 have HI := Lib.hid (hi.upto hbW)
 have hsz : w.heap.size < W0.heap.size := by omega
 clear hW hi hsW
 go_enter Tryz.func20, Tryz.ntmps20
 go_wp2_with fail
 rw [← HW.out]
 refine (rowMay_any key lp val ls A l l.length c W0 rfl HI.out.l HI.out.k HI.out.p HI.out.v).mono ?_
 rintro e w1 ⟨rfl, hb1⟩
 obtain ⟨g0, g1, g2, g3, g4, _⟩ := boxS k0 k1 k2 k3 k4 hb1
 have hs1 := hb1.size
 have hs0 : w.heap.size < w1.heap.size := by omega
 go_wp2_with (first | (go_at_call 37; refine (refTime_any _ _).mono ?_; rintro e w' ⟨rfl, rfl⟩) | (go_at_call 16; refine (in_any _ _ _ _).mono ?_; rintro e w' ⟨rfl, rfl⟩))
 go_loopw [8] (fun i wr => ∃ k : Nat, k ≤ l.length ∧ i = .int .i64 k ∧ Below w1.heap.size w1 wr ∧ wr.heap[w1.heap.size]? = some (.cells #[.int .i64 (bestUpto st l k).s, .int .i64 (bestUpto st l k).c, .string (bestUpto st l k).v] 80 (0, 0))) (fun i _ => l.length - (intOf i).toNat)
 case atStart => exact ⟨0, Nat.zero_le _, rfl, below_alloc (Below.refl _ _) _, heap_alloc_new _ _⟩
 case round =>
  obtain ⟨k, hk, rfl, hb, hB⟩ := hrel
  have HB := Lib.hid hb
  have HBB := Lib.hid hB
  have hwr : Below w.heap.size w wr := by repeat (first | with_reducible exact Below.refl _ _ | assumption | with_reducible apply below_alloc | with_reducible apply below_drew | with_reducible apply below_drewN | (with_reducible apply below_next; rotate_left; assumption))
  have HWR := Lib.hid hwr
  have r4 : wr.cell? ⟨w.heap.size, 4, none⟩ = some (.slice A l.length c) := (hb.cell (p := ⟨w.heap.size, 4, none⟩) hs0).trans g4
  obtain ⟨bs, hbs⟩ : ∃ x, x = (bestUpto st l k).s := ⟨_, rfl⟩
  obtain ⟨bc, hbc⟩ : ∃ x, x = (bestUpto st l k).c := ⟨_, rfl⟩
  obtain ⟨bv, hbv⟩ : ∃ x, x = (bestUpto st l k).v := ⟨_, rfl⟩
  rw [← hbs, ← hbc, ← hbv] at hB
  have b0 : wr.cell? ⟨w1.heap.size, 0, none⟩ = some (.int .i64 bs) := by rw [Joins.cell_of_block hB]; rfl
  have b1 : wr.cell? ⟨w1.heap.size, 1, none⟩ = some (.int .i64 bc) := by rw [Joins.cell_of_block hB]; rfl
  have b2 : wr.cell? ⟨w1.heap.size, 2, none⟩ = some (.string bv) := by rw [Joins.cell_of_block hB]; rfl
  have f0 : wr.frozen? ⟨w1.heap.size, 0, none⟩ = false := Joins.unfrozen_of_block hB _
  have f1 : wr.frozen? ⟨w1.heap.size, 1, none⟩ = false := Joins.unfrozen_of_block hB _
  have f2 : wr.frozen? ⟨w1.heap.size, 2, none⟩ = false := Joins.unfrozen_of_block hB _
  have HS := Lib.hid hbs
  have HC := Lib.hid hbc
  have HVV := Lib.hid hbv
  have hsr : w1.heap.size < wr.heap.size := World.block_lt_of_cell? wr _ b0
  have HB1 := Lib.hid hB
  clear hb hB hbs hbc hbv hwr k0 k1 k2 k3 k4 g0 g1 g2 g3
  by_cases hm : k < l.length
  ·have hu := best_step HV.out st hm
   have HU := Lib.hid hu
   obtain ⟨b, o, rfl, hbb, hr⟩ := (HI.out.l.upto (below_next hb1 HB.out)).at_ (getD_of hm)
   obtain ⟨r, hr0⟩ : ∃ r, r = l.getD k default := ⟨_, rfl⟩
   rw [← hr0] at hr
   obtain ⟨c0, c1, c2⟩ := hr
   have HR := Lib.hid hr0
   obtain ⟨rs, rc, rv⟩ := r
   rw [← hr0, ← HC.out] at hu
   simp only at hu
   clear hr0
   have j0 : (0 : Int) ≤ (k : Int) := by omega
   by_cases q1 : rc ≤ st
   ·have q1' : decide (rc ≤ st) = true := by simpa using q1
    by_cases q2 : bc < rc
    ·have q2' : decide (bc < rc) = true := by simpa using q2
     have hup : upTo st (l.getD k default) = true := by rw [← HR.out, ← hu, q1', q2']; rfl
     have HUP := Lib.hid hup
     clear hu hup
     go_wp2
     go_quiet (fail)
     go_wp2
     go_roundw
     case rel => exact ⟨k + 1, by omega, by go_num, (((below_drewN HB.out _).setCell (Nat.le_refl _) _).setCell (Nat.le_refl _) _).setCell (Nat.le_refl _) _, by
      have e : bestUpto st l (k + 1) = ⟨rs, rc, rv⟩ := by rw [HR.out]; simp only [bestUpto, HUP.out, if_true]
      rw [e]
      exact Joins.block_setCell (Joins.block_setCell (Joins.block_setCell (w := wr.drewN nq) HB1.out _) _) _⟩
     case measure => simp [intOf]; omega
    ·have q2' : decide (bc < rc) = false := by simpa using q2
     have hup : upTo st (l.getD k default) = false := by rw [← HR.out, ← hu, q2', Bool.and_false]
     have HUP := Lib.hid hup
     clear hu hup
     go_wp2
     go_quiet (fail)
     go_wp2
     go_roundw
     case rel => exact ⟨k + 1, by omega, by go_num, below_drewN HB.out _, by
      have e : bestUpto st l (k + 1) = bestUpto st l k := by simp only [bestUpto, HUP.out]; rfl
      rw [e]; exact HBB.out⟩
     case measure => simp [intOf]; omega
   ·have q1' : decide (rc ≤ st) = false := by simpa using q1
    have hup : upTo st (l.getD k default) = false := by rw [← HR.out, ← hu, q1', Bool.false_and]
    have HUP := Lib.hid hup
    clear hu hup
    go_wp2
    go_quiet (fail)
    go_wp2
    go_roundw
    case rel => exact ⟨k + 1, by omega, by go_num, below_drewN HB.out _, by
     have e : bestUpto st l (k + 1) = bestUpto st l k := by simp only [bestUpto, HUP.out]; rfl
     rw [e]; exact HBB.out⟩
    case measure => simp [intOf]; omega
  ·have HK := Lib.hid (show k = l.length by omega)
   go_wp2
   go_quiet (fail)
   go_wp2
   go_ret3
   exact ⟨ret_readOf (by rw [bestOf, ← HK.out, HVV.out]) (by rw [bestOf, ← HK.out, HC.out]), below_drewN HWR.out _⟩
end
section
variable (key lp val : ByteArray) (ls : Int) (A : Option Addr) (n c : Nat) (l : List RecM) (st : Int) (w : World)
theorem refStatus_state (hi : RowIn w key lp val A n l) (t : rowB key ls lp val l = false) :
 Calls Tryz.prog 42 #[rowV key ls lp val A n c, .int .i64 st] w fun e w' => e = .returned (.tuple #[.int .i64 0, .int .i64 0, .int .i64 6]) ∧ Below w.heap.size w w' := by
 obtain ⟨W0, hW, k0, k1, k2, k3, k4, hbW, hsW⟩ := box_new w (.string key) (.int .i64 ls) (.string lp) (.string val) (.slice A n c) 45; have HW := Lib.hid hW; have HI := Lib.hid (hi.upto hbW); have hsz : w.heap.size < W0.heap.size := (by omega); clear hW hi hsW
 go_enter Tryz.func42, Tryz.ntmps42
 go_wp2_with fail
 rw [← HW.out]
 refine (rowMay_any key lp val ls A l n c W0 HI.out.n HI.out.l HI.out.k HI.out.p HI.out.v).mono ?_
 rintro e w1 ⟨rfl, hb1⟩
 go_wp2
 go_ret3
 exact ⟨rfl, by repeat (first | with_reducible exact Below.refl _ _ | assumption | with_reducible apply below_alloc | with_reducible apply below_drew | with_reducible apply below_drewN | (with_reducible apply below_next; rotate_left; assumption))⟩
theorem refStatus_range (hi : RowIn w key lp val A n l) (t : rowB key ls lp val l = true) (t2 : inB st 1 1099511627776 = false) :
 Calls Tryz.prog 42 #[rowV key ls lp val A n c, .int .i64 st] w fun e w' => e = .returned (.tuple #[.int .i64 0, .int .i64 0, .int .i64 2]) ∧ Below w.heap.size w w' := by
 obtain ⟨W0, hW, k0, k1, k2, k3, k4, hbW, hsW⟩ := box_new w (.string key) (.int .i64 ls) (.string lp) (.string val) (.slice A n c) 45; have HW := Lib.hid hW; have HI := Lib.hid (hi.upto hbW); have hsz : w.heap.size < W0.heap.size := (by omega); clear hW hi hsW
 go_enter Tryz.func42, Tryz.ntmps42
 go_wp2_with fail
 rw [← HW.out]
 refine (rowMay_any key lp val ls A l n c W0 HI.out.n HI.out.l HI.out.k HI.out.p HI.out.v).mono ?_
 rintro e w1 ⟨rfl, hb1⟩
 go_wp2_with (go_at_call 37; refine (refTime_any _ _).mono ?_; rintro e w' ⟨rfl, rfl⟩)
 go_ret3
 exact ⟨rfl, by repeat (first | with_reducible exact Below.refl _ _ | assumption | with_reducible apply below_alloc | with_reducible apply below_drew | with_reducible apply below_drewN | (with_reducible apply below_next; rotate_left; assumption))⟩
theorem ret_three {a b a' b' k : Int} (h : a = a') (h' : b = b') : Ending.returned (.tuple #[.int .i64 a, .int .i64 b, .int .i64 k]) = .returned (.tuple #[.int .i64 a', .int .i64 b', .int .i64 k]) := by rw [h, h']
set_option maxHeartbeats 2000000 in
theorem refStatus_ok (hi : RowIn w key lp val A n l) (t : rowB key ls lp val l = true) (t2 : inB st 1 1099511627776 = true) :
 Calls Tryz.prog 42 #[rowV key ls lp val A n c, .int .i64 st] w fun e w' => e = .returned (.tuple #[.int .i64 (stOf ls st l), .int .i64 (cmOf ls st l), .int .i64 0]) ∧ Below w.heap.size w w' := by
 obtain ⟨W0, hW, k0, k1, k2, k3, k4, hbW, hsW⟩ := box_new w (.string key) (.int .i64 ls) (.string lp) (.string val) (.slice A n c) 45; have HW := Lib.hid hW; have HI := Lib.hid (hi.upto hbW); have hsz : w.heap.size < W0.heap.size := (by omega); clear hW hi hsW
 by_cases q1 : ls = st
 ·subst q1
  go_enter Tryz.func42, Tryz.ntmps42
  go_wp2_with fail
  rw [← HW.out]
  refine (rowMay_any key lp val ls A l n c W0 HI.out.n HI.out.l HI.out.k HI.out.p HI.out.v).mono ?_
  rintro e w1 ⟨rfl, hb1⟩
  obtain ⟨g0, g1, g2, g3, g4, _⟩ := boxS k0 k1 k2 k3 k4 hb1
  go_wp2_with (go_at_call 37; refine (refTime_any _ _).mono ?_; rintro e w' ⟨rfl, rfl⟩)
  go_ret3
  exact ⟨ret_three (by simp [stOf]) (by simp [cmOf]), by repeat (first | with_reducible exact Below.refl _ _ | assumption | with_reducible apply below_alloc | with_reducible apply below_drew | with_reducible apply below_drewN | (with_reducible apply below_next; rotate_left; assumption))⟩
 ·have q1' : (ls == st) = false := by simpa using q1
  have HQ := Lib.hid q1
  clear q1
  go_enter Tryz.func42, Tryz.ntmps42
  go_wp2_with fail
  rw [← HW.out]
  refine (rowMay_any key lp val ls A l n c W0 HI.out.n HI.out.l HI.out.k HI.out.p HI.out.v).mono ?_
  rintro e w1 ⟨rfl, hb1⟩
  obtain ⟨g0, g1, g2, g3, g4, _⟩ := boxS k0 k1 k2 k3 k4 hb1
  go_wp2_with (go_at_call 37; refine (refTime_any _ _).mono ?_; rintro e w' ⟨rfl, rfl⟩)
  refine (recordOf_any key lp val ls st A l n c w1 HI.out.n (HI.out.l.upto hb1)).mono ?_
  rintro e w2 ⟨rfl, hb2⟩
  by_cases q2 : hasRec st l = true
  ·by_cases q3 : (recOf st l).c = 0
   ·have q3' : ((recOf st l).c == 0) = true := by simpa using q3
    have HZ := Lib.hid q3
    clear q3
    go_wp2
    go_ret3
    exact ⟨ret_three (by simp [stOf, HQ.out, q2, HZ.out]) (by simp [cmOf, HQ.out, HZ.out]), by repeat (first | with_reducible exact Below.refl _ _ | assumption | with_reducible apply below_alloc | with_reducible apply below_drew | with_reducible apply below_drewN | (with_reducible apply below_next; rotate_left; assumption))⟩
   ·have q3' : ((recOf st l).c == 0) = false := by simpa using q3
    have HZ := Lib.hid q3
    clear q3
    go_wp2
    go_quiet (fail)
    go_wp2
    go_ret3
    exact ⟨ret_three (by simp [stOf, HQ.out, q2, HZ.out]) (by simp [cmOf, HQ.out]), by repeat (first | with_reducible exact Below.refl _ _ | assumption | with_reducible apply below_alloc | with_reducible apply below_drew | with_reducible apply below_drewN | (with_reducible apply below_next; rotate_left; assumption))⟩
  ·have q2' : hasRec st l = false := by simpa using q2
   have HR := Lib.hid q2'
   clear q2
   go_wp2
   go_ret3
   exact ⟨ret_three (by simp [stOf, HQ.out, HR.out]) (by have h := HR.out; simp only [hasRec, Option.isSome_eq_false_iff, Option.isNone_iff_eq_none] at h; simp [cmOf, HQ.out, recOf, h]), by repeat (first | with_reducible exact Below.refl _ _ | assumption | with_reducible apply below_alloc | with_reducible apply below_drew | with_reducible apply below_drewN | (with_reducible apply below_next; rotate_left; assumption))⟩
end
end Go.Proofs.YtambkjnhfejfaaaGreat
namespace Go.Proofs.YtambkjnhfejfaaaGreat
open Go.RowKit
set_option linter.unusedVariables false
section
variable (key lp val : ByteArray) (ls : Int) (A : Option Addr) (n c : Nat) (l : List RecM) (st cm : Int) (w : World)
set_option maxHeartbeats 2000000 in
theorem committed_state (hi : RowIn w key lp val A n l) (t : rowB key ls lp val l = false) :
 Calls Tryz.prog 41 #[rowV key ls lp val A n c, .int .i64 st, .int .i64 cm] w (RowOut2 ⟨#[]⟩ 0 ⟨#[]⟩ ⟨#[]⟩ [] 6 w) := by
 obtain ⟨W0, hW, k0, k1, k2, k3, k4, hz, hbW, hsW⟩ := box2_new w (.string key) (.int .i64 ls) (.string lp) (.string val) (.slice A n c)
 have HW := Lib.hid hW
 have HI0 := Lib.hid hi
 have HI := Lib.hid (hi.upto hbW)
 have HZ := Lib.hid hz
 have hlen := hi.l.len
 have hsz : w.heap.size + 1 < W0.heap.size := by omega
 clear hW hi hz hsW
 go_enter Tryz.func41, Tryz.ntmps41
 go_wp2_with fail
 rw [← HW.out]
 refine (refStatus_state key lp val ls A n c l st W0 HI.out t).mono ?_
 rintro e w1 ⟨rfl, hb1⟩
 obtain ⟨g0, g1, g2, g3, g4, _⟩ := boxS k0 k1 k2 k3 k4 hb1
 obtain ⟨z0, z1, z2, z3, z4, u0, u1, u2, u3, u4⟩ := zero_facts (HZ.out.keep (hb1.block _ hsz))
 go_wp2
 refine bodyPost_ret (v := .tuple #[rowV ⟨#[]⟩ 0 ⟨#[]⟩ ⟨#[]⟩ none 0 0, .int .i64 6]) (by simp [results, Tryz.results41, go_sem, z0, z1, z2, z3, z4]) rfl ⟨none, 0, rfl, RecsAt.nil_ _ _ _, ⟨newAt_none _, Nat.le_refl _⟩, ?_⟩
 have hbw : Below w.heap.size w w1 := below_next hbW hb1
 repeat (refine below_set ?_ (by simp) _)
 exact hbw
set_option maxHeartbeats 2000000 in
theorem committed_range (hi : RowIn w key lp val A n l) (t : rowB key ls lp val l = true) (t2 : inB st 1 1099511627776 = false) :
 Calls Tryz.prog 41 #[rowV key ls lp val A n c, .int .i64 st, .int .i64 cm] w (RowOut2 ⟨#[]⟩ 0 ⟨#[]⟩ ⟨#[]⟩ [] 2 w) := by
 obtain ⟨W0, hW, k0, k1, k2, k3, k4, hz, hbW, hsW⟩ := box2_new w (.string key) (.int .i64 ls) (.string lp) (.string val) (.slice A n c)
 have HW := Lib.hid hW
 have HI0 := Lib.hid hi
 have HI := Lib.hid (hi.upto hbW)
 have HZ := Lib.hid hz
 have hlen := hi.l.len
 have hsz : w.heap.size + 1 < W0.heap.size := by omega
 clear hW hi hz hsW
 go_enter Tryz.func41, Tryz.ntmps41
 go_wp2_with fail
 rw [← HW.out]
 refine (refStatus_range key lp val ls A n c l st W0 HI.out t t2).mono ?_
 rintro e w1 ⟨rfl, hb1⟩
 obtain ⟨g0, g1, g2, g3, g4, _⟩ := boxS k0 k1 k2 k3 k4 hb1
 obtain ⟨z0, z1, z2, z3, z4, u0, u1, u2, u3, u4⟩ := zero_facts (HZ.out.keep (hb1.block _ hsz))
 go_wp2
 refine bodyPost_ret (v := .tuple #[rowV ⟨#[]⟩ 0 ⟨#[]⟩ ⟨#[]⟩ none 0 0, .int .i64 2]) (by simp [results, Tryz.results41, go_sem, z0, z1, z2, z3, z4]) rfl ⟨none, 0, rfl, RecsAt.nil_ _ _ _, ⟨newAt_none _, Nat.le_refl _⟩, ?_⟩
 have hbw : Below w.heap.size w w1 := below_next hbW hb1
 repeat (refine below_set ?_ (by simp) _)
 exact hbw
set_option maxHeartbeats 2000000 in
theorem committed_when (hi : RowIn w key lp val A n l) (t : rowB key ls lp val l = true) (t2 : inB st 1 1099511627776 = true) (t3 : inB cm (st + 1) 1099511627776 = false) :
 Calls Tryz.prog 41 #[rowV key ls lp val A n c, .int .i64 st, .int .i64 cm] w (RowOut2 ⟨#[]⟩ 0 ⟨#[]⟩ ⟨#[]⟩ [] 2 w) := by
 obtain ⟨W0, hW, k0, k1, k2, k3, k4, hz, hbW, hsW⟩ := box2_new w (.string key) (.int .i64 ls) (.string lp) (.string val) (.slice A n c)
 have HW := Lib.hid hW
 have HI0 := Lib.hid hi
 have HI := Lib.hid (hi.upto hbW)
 have HZ := Lib.hid hz
 have hlen := hi.l.len
 have hsz : w.heap.size + 1 < W0.heap.size := by omega
 clear hW hi hz hsW
 obtain ⟨h1, h2⟩ := inB_true.1 t2
 go_enter Tryz.func41, Tryz.ntmps41
 go_wp2_with fail
 rw [← HW.out]
 refine (refStatus_ok key lp val ls A n c l st W0 HI.out t t2).mono ?_
 rintro e w1 ⟨rfl, hb1⟩
 obtain ⟨g0, g1, g2, g3, g4, _⟩ := boxS k0 k1 k2 k3 k4 hb1
 obtain ⟨z0, z1, z2, z3, z4, u0, u1, u2, u3, u4⟩ := zero_facts (HZ.out.keep (hb1.block _ hsz))
 go_wp2_with (go_at_call 16; refine (in_any _ _ _ _).mono ?_; rintro e w' ⟨rfl, rfl⟩)
 refine bodyPost_ret (v := .tuple #[rowV ⟨#[]⟩ 0 ⟨#[]⟩ ⟨#[]⟩ none 0 0, .int .i64 2]) (by simp [results, Tryz.results41, go_sem, z0, z1, z2, z3, z4]) rfl ⟨none, 0, rfl, RecsAt.nil_ _ _ _, ⟨newAt_none _, Nat.le_refl _⟩, ?_⟩
 have hbw : Below w.heap.size w w1 := below_next hbW hb1
 repeat (refine below_set ?_ (by simp) _)
 exact hbw
set_option maxHeartbeats 2000000 in
theorem committed_gone (hi : RowIn w key lp val A n l) (t : rowB key ls lp val l = true) (t2 : inB st 1 1099511627776 = true) (t3 : inB cm (st + 1) 1099511627776 = true) (t4 : (stOf ls st l == 3) = true) :
 Calls Tryz.prog 41 #[rowV key ls lp val A n c, .int .i64 st, .int .i64 cm] w (RowOut2 ⟨#[]⟩ 0 ⟨#[]⟩ ⟨#[]⟩ [] 9 w) := by
 obtain ⟨W0, hW, k0, k1, k2, k3, k4, hz, hbW, hsW⟩ := box2_new w (.string key) (.int .i64 ls) (.string lp) (.string val) (.slice A n c)
 have HW := Lib.hid hW
 have HI0 := Lib.hid hi
 have HI := Lib.hid (hi.upto hbW)
 have HZ := Lib.hid hz
 have hlen := hi.l.len
 have hsz : w.heap.size + 1 < W0.heap.size := by omega
 clear hW hi hz hsW
 obtain ⟨h1, h2⟩ := inB_true.1 t2
 go_enter Tryz.func41, Tryz.ntmps41
 go_wp2_with fail
 rw [← HW.out]
 refine (refStatus_ok key lp val ls A n c l st W0 HI.out t t2).mono ?_
 rintro e w1 ⟨rfl, hb1⟩
 obtain ⟨g0, g1, g2, g3, g4, _⟩ := boxS k0 k1 k2 k3 k4 hb1
 obtain ⟨z0, z1, z2, z3, z4, u0, u1, u2, u3, u4⟩ := zero_facts (HZ.out.keep (hb1.block _ hsz))
 go_wp2_with (go_at_call 16; refine (in_any _ _ _ _).mono ?_; rintro e w' ⟨rfl, rfl⟩)
 refine bodyPost_ret (v := .tuple #[rowV ⟨#[]⟩ 0 ⟨#[]⟩ ⟨#[]⟩ none 0 0, .int .i64 9]) (by simp [results, Tryz.results41, go_sem, z0, z1, z2, z3, z4]) rfl ⟨none, 0, rfl, RecsAt.nil_ _ _ _, ⟨newAt_none _, Nat.le_refl _⟩, ?_⟩
 have hbw : Below w.heap.size w w1 := below_next hbW hb1
 repeat (refine below_set ?_ (by simp) _)
 exact hbw
set_option maxHeartbeats 2000000 in
theorem committed_none (hi : RowIn w key lp val A n l) (t : rowB key ls lp val l = true) (t2 : inB st 1 1099511627776 = true) (t3 : inB cm (st + 1) 1099511627776 = true) (t4 : (stOf ls st l == 3) = false) (t5 : (stOf ls st l != 1) = true) :
 Calls Tryz.prog 41 #[rowV key ls lp val A n c, .int .i64 st, .int .i64 cm] w (RowOut2 ⟨#[]⟩ 0 ⟨#[]⟩ ⟨#[]⟩ [] 5 w) := by
 obtain ⟨W0, hW, k0, k1, k2, k3, k4, hz, hbW, hsW⟩ := box2_new w (.string key) (.int .i64 ls) (.string lp) (.string val) (.slice A n c)
 have HW := Lib.hid hW
 have HI0 := Lib.hid hi
 have HI := Lib.hid (hi.upto hbW)
 have HZ := Lib.hid hz
 have hlen := hi.l.len
 have hsz : w.heap.size + 1 < W0.heap.size := by omega
 clear hW hi hz hsW
 obtain ⟨h1, h2⟩ := inB_true.1 t2
 go_enter Tryz.func41, Tryz.ntmps41
 go_wp2_with fail
 rw [← HW.out]
 refine (refStatus_ok key lp val ls A n c l st W0 HI.out t t2).mono ?_
 rintro e w1 ⟨rfl, hb1⟩
 obtain ⟨g0, g1, g2, g3, g4, _⟩ := boxS k0 k1 k2 k3 k4 hb1
 obtain ⟨z0, z1, z2, z3, z4, u0, u1, u2, u3, u4⟩ := zero_facts (HZ.out.keep (hb1.block _ hsz))
 go_wp2_with (go_at_call 16; refine (in_any _ _ _ _).mono ?_; rintro e w' ⟨rfl, rfl⟩)
 refine bodyPost_ret (v := .tuple #[rowV ⟨#[]⟩ 0 ⟨#[]⟩ ⟨#[]⟩ none 0 0, .int .i64 5]) (by simp [results, Tryz.results41, go_sem, z0, z1, z2, z3, z4]) rfl ⟨none, 0, rfl, RecsAt.nil_ _ _ _, ⟨newAt_none _, Nat.le_refl _⟩, ?_⟩
 have hbw : Below w.heap.size w w1 := below_next hbW hb1
 repeat (refine below_set ?_ (by simp) _)
 exact hbw
set_option maxHeartbeats 4000000 in
theorem committed_ok (hi : RowIn w key lp val A n l) (t : rowB key ls lp val l = true) (t2 : inB st 1 1099511627776 = true) (t3 : inB cm (st + 1) 1099511627776 = true) (t4 : (stOf ls st l == 3) = false) (t5 : (stOf ls st l != 1) = false) (t6 : ls = st) (h99 : n ≤ 100) :
 Calls Tryz.prog 41 #[rowV key ls lp val A n c, .int .i64 st, .int .i64 cm] w (RowOut2 key 0 ⟨#[]⟩ ⟨#[]⟩ (endRec l ⟨st, cm, val⟩) 0 w) := by
 subst t6
 obtain ⟨W0, hW, k0, k1, k2, k3, k4, hz, hbW, hsW⟩ := box2_new w (.string key) (.int .i64 ls) (.string lp) (.string val) (.slice A n c)
 have HW := Lib.hid hW
 have HI0 := Lib.hid hi
 have HI := Lib.hid (hi.upto hbW)
 have HZ := Lib.hid hz
 have hlen := hi.l.len
 have hsz : w.heap.size + 1 < W0.heap.size := by omega
 clear hW hi hz hsW
 have HRK := Lib.hid (show RecOk ⟨ls, cm, val⟩ from ⟨by have := inB_true.1 t2; unfold i64; dsimp only; omega, by have := inB_true.1 t3; have := inB_true.1 t2; unfold i64; dsimp only; omega, HI0.out.v⟩)
 obtain ⟨h1, h2⟩ := inB_true.1 t2
 go_enter Tryz.func41, Tryz.ntmps41
 go_wp2_with fail
 rw [← HW.out]
 refine (refStatus_ok key lp val ls A n c l ls W0 HI.out t t2).mono ?_
 rintro e w1 ⟨rfl, hb1⟩
 obtain ⟨g0, g1, g2, g3, g4, _⟩ := boxS k0 k1 k2 k3 k4 hb1
 obtain ⟨z0, z1, z2, z3, z4, u0, u1, u2, u3, u4⟩ := zero_facts (HZ.out.keep (hb1.block _ hsz))
 clear z0 z1 z2 z3 z4 u0 u1 u2 u3 u4
 have hs1 : w.heap.size + 1 < w1.heap.size := by have := hb1.size; omega
 go_wp2_with (go_at_call 16; refine (in_any _ _ _ _).mono ?_; rintro e w' ⟨rfl, rfl⟩)
 refine (ended_own key lp val A n c l ls cm val w1 HI.out.n h99 (HI.out.l.upto hb1) HRK.out).mono ?_
 rintro e w2 ⟨A2, c2, rfl, hr2, hnew, hb2⟩
 have HR2 := Lib.hid hr2
 have HN2 := Lib.hid hnew
 have hb12 : Below W0.heap.size W0 w2 := below_next hb1 hb2
 obtain ⟨z0, z1, z2, z3, z4, u0, u1, u2, u3, u4⟩ := zero_facts (HZ.out.keep (hb12.block _ hsz))
 clear hr2 hnew
 go_wp2
 refine bodyPost_ret (v := .tuple #[rowV key 0 ⟨#[]⟩ ⟨#[]⟩ A2 (endRec l ⟨ls, cm, val⟩).length c2, .int .i64 0]) (by simp [results, Tryz.results41, go_sem, z0, z1, z2, z3, z4]) rfl ⟨A2, c2, rfl, ?_, ⟨fun ad h => by have := HN2.out.1 ad h; omega, HN2.out.2⟩, ?_⟩
 ·have e : ∀ (W : World) (p : Addr) (u : Value), (W.setCell p u).heap.size = W.heap.size := fun W p u => by simp [World.setCell]
  rw [e, e, e, e, e]
  repeat (refine RecsAt.setLow ?_ HN2.out.1 hs1 _)
  exact HR2.out
 ·have hbw : Below w.heap.size w w2 := below_next hbW hb12
  repeat (refine below_set ?_ (by simp) _)
  exact hbw
theorem commitFn_err (hi : RowIn w key lp val A n l) (h : commitE key ls lp val l st cm ≠ 0) : Calls Tryz.prog 85 #[rowV key ls lp val A n c, .int .i64 st, .int .i64 cm] w (RowOut2 ⟨#[]⟩ 0 ⟨#[]⟩ ⟨#[]⟩ [] (commitE key ls lp val l st cm) w) := by
 unfold commitE at h ⊢
 split
 ·exact commit_state key lp val ls A n c l st cm w hi ‹_›
 rename_i t
 rw [if_neg t] at h
 have t' : rowB key ls lp val l = true := by simpa using t
 split
 ·exact commit_range key lp val ls A n c l st cm w hi t' ‹_›
 rename_i t2
 rw [if_neg t2] at h
 have t2' : inB st 1 1099511627776 = true := by simpa using t2
 split
 ·exact commit_when key lp val ls A n c l st cm w hi t' t2' ‹_›
 rename_i t3
 rw [if_neg t3] at h
 have t3' : inB cm (st + 1) 1099511627776 = true := by simpa using t3
 split
 ·rename_i t4
  exact commit_gone key lp val ls A n c l st cm w hi t' t2' t3' (by simpa using t4)
 rename_i t4
 rw [if_neg t4] at h
 split
 ·rename_i t5
  exact commit_none key lp val ls A n c l st cm w hi t' t2' t3' (by simpa using t4) (by rw [beq_eq_false_iff_ne]; exact fun h => t5 (stOf_one.1 h))
 ·rename_i t5
  rw [if_neg t5] at h
  exact absurd rfl h
theorem commitFn_ok (hi : RowIn w key lp val A n l) (hcap : n ≤ c) (h : commitE key ls lp val l st cm = 0) : Calls Tryz.prog 85 #[rowV key ls lp val A n c, .int .i64 st, .int .i64 cm] w (RowOut2 key 0 ⟨#[]⟩ ⟨#[]⟩ (endRec l ⟨st, cm, val⟩) 0 w) := by
 unfold commitE at h
 split at h
 ·omega
 rename_i t
 split at h
 ·omega
 rename_i t2
 split at h
 ·omega
 rename_i t3
 split at h
 ·omega
 rename_i t4
 split at h
 ·omega
 rename_i t5
 have t' : rowB key ls lp val l = true := by simpa using t
 have t2' : inB st 1 1099511627776 = true := by simpa using t2
 have t5' : ls = st := by simpa using t5
 have h1 : 1 ≤ st := (inB_true.1 t2').1
 have hf := lock_free t' (by omega)
 rw [t5'] at hf
 have h99 : n ≤ 100 := by have := hi.n; omega
 rw [← ins_eq_end (recs_ok t') ⟨st, cm, val⟩ hf.1]
 exact commit_ok key lp val ls A n c l st cm w hi t' t2' (by simpa using t3) (by simpa using t4) (by rw [stOf_one.2 t5']; rfl) hcap h99
theorem commitRef_err (hi : RowIn w key lp val A n l) (h : commitE key ls lp val l st cm ≠ 0) : Calls Tryz.prog 41 #[rowV key ls lp val A n c, .int .i64 st, .int .i64 cm] w (RowOut2 ⟨#[]⟩ 0 ⟨#[]⟩ ⟨#[]⟩ [] (commitE key ls lp val l st cm) w) := by
 unfold commitE at h ⊢
 split
 ·exact committed_state key lp val ls A n c l st cm w hi ‹_›
 rename_i t
 rw [if_neg t] at h
 have t' : rowB key ls lp val l = true := by simpa using t
 split
 ·exact committed_range key lp val ls A n c l st cm w hi t' ‹_›
 rename_i t2
 rw [if_neg t2] at h
 have t2' : inB st 1 1099511627776 = true := by simpa using t2
 split
 ·exact committed_when key lp val ls A n c l st cm w hi t' t2' ‹_›
 rename_i t3
 rw [if_neg t3] at h
 have t3' : inB cm (st + 1) 1099511627776 = true := by simpa using t3
 split
 ·rename_i t4
  exact committed_gone key lp val ls A n c l st cm w hi t' t2' t3' (by simpa using t4)
 rename_i t4
 rw [if_neg t4] at h
 split
 ·rename_i t5
  exact committed_none key lp val ls A n c l st cm w hi t' t2' t3' (by simpa using t4) (by rw [bne_iff_ne]; exact fun h => t5 (stOf_one.1 h))
 ·rename_i t5
  rw [if_neg t5] at h
  exact absurd rfl h
theorem commitRef_ok (hi : RowIn w key lp val A n l) (hcap : n ≤ c) (h : commitE key ls lp val l st cm = 0) : Calls Tryz.prog 41 #[rowV key ls lp val A n c, .int .i64 st, .int .i64 cm] w (RowOut2 key 0 ⟨#[]⟩ ⟨#[]⟩ (endRec l ⟨st, cm, val⟩) 0 w) := by
 unfold commitE at h
 split at h
 ·omega
 rename_i t
 split at h
 ·omega
 rename_i t2
 split at h
 ·omega
 rename_i t3
 split at h
 ·omega
 rename_i t4
 split at h
 ·omega
 rename_i t5
 have t' : rowB key ls lp val l = true := by simpa using t
 have t2' : inB st 1 1099511627776 = true := by simpa using t2
 have t5' : ls = st := by simpa using t5
 have h1 : 1 ≤ st := (inB_true.1 t2').1
 have hf := lock_free t' (by omega)
 rw [t5'] at hf
 have h99 : n ≤ 100 := by have := hi.n; omega
 skip
 exact committed_ok key lp val ls A n c l st cm w hi t' t2' (by simpa using t3) (by simpa using t4) (by rw [stOf_one.2 t5']; rfl) t5' h99
end
section
variable (key lp val : ByteArray) (ls : Int) (A : Option Addr) (n c : Nat) (l : List RecM) (st : Int) (w : World)
set_option maxHeartbeats 8000000 in
theorem undo_state (hi : RowIn w key lp val A n l) (t : rowB key ls lp val l = false) :
 Calls Tryz.prog 87 #[rowV key ls lp val A n c, .int .i64 st] w (RowOut2 ⟨#[]⟩ 0 ⟨#[]⟩ ⟨#[]⟩ [] 6 w) := by
 obtain ⟨W0, hW, k0, k1, k2, k3, k4, hz, hbW, hsW⟩ := box2_new w (.string key) (.int .i64 ls) (.string lp) (.string val) (.slice A n c)
 have HW := Lib.hid hW
 have HI0 := Lib.hid hi
 have HI := Lib.hid (hi.upto hbW)
 have HZ := Lib.hid hz
 have hlen := hi.l.len
 have hsz : w.heap.size + 1 < W0.heap.size := by omega
 clear hW hi hz hsW
 go_enter Tryz.func87, Tryz.ntmps87
 go_wp2_with fail
 rw [← HW.out]
 refine (checkAt_state key lp val ls A n c l st W0 HI.out t).mono ?_
 rintro e w1 ⟨rfl, hb1⟩
 obtain ⟨g0, g1, g2, g3, g4, _⟩ := boxS k0 k1 k2 k3 k4 hb1
 obtain ⟨z0, z1, z2, z3, z4, u0, u1, u2, u3, u4⟩ := zero_facts (HZ.out.keep (hb1.block _ hsz))
 go_wp2
 refine bodyPost_ret (v := .tuple #[rowV ⟨#[]⟩ 0 ⟨#[]⟩ ⟨#[]⟩ none 0 0, .int .i64 6]) (by simp [results, Tryz.results87, go_sem, z0, z1, z2, z3, z4]) rfl ⟨none, 0, rfl, RecsAt.nil_ _ _ _, ⟨newAt_none _, Nat.le_refl _⟩, ?_⟩
 have hbw : Below w.heap.size w w1 := below_next hbW hb1
 repeat (refine below_set ?_ (by simp) _)
 exact hbw
set_option maxHeartbeats 8000000 in
theorem undo_range (hi : RowIn w key lp val A n l) (t : rowB key ls lp val l = true) (t2 : inB st 1 1099511627776 = false) :
 Calls Tryz.prog 87 #[rowV key ls lp val A n c, .int .i64 st] w (RowOut2 ⟨#[]⟩ 0 ⟨#[]⟩ ⟨#[]⟩ [] 2 w) := by
 obtain ⟨W0, hW, k0, k1, k2, k3, k4, hz, hbW, hsW⟩ := box2_new w (.string key) (.int .i64 ls) (.string lp) (.string val) (.slice A n c)
 have HW := Lib.hid hW
 have HI0 := Lib.hid hi
 have HI := Lib.hid (hi.upto hbW)
 have HZ := Lib.hid hz
 have hlen := hi.l.len
 have hsz : w.heap.size + 1 < W0.heap.size := by omega
 clear hW hi hz hsW
 go_enter Tryz.func87, Tryz.ntmps87
 go_wp2_with fail
 rw [← HW.out]
 refine (checkAt_range key lp val ls A n c l st W0 HI.out t t2).mono ?_
 rintro e w1 ⟨rfl, hb1⟩
 obtain ⟨g0, g1, g2, g3, g4, _⟩ := boxS k0 k1 k2 k3 k4 hb1
 obtain ⟨z0, z1, z2, z3, z4, u0, u1, u2, u3, u4⟩ := zero_facts (HZ.out.keep (hb1.block _ hsz))
 go_wp2
 refine bodyPost_ret (v := .tuple #[rowV ⟨#[]⟩ 0 ⟨#[]⟩ ⟨#[]⟩ none 0 0, .int .i64 2]) (by simp [results, Tryz.results87, go_sem, z0, z1, z2, z3, z4]) rfl ⟨none, 0, rfl, RecsAt.nil_ _ _ _, ⟨newAt_none _, Nat.le_refl _⟩, ?_⟩
 have hbw : Below w.heap.size w w1 := below_next hbW hb1
 repeat (refine below_set ?_ (by simp) _)
 exact hbw
set_option maxHeartbeats 8000000 in
theorem undo_done (hi : RowIn w key lp val A n l) (t : rowB key ls lp val l = true) (t2 : inB st 1 1099511627776 = true) (t3 : (stOf ls st l == 2) = true) :
 Calls Tryz.prog 87 #[rowV key ls lp val A n c, .int .i64 st] w (RowOut2 ⟨#[]⟩ 0 ⟨#[]⟩ ⟨#[]⟩ [] 6 w) := by
 obtain ⟨W0, hW, k0, k1, k2, k3, k4, hz, hbW, hsW⟩ := box2_new w (.string key) (.int .i64 ls) (.string lp) (.string val) (.slice A n c)
 have HW := Lib.hid hW
 have HI0 := Lib.hid hi
 have HI := Lib.hid (hi.upto hbW)
 have HZ := Lib.hid hz
 have hlen := hi.l.len
 have hsz : w.heap.size + 1 < W0.heap.size := by omega
 clear hW hi hz hsW
 go_enter Tryz.func87, Tryz.ntmps87
 go_wp2_with fail
 rw [← HW.out]
 refine (checkAt_ok key lp val ls A n c l st W0 HI.out t t2).mono ?_
 rintro e w1 ⟨rfl, hb1⟩
 obtain ⟨g0, g1, g2, g3, g4, _⟩ := boxS k0 k1 k2 k3 k4 hb1
 have h1 : 1 ≤ st := (inB_true.1 t2).1
 have hs1 : w.heap.size + 1 < w1.heap.size := by have := hb1.size; omega
 have hs1' : w.heap.size < w1.heap.size := by omega
 go_wp2_with fail
 obtain ⟨W1, hW1⟩ : ∃ W1, W1 = w1.alloc (.cells #[.int .i64 st, .int .i64 0, .string ⟨#[]⟩] 80) := ⟨_, rfl⟩
 have hbx : Below w1.heap.size w1 W1 := by rw [hW1]; exact below_alloc (Below.refl _ _) _
 have x0 : W1.cell? ⟨w1.heap.size, 0, none⟩ = some (.int .i64 st) := by rw [hW1]; simp
 have x1 : W1.cell? ⟨w1.heap.size, 1, none⟩ = some (.int .i64 0) := by rw [hW1]; simp
 have x2 : W1.cell? ⟨w1.heap.size, 2, none⟩ = some (.string ⟨#[]⟩) := by rw [hW1]; simp
 rw [← hW1]
 have hb01 : Below W0.heap.size W0 W1 := below_next hb1 hbx
 refine (statusOf_any key lp val ls A n c l st W1 (HI.out.upto hb01) t h1).mono ?_
 rintro e w2 ⟨rfl, hb2⟩
 have hb02 : Below W0.heap.size W0 w2 := below_next hb01 hb2
 have hw2 : Below w.heap.size w w2 := below_next hbW hb02
 have hs2 : w.heap.size + 1 < w2.heap.size := by have := hb02.size; omega
 obtain ⟨j0, j1, j2, j3, j4, _⟩ := boxS k0 k1 k2 k3 k4 hb02
 have hsr : w1.heap.size < W1.heap.size := World.block_lt_of_cell? W1 _ x0
 have r0 : w2.cell? ⟨w1.heap.size, 0, none⟩ = some (.int .i64 st) := (hb2.cell (p := ⟨w1.heap.size, 0, none⟩) hsr).trans x0
 have r1 : w2.cell? ⟨w1.heap.size, 1, none⟩ = some (.int .i64 0) := (hb2.cell (p := ⟨w1.heap.size, 1, none⟩) hsr).trans x1
 have r2 : w2.cell? ⟨w1.heap.size, 2, none⟩ = some (.string ⟨#[]⟩) := (hb2.cell (p := ⟨w1.heap.size, 2, none⟩) hsr).trans x2
 have HZ2 := Lib.hid (HZ.out.keep (hb02.block _ hsz))
 clear hW1 x0 x1 x2
 obtain ⟨z0, z1, z2, z3, z4, u0, u1, u2, u3, u4⟩ := zero_facts HZ2.out
 go_wp2
 refine bodyPost_ret (v := .tuple #[rowV ⟨#[]⟩ 0 ⟨#[]⟩ ⟨#[]⟩ none 0 0, .int .i64 6]) (by simp [results, Tryz.results87, go_sem, z0, z1, z2, z3, z4]) rfl ⟨none, 0, rfl, RecsAt.nil_ _ _ _, ⟨newAt_none _, Nat.le_refl _⟩, ?_⟩
 have hbw : Below w.heap.size w w2 := hw2
 repeat (refine below_set ?_ (by simp) _)
 exact hbw
set_option maxHeartbeats 8000000 in
theorem undo_gone (hi : RowIn w key lp val A n l) (t : rowB key ls lp val l = true) (t2 : inB st 1 1099511627776 = true) (t3 : (stOf ls st l == 2) = false) (t4 : (stOf ls st l == 3) = true) :
 Calls Tryz.prog 87 #[rowV key ls lp val A n c, .int .i64 st] w (RowOut2 key ls lp val l 0 w) := by
 obtain ⟨W0, hW, k0, k1, k2, k3, k4, hz, hbW, hsW⟩ := box2_new w (.string key) (.int .i64 ls) (.string lp) (.string val) (.slice A n c)
 have HW := Lib.hid hW
 have HI0 := Lib.hid hi
 have HI := Lib.hid (hi.upto hbW)
 have HZ := Lib.hid hz
 have hlen := hi.l.len
 have hsz : w.heap.size + 1 < W0.heap.size := by omega
 clear hW hi hz hsW
 go_enter Tryz.func87, Tryz.ntmps87
 go_wp2_with fail
 rw [← HW.out]
 refine (checkAt_ok key lp val ls A n c l st W0 HI.out t t2).mono ?_
 rintro e w1 ⟨rfl, hb1⟩
 obtain ⟨g0, g1, g2, g3, g4, _⟩ := boxS k0 k1 k2 k3 k4 hb1
 have h1 : 1 ≤ st := (inB_true.1 t2).1
 have hs1 : w.heap.size + 1 < w1.heap.size := by have := hb1.size; omega
 have hs1' : w.heap.size < w1.heap.size := by omega
 go_wp2_with fail
 obtain ⟨W1, hW1⟩ : ∃ W1, W1 = w1.alloc (.cells #[.int .i64 st, .int .i64 0, .string ⟨#[]⟩] 80) := ⟨_, rfl⟩
 have hbx : Below w1.heap.size w1 W1 := by rw [hW1]; exact below_alloc (Below.refl _ _) _
 have x0 : W1.cell? ⟨w1.heap.size, 0, none⟩ = some (.int .i64 st) := by rw [hW1]; simp
 have x1 : W1.cell? ⟨w1.heap.size, 1, none⟩ = some (.int .i64 0) := by rw [hW1]; simp
 have x2 : W1.cell? ⟨w1.heap.size, 2, none⟩ = some (.string ⟨#[]⟩) := by rw [hW1]; simp
 rw [← hW1]
 have hb01 : Below W0.heap.size W0 W1 := below_next hb1 hbx
 refine (statusOf_any key lp val ls A n c l st W1 (HI.out.upto hb01) t h1).mono ?_
 rintro e w2 ⟨rfl, hb2⟩
 have hb02 : Below W0.heap.size W0 w2 := below_next hb01 hb2
 have hw2 : Below w.heap.size w w2 := below_next hbW hb02
 have hs2 : w.heap.size + 1 < w2.heap.size := by have := hb02.size; omega
 obtain ⟨j0, j1, j2, j3, j4, _⟩ := boxS k0 k1 k2 k3 k4 hb02
 have hsr : w1.heap.size < W1.heap.size := World.block_lt_of_cell? W1 _ x0
 have r0 : w2.cell? ⟨w1.heap.size, 0, none⟩ = some (.int .i64 st) := (hb2.cell (p := ⟨w1.heap.size, 0, none⟩) hsr).trans x0
 have r1 : w2.cell? ⟨w1.heap.size, 1, none⟩ = some (.int .i64 0) := (hb2.cell (p := ⟨w1.heap.size, 1, none⟩) hsr).trans x1
 have r2 : w2.cell? ⟨w1.heap.size, 2, none⟩ = some (.string ⟨#[]⟩) := (hb2.cell (p := ⟨w1.heap.size, 2, none⟩) hsr).trans x2
 have HZ2 := Lib.hid (HZ.out.keep (hb02.block _ hsz))
 clear hW1 x0 x1 x2
 go_wp2_with fail
 refine (copy_any key lp val ls A n c l w2 HI0.out.n (HI0.out.l.upto hw2)).mono ?_
 rintro e w3 ⟨A2, c2, rfl, hr3, hnew, hb3⟩
 have HR3 := Lib.hid hr3
 have HN3 := Lib.hid hnew
 obtain ⟨z0, z1, z2, z3, z4, u0, u1, u2, u3, u4⟩ := zero_facts (HZ2.out.keep (hb3.block _ hs2))
 clear hr3 hnew
 go_wp2
 refine bodyPost_ret (v := .tuple #[rowV key ls lp val A2 l.length c2, .int .i64 0]) (by simp [results, Tryz.results87, go_sem, z0, z1, z2, z3, z4]) rfl ⟨A2, c2, rfl, ?_, ⟨fun ad h => by have := HN3.out.1 ad h; omega, HN3.out.2⟩, ?_⟩
 ·have e : ∀ (W : World) (p : Addr) (u : Value), (W.setCell p u).heap.size = W.heap.size := fun W p u => by simp [World.setCell]
  rw [e, e, e, e, e]
  repeat (refine RecsAt.setLow ?_ HN3.out.1 hs2 _)
  exact HR3.out
 ·have hbw : Below w.heap.size w w3 := below_next hw2 hb3
  repeat (refine below_set ?_ (by simp) _)
  exact hbw
set_option maxHeartbeats 8000000 in
theorem undo_held (hi : RowIn w key lp val A n l) (t : rowB key ls lp val l = true) (t2 : inB st 1 1099511627776 = true) (t3 : (stOf ls st l == 2) = false) (t4 : (stOf ls st l == 3) = false) (t5 : (stOf ls st l == 1) = true) (hcap : n ≤ c) (h99 : n ≤ 100) :
 Calls Tryz.prog 87 #[rowV key ls lp val A n c, .int .i64 st] w (RowOut2 key 0 ⟨#[]⟩ ⟨#[]⟩ (insRec l ⟨st, 0, ⟨#[]⟩⟩) 0 w) := by
 obtain ⟨W0, hW, k0, k1, k2, k3, k4, hz, hbW, hsW⟩ := box2_new w (.string key) (.int .i64 ls) (.string lp) (.string val) (.slice A n c)
 have HW := Lib.hid hW
 have HI0 := Lib.hid hi
 have HI := Lib.hid (hi.upto hbW)
 have HZ := Lib.hid hz
 have hlen := hi.l.len
 have hsz : w.heap.size + 1 < W0.heap.size := by omega
 clear hW hi hz hsW
 have HRK := Lib.hid (show RecOk ⟨st, 0, ⟨#[]⟩⟩ from ⟨by have := inB_true.1 t2; unfold i64; dsimp only; omega, by unfold i64; dsimp only; omega, Nat.zero_le _⟩)
 go_enter Tryz.func87, Tryz.ntmps87
 go_wp2_with fail
 rw [← HW.out]
 refine (checkAt_ok key lp val ls A n c l st W0 HI.out t t2).mono ?_
 rintro e w1 ⟨rfl, hb1⟩
 obtain ⟨g0, g1, g2, g3, g4, _⟩ := boxS k0 k1 k2 k3 k4 hb1
 have h1 : 1 ≤ st := (inB_true.1 t2).1
 have hs1 : w.heap.size + 1 < w1.heap.size := by have := hb1.size; omega
 have hs1' : w.heap.size < w1.heap.size := by omega
 go_wp2_with fail
 obtain ⟨W1, hW1⟩ : ∃ W1, W1 = w1.alloc (.cells #[.int .i64 st, .int .i64 0, .string ⟨#[]⟩] 80) := ⟨_, rfl⟩
 have hbx : Below w1.heap.size w1 W1 := by rw [hW1]; exact below_alloc (Below.refl _ _) _
 have x0 : W1.cell? ⟨w1.heap.size, 0, none⟩ = some (.int .i64 st) := by rw [hW1]; simp
 have x1 : W1.cell? ⟨w1.heap.size, 1, none⟩ = some (.int .i64 0) := by rw [hW1]; simp
 have x2 : W1.cell? ⟨w1.heap.size, 2, none⟩ = some (.string ⟨#[]⟩) := by rw [hW1]; simp
 rw [← hW1]
 have hb01 : Below W0.heap.size W0 W1 := below_next hb1 hbx
 refine (statusOf_any key lp val ls A n c l st W1 (HI.out.upto hb01) t h1).mono ?_
 rintro e w2 ⟨rfl, hb2⟩
 have hb02 : Below W0.heap.size W0 w2 := below_next hb01 hb2
 have hw2 : Below w.heap.size w w2 := below_next hbW hb02
 have hs2 : w.heap.size + 1 < w2.heap.size := by have := hb02.size; omega
 obtain ⟨j0, j1, j2, j3, j4, _⟩ := boxS k0 k1 k2 k3 k4 hb02
 have hsr : w1.heap.size < W1.heap.size := World.block_lt_of_cell? W1 _ x0
 have r0 : w2.cell? ⟨w1.heap.size, 0, none⟩ = some (.int .i64 st) := (hb2.cell (p := ⟨w1.heap.size, 0, none⟩) hsr).trans x0
 have r1 : w2.cell? ⟨w1.heap.size, 1, none⟩ = some (.int .i64 0) := (hb2.cell (p := ⟨w1.heap.size, 1, none⟩) hsr).trans x1
 have r2 : w2.cell? ⟨w1.heap.size, 2, none⟩ = some (.string ⟨#[]⟩) := (hb2.cell (p := ⟨w1.heap.size, 2, none⟩) hsr).trans x2
 have HZ2 := Lib.hid (HZ.out.keep (hb02.block _ hsz))
 clear hW1 x0 x1 x2
 have dj0 : w2.drew.cell? ⟨w.heap.size, 0, none⟩ = some (.string key) := j0
 have dj1 : w2.drew.cell? ⟨w.heap.size, 1, none⟩ = some (.int .i64 ls) := j1
 have dj2 : w2.drew.cell? ⟨w.heap.size, 2, none⟩ = some (.string lp) := j2
 have dj3 : w2.drew.cell? ⟨w.heap.size, 3, none⟩ = some (.string val) := j3
 have dj4 : w2.drew.cell? ⟨w.heap.size, 4, none⟩ = some (.slice A n c) := j4
 have dx0 : w2.drew.cell? ⟨w1.heap.size, 0, none⟩ = some (.int .i64 st) := r0
 have dx1 : w2.drew.cell? ⟨w1.heap.size, 1, none⟩ = some (.int .i64 0) := r1
 have dx2 : w2.drew.cell? ⟨w1.heap.size, 2, none⟩ = some (.string ⟨#[]⟩) := r2
 have dw5 : Below w.heap.size w w2.drew := below_drew hw2
 have sA : w.heap.size + 1 ≠ w.heap.size := by omega
 have sB : w.heap.size + 1 ≠ w1.heap.size := by omega
 have sC : w.heap.size ≤ w.heap.size + 1 := by omega
 go_wp2_with fail
 go_region_held3 (fun w' => w'.cell? ⟨w.heap.size, 0, none⟩ = some (.string key) ∧ w'.cell? ⟨w.heap.size, 1, none⟩ = some (.int .i64 ls) ∧ w'.cell? ⟨w.heap.size, 2, none⟩ = some (.string lp) ∧ w'.cell? ⟨w.heap.size, 3, none⟩ = some (.string val) ∧ w'.cell? ⟨w.heap.size, 4, none⟩ = some (.slice A n c) ∧ w'.cell? ⟨w1.heap.size, 0, none⟩ = some (.int .i64 st) ∧ w'.cell? ⟨w1.heap.size, 1, none⟩ = some (.int .i64 0) ∧ w'.cell? ⟨w1.heap.size, 2, none⟩ = some (.string ⟨#[]⟩) ∧ Below w.heap.size w w')
  (first | with_reducible exact ⟨dj0, dj1, dj2, dj3, dj4, dx0, dx1, dx2, dw5⟩ | (go_split_ands; with_reducible exact nextS hbb ⟨by assumption, by assumption, by assumption, by assumption, by assumption, by assumption, by assumption, by assumption, by assumption⟩) | (go_split_ands; with_reducible exact nextS hba ⟨by assumption, by assumption, by assumption, by assumption, by assumption, by assumption, by assumption, by assumption, by assumption⟩) | (go_split_ands; with_reducible exact setS (p := ⟨w.heap.size + 1, 4, none⟩) sA sB sC _ (setS (p := ⟨w.heap.size + 1, 3, none⟩) sA sB sC _ (setS (p := ⟨w.heap.size + 1, 2, none⟩) sA sB sC _ (setS (p := ⟨w.heap.size + 1, 1, none⟩) sA sB sC _ (setS (p := ⟨w.heap.size + 1, 0, none⟩) sA sB sC _ ⟨by assumption, by assumption, by assumption, by assumption, by assumption, by assumption, by assumption, by assumption, by assumption⟩))))))
  (first
    | (go_at_call 98; refine (withoutLock_any _ _ _ _ _ _ _ _).mono ?_; rintro e wa ⟨rfl, hba⟩; have HZa := Lib.hid (HZ2.out.keep (hba.block _ hs2)); have hsa : w.heap.size + 1 < wa.heap.size := Nat.lt_of_lt_of_le hs2 hba.size)
    | (go_at_call 97; go_split_ands; refine (withRecord_any key ⟨#[]⟩ ⟨#[]⟩ 0 A n c l ⟨st, 0, ⟨#[]⟩⟩ _ HI0.out.n hcap h99 (HI0.out.l.upto (by assumption)) HRK.out).mono ?_; rintro e wb ⟨A2, c2, rfl, hr2, hnew, hbb⟩; have HR2 := Lib.hid hr2; have HN2 := Lib.hid hnew; obtain ⟨z0, z1, z2, z3, z4, u0, u1, u2, u3, u4⟩ := zero_facts (HZa.out.keep (hbb.block _ hsa)); clear hr2 hnew))
 go_split_ands
 go_wp2
 refine bodyPost_ret (v := .tuple #[rowV key 0 ⟨#[]⟩ ⟨#[]⟩ A2 (insRec l ⟨st, 0, ⟨#[]⟩⟩).length c2, .int .i64 0]) (by simp [results, Tryz.results87, go_sem, z0, z1, z2, z3, z4]) rfl ⟨A2, c2, rfl, ?_, ⟨fun ad h => by have := HN2.out.1 ad h; omega, HN2.out.2⟩, ?_⟩
 ·have e : ∀ (W : World) (p : Addr) (u : Value), (W.setCell p u).heap.size = W.heap.size := fun W p u => by simp [World.setCell]
  rw [e, e, e, e, e]
  repeat (refine RecsAt.setLow ?_ HN2.out.1 hsa _)
  exact HR2.out
 ·assumption
set_option maxHeartbeats 8000000 in
theorem undo_full (hi : RowIn w key lp val A n l) (t : rowB key ls lp val l = true) (t2 : inB st 1 1099511627776 = true) (t3 : (stOf ls st l == 2) = false) (t4 : (stOf ls st l == 3) = false) (t5 : (stOf ls st l == 1) = false) (t6 : decide (roomOf ls ≤ (l.length : Int)) = true) :
 Calls Tryz.prog 87 #[rowV key ls lp val A n c, .int .i64 st] w (RowOut2 ⟨#[]⟩ 0 ⟨#[]⟩ ⟨#[]⟩ [] 1 w) := by
 obtain ⟨W0, hW, k0, k1, k2, k3, k4, hz, hbW, hsW⟩ := box2_new w (.string key) (.int .i64 ls) (.string lp) (.string val) (.slice A n c)
 have HW := Lib.hid hW
 have HI0 := Lib.hid hi
 have HI := Lib.hid (hi.upto hbW)
 have HZ := Lib.hid hz
 have hlen := hi.l.len
 have hsz : w.heap.size + 1 < W0.heap.size := by omega
 clear hW hi hz hsW
 have hn := HI0.out.n
 subst hn
 go_enter Tryz.func87, Tryz.ntmps87
 go_wp2_with fail
 rw [← HW.out]
 refine (checkAt_ok key lp val ls A l.length c l st W0 HI.out t t2).mono ?_
 rintro e w1 ⟨rfl, hb1⟩
 obtain ⟨g0, g1, g2, g3, g4, _⟩ := boxS k0 k1 k2 k3 k4 hb1
 have h1 : 1 ≤ st := (inB_true.1 t2).1
 have hs1 : w.heap.size + 1 < w1.heap.size := by have := hb1.size; omega
 have hs1' : w.heap.size < w1.heap.size := by omega
 go_wp2_with fail
 obtain ⟨W1, hW1⟩ : ∃ W1, W1 = w1.alloc (.cells #[.int .i64 st, .int .i64 0, .string ⟨#[]⟩] 80) := ⟨_, rfl⟩
 have hbx : Below w1.heap.size w1 W1 := by rw [hW1]; exact below_alloc (Below.refl _ _) _
 have x0 : W1.cell? ⟨w1.heap.size, 0, none⟩ = some (.int .i64 st) := by rw [hW1]; simp
 have x1 : W1.cell? ⟨w1.heap.size, 1, none⟩ = some (.int .i64 0) := by rw [hW1]; simp
 have x2 : W1.cell? ⟨w1.heap.size, 2, none⟩ = some (.string ⟨#[]⟩) := by rw [hW1]; simp
 rw [← hW1]
 have hb01 : Below W0.heap.size W0 W1 := below_next hb1 hbx
 refine (statusOf_any key lp val ls A l.length c l st W1 (HI.out.upto hb01) t h1).mono ?_
 rintro e w2 ⟨rfl, hb2⟩
 have hb02 : Below W0.heap.size W0 w2 := below_next hb01 hb2
 have hw2 : Below w.heap.size w w2 := below_next hbW hb02
 have hs2 : w.heap.size + 1 < w2.heap.size := by have := hb02.size; omega
 obtain ⟨j0, j1, j2, j3, j4, _⟩ := boxS k0 k1 k2 k3 k4 hb02
 have hsr : w1.heap.size < W1.heap.size := World.block_lt_of_cell? W1 _ x0
 have r0 : w2.cell? ⟨w1.heap.size, 0, none⟩ = some (.int .i64 st) := (hb2.cell (p := ⟨w1.heap.size, 0, none⟩) hsr).trans x0
 have r1 : w2.cell? ⟨w1.heap.size, 1, none⟩ = some (.int .i64 0) := (hb2.cell (p := ⟨w1.heap.size, 1, none⟩) hsr).trans x1
 have r2 : w2.cell? ⟨w1.heap.size, 2, none⟩ = some (.string ⟨#[]⟩) := (hb2.cell (p := ⟨w1.heap.size, 2, none⟩) hsr).trans x2
 have HZ2 := Lib.hid (HZ.out.keep (hb02.block _ hsz))
 clear hW1 x0 x1 x2
 have dj0 : w2.drew.cell? ⟨w.heap.size, 0, none⟩ = some (.string key) := j0
 have dj1 : w2.drew.cell? ⟨w.heap.size, 1, none⟩ = some (.int .i64 ls) := j1
 have dj2 : w2.drew.cell? ⟨w.heap.size, 2, none⟩ = some (.string lp) := j2
 have dj3 : w2.drew.cell? ⟨w.heap.size, 3, none⟩ = some (.string val) := j3
 have dj4 : w2.drew.cell? ⟨w.heap.size, 4, none⟩ = some (.slice A l.length c) := j4
 have dx0 : w2.drew.cell? ⟨w1.heap.size, 0, none⟩ = some (.int .i64 st) := r0
 have dx1 : w2.drew.cell? ⟨w1.heap.size, 1, none⟩ = some (.int .i64 0) := r1
 have dx2 : w2.drew.cell? ⟨w1.heap.size, 2, none⟩ = some (.string ⟨#[]⟩) := r2
 have dw5 : Below w.heap.size w w2.drew := below_drew hw2
 have sA : w.heap.size + 1 ≠ w.heap.size := by omega
 have sB : w.heap.size + 1 ≠ w1.heap.size := by omega
 have sC : w.heap.size ≤ w.heap.size + 1 := by omega
 go_wp2_with fail
 go_region_held3 (fun w' => w'.cell? ⟨w.heap.size, 0, none⟩ = some (.string key) ∧ w'.cell? ⟨w.heap.size, 1, none⟩ = some (.int .i64 ls) ∧ w'.cell? ⟨w.heap.size, 2, none⟩ = some (.string lp) ∧ w'.cell? ⟨w.heap.size, 3, none⟩ = some (.string val) ∧ w'.cell? ⟨w.heap.size, 4, none⟩ = some (.slice A l.length c) ∧ w'.cell? ⟨w1.heap.size, 0, none⟩ = some (.int .i64 st) ∧ w'.cell? ⟨w1.heap.size, 1, none⟩ = some (.int .i64 0) ∧ w'.cell? ⟨w1.heap.size, 2, none⟩ = some (.string ⟨#[]⟩) ∧ Below w.heap.size w w')
  (first | with_reducible exact ⟨dj0, dj1, dj2, dj3, dj4, dx0, dx1, dx2, dw5⟩ | (go_split_ands; with_reducible exact nextS hba ⟨by assumption, by assumption, by assumption, by assumption, by assumption, by assumption, by assumption, by assumption, by assumption⟩))
  (first
    | (go_at_call 88; refine (maxRecords_any _ _ _ _ _ _ _ _).mono ?_; rintro e wa ⟨rfl, hba⟩; have HZa := Lib.hid (HZ2.out.keep (hba.block _ hs2)); have hsa : w.heap.size + 1 < wa.heap.size := Nat.lt_of_lt_of_le hs2 hba.size))
 go_split_ands
 obtain ⟨z0, z1, z2, z3, z4, u0, u1, u2, u3, u4⟩ := zero_facts HZa.out
 go_wp2
 refine bodyPost_ret (v := .tuple #[rowV ⟨#[]⟩ 0 ⟨#[]⟩ ⟨#[]⟩ none 0 0, .int .i64 1]) (by simp [results, Tryz.results87, go_sem, z0, z1, z2, z3, z4]) rfl ⟨none, 0, rfl, RecsAt.nil_ _ _ _, ⟨newAt_none _, Nat.le_refl _⟩, ?_⟩
 have hbw : Below w.heap.size w wa := by assumption
 repeat (refine below_set ?_ (by simp) _)
 exact hbw
set_option maxHeartbeats 8000000 in
theorem undo_new (hi : RowIn w key lp val A n l) (t : rowB key ls lp val l = true) (t2 : inB st 1 1099511627776 = true) (t3 : (stOf ls st l == 2) = false) (t4 : (stOf ls st l == 3) = false) (t5 : (stOf ls st l == 1) = false) (t6 : decide (roomOf ls ≤ (l.length : Int)) = false) (hcap : n ≤ c) (h99 : n ≤ 100) :
 Calls Tryz.prog 87 #[rowV key ls lp val A n c, .int .i64 st] w (RowOut2 key ls lp val (insRec l ⟨st, 0, ⟨#[]⟩⟩) 0 w) := by
 obtain ⟨W0, hW, k0, k1, k2, k3, k4, hz, hbW, hsW⟩ := box2_new w (.string key) (.int .i64 ls) (.string lp) (.string val) (.slice A n c)
 have HW := Lib.hid hW
 have HI0 := Lib.hid hi
 have HI := Lib.hid (hi.upto hbW)
 have HZ := Lib.hid hz
 have hlen := hi.l.len
 have hsz : w.heap.size + 1 < W0.heap.size := by omega
 clear hW hi hz hsW
 have hn := HI0.out.n
 subst hn
 have HRK := Lib.hid (show RecOk ⟨st, 0, ⟨#[]⟩⟩ from ⟨by have := inB_true.1 t2; unfold i64; dsimp only; omega, by unfold i64; dsimp only; omega, Nat.zero_le _⟩)
 go_enter Tryz.func87, Tryz.ntmps87
 go_wp2_with fail
 rw [← HW.out]
 refine (checkAt_ok key lp val ls A l.length c l st W0 HI.out t t2).mono ?_
 rintro e w1 ⟨rfl, hb1⟩
 obtain ⟨g0, g1, g2, g3, g4, _⟩ := boxS k0 k1 k2 k3 k4 hb1
 have h1 : 1 ≤ st := (inB_true.1 t2).1
 have hs1 : w.heap.size + 1 < w1.heap.size := by have := hb1.size; omega
 have hs1' : w.heap.size < w1.heap.size := by omega
 go_wp2_with fail
 obtain ⟨W1, hW1⟩ : ∃ W1, W1 = w1.alloc (.cells #[.int .i64 st, .int .i64 0, .string ⟨#[]⟩] 80) := ⟨_, rfl⟩
 have hbx : Below w1.heap.size w1 W1 := by rw [hW1]; exact below_alloc (Below.refl _ _) _
 have x0 : W1.cell? ⟨w1.heap.size, 0, none⟩ = some (.int .i64 st) := by rw [hW1]; simp
 have x1 : W1.cell? ⟨w1.heap.size, 1, none⟩ = some (.int .i64 0) := by rw [hW1]; simp
 have x2 : W1.cell? ⟨w1.heap.size, 2, none⟩ = some (.string ⟨#[]⟩) := by rw [hW1]; simp
 rw [← hW1]
 have hb01 : Below W0.heap.size W0 W1 := below_next hb1 hbx
 refine (statusOf_any key lp val ls A l.length c l st W1 (HI.out.upto hb01) t h1).mono ?_
 rintro e w2 ⟨rfl, hb2⟩
 have hb02 : Below W0.heap.size W0 w2 := below_next hb01 hb2
 have hw2 : Below w.heap.size w w2 := below_next hbW hb02
 have hs2 : w.heap.size + 1 < w2.heap.size := by have := hb02.size; omega
 obtain ⟨j0, j1, j2, j3, j4, _⟩ := boxS k0 k1 k2 k3 k4 hb02
 have hsr : w1.heap.size < W1.heap.size := World.block_lt_of_cell? W1 _ x0
 have r0 : w2.cell? ⟨w1.heap.size, 0, none⟩ = some (.int .i64 st) := (hb2.cell (p := ⟨w1.heap.size, 0, none⟩) hsr).trans x0
 have r1 : w2.cell? ⟨w1.heap.size, 1, none⟩ = some (.int .i64 0) := (hb2.cell (p := ⟨w1.heap.size, 1, none⟩) hsr).trans x1
 have r2 : w2.cell? ⟨w1.heap.size, 2, none⟩ = some (.string ⟨#[]⟩) := (hb2.cell (p := ⟨w1.heap.size, 2, none⟩) hsr).trans x2
 have HZ2 := Lib.hid (HZ.out.keep (hb02.block _ hsz))
 clear hW1 x0 x1 x2
 have dj0 : w2.drew.cell? ⟨w.heap.size, 0, none⟩ = some (.string key) := j0
 have dj1 : w2.drew.cell? ⟨w.heap.size, 1, none⟩ = some (.int .i64 ls) := j1
 have dj2 : w2.drew.cell? ⟨w.heap.size, 2, none⟩ = some (.string lp) := j2
 have dj3 : w2.drew.cell? ⟨w.heap.size, 3, none⟩ = some (.string val) := j3
 have dj4 : w2.drew.cell? ⟨w.heap.size, 4, none⟩ = some (.slice A l.length c) := j4
 have dx0 : w2.drew.cell? ⟨w1.heap.size, 0, none⟩ = some (.int .i64 st) := r0
 have dx1 : w2.drew.cell? ⟨w1.heap.size, 1, none⟩ = some (.int .i64 0) := r1
 have dx2 : w2.drew.cell? ⟨w1.heap.size, 2, none⟩ = some (.string ⟨#[]⟩) := r2
 have dw5 : Below w.heap.size w w2.drew := below_drew hw2
 have sA : w.heap.size + 1 ≠ w.heap.size := by omega
 have sB : w.heap.size + 1 ≠ w1.heap.size := by omega
 have sC : w.heap.size ≤ w.heap.size + 1 := by omega
 go_wp2_with fail
 go_region_held3 (fun w' => w'.cell? ⟨w.heap.size, 0, none⟩ = some (.string key) ∧ w'.cell? ⟨w.heap.size, 1, none⟩ = some (.int .i64 ls) ∧ w'.cell? ⟨w.heap.size, 2, none⟩ = some (.string lp) ∧ w'.cell? ⟨w.heap.size, 3, none⟩ = some (.string val) ∧ w'.cell? ⟨w.heap.size, 4, none⟩ = some (.slice A l.length c) ∧ w'.cell? ⟨w1.heap.size, 0, none⟩ = some (.int .i64 st) ∧ w'.cell? ⟨w1.heap.size, 1, none⟩ = some (.int .i64 0) ∧ w'.cell? ⟨w1.heap.size, 2, none⟩ = some (.string ⟨#[]⟩) ∧ Below w.heap.size w w')
  (first | with_reducible exact ⟨dj0, dj1, dj2, dj3, dj4, dx0, dx1, dx2, dw5⟩ | (go_split_ands; with_reducible exact nextS hba ⟨by assumption, by assumption, by assumption, by assumption, by assumption, by assumption, by assumption, by assumption, by assumption⟩))
  (first
    | (go_at_call 88; refine (maxRecords_any _ _ _ _ _ _ _ _).mono ?_; rintro e wa ⟨rfl, hba⟩; have HZa := Lib.hid (HZ2.out.keep (hba.block _ hs2)); have hsa : w.heap.size + 1 < wa.heap.size := Nat.lt_of_lt_of_le hs2 hba.size))
 go_split_ands
 go_wp2_with fail
 refine (withRecord_any key lp val ls A l.length c l ⟨st, 0, ⟨#[]⟩⟩ wa rfl hcap h99 (HI0.out.l.upto (by assumption)) HRK.out).mono ?_
 rintro e wb ⟨A2, c2, rfl, hr2, hnew, hbb⟩
 have HR2 := Lib.hid hr2
 have HN2 := Lib.hid hnew
 obtain ⟨z0, z1, z2, z3, z4, u0, u1, u2, u3, u4⟩ := zero_facts (HZa.out.keep (hbb.block _ hsa))
 have hbw : Below w.heap.size w wb := below_next (by assumption) hbb
 clear hr2 hnew
 go_wp2
 refine bodyPost_ret (v := .tuple #[rowV key ls lp val A2 (insRec l ⟨st, 0, ⟨#[]⟩⟩).length c2, .int .i64 0]) (by simp [results, Tryz.results87, go_sem, z0, z1, z2, z3, z4]) rfl ⟨A2, c2, rfl, ?_, ⟨fun ad h => by have := HN2.out.1 ad h; omega, HN2.out.2⟩, ?_⟩
 ·have e : ∀ (W : World) (p : Addr) (u : Value), (W.setCell p u).heap.size = W.heap.size := fun W p u => by simp [World.setCell]
  rw [e, e, e, e, e]
  repeat (refine RecsAt.setLow ?_ HN2.out.1 hsa _)
  exact HR2.out
 ·repeat (refine below_set ?_ (by simp) _)
  exact hbw
end
end Go.Proofs.YtambkjnhfejfaaaGreat
