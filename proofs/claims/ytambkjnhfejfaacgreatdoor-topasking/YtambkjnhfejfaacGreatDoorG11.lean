/-
  Contracts of functions of the program and words for memory, several texts in one: Status, Read. Conditions: those stated with each.
-/
import Derived.Test.YtambkjnhfejfaacGreatDoorG00
import Derived.Test.YtambkjnhfejfaacGreatDoorG10
namespace Go.Proofs.YtambkjnhfejfaacGreatDoor
open Go.RowKit

section
variable (key lp val : ByteArray) (ls : Int) (A : Option Addr) (n c : Nat) (l : List RecM) (st : Int) (w : World)

theorem checkAt_state (hi : RowIn w key lp val A n l) (t : rowB key ls lp val l = false) :
    Calls Tryz.prog 66 #[rowV key ls lp val A n c, .int .i64 st] w fun e w' => e = .returned (.int .i64 6) ∧ Below w.heap.size w w' := by
  obtain ⟨W0, hW, k0, k1, k2, k3, k4, hbW, hsW⟩ := box_new w (.string key) (.int .i64 ls) (.string lp) (.string val) (.slice A n c) 45
  have HW := Lib.hid hW
  have HI := Lib.hid (hi.upto hbW)
  clear hW hi hsW
  go_enter Tryz.func66, Tryz.ntmps66
  go_wp2_with fail
  rw [← HW.out]
  refine (check_bad key lp val ls A l n c W0 HI.out.n HI.out.l HI.out.k HI.out.p HI.out.v t).mono ?_
  rintro e w1 ⟨rfl, hb1⟩
  go_wp2
  go_ret
  exact ⟨rfl, by repeat (first | with_reducible exact Below.refl _ _ | assumption | with_reducible apply below_alloc | with_reducible apply below_drew | with_reducible apply below_drewN | (with_reducible apply below_next; rotate_left; assumption))⟩
theorem checkAt_range (hi : RowIn w key lp val A n l) (t : rowB key ls lp val l = true) (t2 : inB st 1 1099511627776 = false) :
    Calls Tryz.prog 66 #[rowV key ls lp val A n c, .int .i64 st] w fun e w' => e = .returned (.int .i64 2) ∧ Below w.heap.size w w' := by
  obtain ⟨W0, hW, k0, k1, k2, k3, k4, hbW, hsW⟩ := box_new w (.string key) (.int .i64 ls) (.string lp) (.string val) (.slice A n c) 45
  have HW := Lib.hid hW
  have HI := Lib.hid (hi.upto hbW)
  clear hW hi hsW
  go_enter Tryz.func66, Tryz.ntmps66
  go_wp2_with fail
  rw [← HW.out]
  refine (check_ok key lp val ls A l n c W0 HI.out.n HI.out.l HI.out.k HI.out.p HI.out.v t).mono ?_
  rintro e w1 ⟨rfl, hb1⟩
  go_wp2_with (go_at_call 85; refine (isTime_any _ _).mono ?_; rintro e w' ⟨rfl, rfl⟩)
  go_ret
  exact ⟨rfl, by repeat (first | with_reducible exact Below.refl _ _ | assumption | with_reducible apply below_alloc | with_reducible apply below_drew | with_reducible apply below_drewN | (with_reducible apply below_next; rotate_left; assumption))⟩
theorem checkAt_ok (hi : RowIn w key lp val A n l) (t : rowB key ls lp val l = true) (t2 : inB st 1 1099511627776 = true) :
    Calls Tryz.prog 66 #[rowV key ls lp val A n c, .int .i64 st] w fun e w' => e = .returned (.int .i64 0) ∧ Below w.heap.size w w' := by
  obtain ⟨W0, hW, k0, k1, k2, k3, k4, hbW, hsW⟩ := box_new w (.string key) (.int .i64 ls) (.string lp) (.string val) (.slice A n c) 45
  have HW := Lib.hid hW
  have HI := Lib.hid (hi.upto hbW)
  clear hW hi hsW
  go_enter Tryz.func66, Tryz.ntmps66
  go_wp2_with fail
  rw [← HW.out]
  refine (check_ok key lp val ls A l n c W0 HI.out.n HI.out.l HI.out.k HI.out.p HI.out.v t).mono ?_
  rintro e w1 ⟨rfl, hb1⟩
  go_wp2_with (go_at_call 85; refine (isTime_any _ _).mono ?_; rintro e w' ⟨rfl, rfl⟩)
  go_ret
  exact ⟨rfl, by repeat (first | with_reducible exact Below.refl _ _ | assumption | with_reducible apply below_alloc | with_reducible apply below_drew | with_reducible apply below_drewN | (with_reducible apply below_next; rotate_left; assumption))⟩

theorem ret_two {a b a' b' : Int} (h : a = a') (h' : b = b') : Ending.returned (.tuple #[.int .i64 a, .int .i64 b]) = .returned (.tuple #[.int .i64 a', .int .i64 b']) := by rw [h, h']

set_option maxHeartbeats 2000000 in
theorem statusOf_any (hi : RowIn w key lp val A n l) (t : rowB key ls lp val l = true) (h1 : 1 ≤ st) :
    Calls Tryz.prog 89 #[rowV key ls lp val A n c, .int .i64 st] w fun e w' => e = .returned (.tuple #[.int .i64 (stOf ls st l), .int .i64 (cmOf ls st l)]) ∧ Below w.heap.size w w' := by
  have HX := Lib.hid (lastIx_of (recs_ok t) st)
  have HI := Lib.hid hi
  have hlen := hi.l.len
  have hn := hi.n
  subst hn
  clear hi t
  by_cases q1 : ls = st
  · subst q1
    have q0 : (ls != 0) = true := by simp; omega
    go_enter Tryz.func89, Tryz.ntmps89
    go_wp2_with (go_at_call 67; refine (locked_any _ _ _ _ _ _ _ _).mono ?_; rintro e w1 ⟨rfl, hb1⟩; obtain ⟨hc1, hf1⟩ := bcell hb1)
    go_ret2
    exact ⟨ret_two (by simp [stOf]) (by simp [cmOf]), by repeat (first | with_reducible exact Below.refl _ _ | assumption | with_reducible apply below_alloc | with_reducible apply below_drew | with_reducible apply below_drewN | (with_reducible apply below_next; rotate_left; assumption))⟩
  · have q1' : (ls == st) = false := by simpa using q1
    have HQ := Lib.hid q1
    clear q1
    obtain ⟨i, hix⟩ : ∃ i, i = lastIx (fun r => r.s == st) l := ⟨_, rfl⟩
    have hbd := lastIx_bd (fun r => r.s == st) l
    rw [← hix] at hbd
    have HIX := Lib.hid hix
    clear hix
    by_cases q0 : (ls != 0) = true
    all_goals
      try (have q0' : (ls != 0) = false := by simpa using q0)
      go_enter Tryz.func89, Tryz.ntmps89
      go_wp2_with (go_at_call 67; refine (locked_any _ _ _ _ _ _ _ _).mono ?_; rintro e w1 ⟨rfl, hb1⟩; obtain ⟨hc1, hf1⟩ := bcell hb1)
      have hw1 : Below w.heap.size w w1 := by repeat (first | with_reducible exact Below.refl _ _ | assumption | with_reducible apply below_alloc | with_reducible apply below_drew | with_reducible apply below_drewN | (with_reducible apply below_next; rotate_left; assumption))
      refine (findStatus_any l A l.length c (w.heap.size + 1) 0 st w1 rfl (HI.out.l.upto hw1) ?_).mono ?_
      · rw [hb1.cell (p := ⟨w.heap.size + 1, 0, none⟩) (by simp)]; simp
      · rw [← HIX.out]
        rintro e w2 ⟨rfl, hb2⟩
        have hw2 : Below w.heap.size w w2 := below_next hw1 hb2
        have hsz1 : w.heap.size + 1 < w1.heap.size := by have := hb1.size; simp at this; omega
        have g4 : w2.cell? ⟨w.heap.size, 4, none⟩ = some (.slice A l.length c) := by
          rw [hb2.cell (p := ⟨w.heap.size, 4, none⟩) (by show w.heap.size < _; omega), hb1.cell (p := ⟨w.heap.size, 4, none⟩) (by simp; omega)]; simp
        clear hc1 hf1
        by_cases hneg : i < 0
        · have HF := Lib.hid (HX.out.1 (by rw [← HIX.out]; exact hneg))
          go_wp2
          go_ret2
          exact ⟨ret_two (by simp [stOf, HQ.out, hasRec, HF.out]) (by simp [cmOf, HQ.out, recOf, HF.out]), hw2⟩
        · obtain ⟨m, rfl⟩ : ∃ m : Nat, i = (m : Int) := ⟨i.toNat, by omega⟩
          have hm : m < l.length := by omega
          have HF := Lib.hid (HX.out.2 m HIX.out.symm)
          have hm0 : (0 : Int) ≤ (m : Int) := by omega
          have hm1 : (m : Int) < (l.length : Int) := by omega
          obtain ⟨b, o, rfl, hbb, hr⟩ := (HI.out.l.upto hw2).at_ (getD_of hm)
          have c1 := hr.c
          obtain ⟨rc, hrc⟩ : ∃ rc, rc = (l.getD m default).c := ⟨_, rfl⟩
          rw [← hrc] at c1
          have HR := Lib.hid hrc
          clear hrc hr hneg
          by_cases q3 : rc = 0
          · have q3' : (rc == 0) = true := by simpa using q3
            have HZ := Lib.hid q3
            clear q3
            go_wp2
            go_ret2
            exact ⟨ret_two (by rw [stOf_at HQ.out HF.out, ← HR.out, if_pos HZ.out]) (by rw [cmOf_at HQ.out HF.out, ← HR.out, HZ.out]), hw2⟩
          · have q3' : (rc == 0) = false := by simpa using q3
            have HZ := Lib.hid q3
            clear q3
            go_wp2
            go_quiet (fail)
            go_wp2
            go_ret2
            exact ⟨ret_two (by rw [stOf_at HQ.out HF.out, ← HR.out, if_neg HZ.out]) (by rw [cmOf_at HQ.out HF.out, ← HR.out]), below_drewN hw2 _⟩

theorem status_state (hi : RowIn w key lp val A n l) (t : rowB key ls lp val l = false) :
    Calls Tryz.prog 76 #[rowV key ls lp val A n c, .int .i64 st] w fun e w' => e = .returned (.tuple #[.int .i64 0, .int .i64 0, .int .i64 6]) ∧ Below w.heap.size w w' := by
  obtain ⟨W0, hW, k0, k1, k2, k3, k4, hbW, hsW⟩ := box_new w (.string key) (.int .i64 ls) (.string lp) (.string val) (.slice A n c) 45
  have HW := Lib.hid hW
  have HI := Lib.hid (hi.upto hbW)
  clear hW hi hsW
  go_enter Tryz.func76, Tryz.ntmps76
  go_wp2_with fail
  rw [← HW.out]
  refine (checkAt_state key lp val ls A n c l st W0 HI.out t).mono ?_
  rintro e w1 ⟨rfl, hb1⟩
  go_wp2
  go_ret3
  exact ⟨rfl, by repeat (first | with_reducible exact Below.refl _ _ | assumption | with_reducible apply below_alloc | with_reducible apply below_drew | with_reducible apply below_drewN | (with_reducible apply below_next; rotate_left; assumption))⟩
theorem status_range (hi : RowIn w key lp val A n l) (t : rowB key ls lp val l = true) (t2 : inB st 1 1099511627776 = false) :
    Calls Tryz.prog 76 #[rowV key ls lp val A n c, .int .i64 st] w fun e w' => e = .returned (.tuple #[.int .i64 0, .int .i64 0, .int .i64 2]) ∧ Below w.heap.size w w' := by
  obtain ⟨W0, hW, k0, k1, k2, k3, k4, hbW, hsW⟩ := box_new w (.string key) (.int .i64 ls) (.string lp) (.string val) (.slice A n c) 45
  have HW := Lib.hid hW
  have HI := Lib.hid (hi.upto hbW)
  clear hW hi hsW
  go_enter Tryz.func76, Tryz.ntmps76
  go_wp2_with fail
  rw [← HW.out]
  refine (checkAt_range key lp val ls A n c l st W0 HI.out t t2).mono ?_
  rintro e w1 ⟨rfl, hb1⟩
  go_wp2
  go_ret3
  exact ⟨rfl, by repeat (first | with_reducible exact Below.refl _ _ | assumption | with_reducible apply below_alloc | with_reducible apply below_drew | with_reducible apply below_drewN | (with_reducible apply below_next; rotate_left; assumption))⟩
theorem status_ok (hi : RowIn w key lp val A n l) (t : rowB key ls lp val l = true) (t2 : inB st 1 1099511627776 = true) :
    Calls Tryz.prog 76 #[rowV key ls lp val A n c, .int .i64 st] w fun e w' => e = .returned (.tuple #[.int .i64 (stOf ls st l), .int .i64 (cmOf ls st l), .int .i64 0]) ∧ Below w.heap.size w w' := by
  obtain ⟨W0, hW, k0, k1, k2, k3, k4, hbW, hsW⟩ := box_new w (.string key) (.int .i64 ls) (.string lp) (.string val) (.slice A n c) 45
  have HW := Lib.hid hW
  have HI := Lib.hid (hi.upto hbW)
  have h1 : 1 ≤ st := (inB_true.1 t2).1
  clear hW hi hsW
  go_enter Tryz.func76, Tryz.ntmps76
  go_wp2_with fail
  rw [← HW.out]
  refine (checkAt_ok key lp val ls A n c l st W0 HI.out t t2).mono ?_
  rintro e w1 ⟨rfl, hb1⟩
  obtain ⟨g0, g1, g2, g3, g4, _⟩ := boxS k0 k1 k2 k3 k4 hb1
  go_wp2_with fail
  refine (statusOf_any key lp val ls A n c l st w1 (HI.out.upto hb1) t h1).mono ?_
  rintro e w2 ⟨rfl, hb2⟩
  go_wp2
  go_ret3
  exact ⟨rfl, by repeat (first | with_reducible exact Below.refl _ _ | assumption | with_reducible apply below_alloc | with_reducible apply below_drew | with_reducible apply below_drewN | (with_reducible apply below_next; rotate_left; assumption))⟩
end
end Go.Proofs.YtambkjnhfejfaacGreatDoor

namespace Go.Proofs.YtambkjnhfejfaacGreatDoor
open Go.RowKit

theorem ret_read {v v' : ByteArray} {b b' : Bool} {k : Int} (h : v = v') (h' : b = b') : Ending.returned (.tuple #[.string v, .bool b, .int .i64 k]) = .returned (.tuple #[.string v', .bool b', .int .i64 k]) := by rw [h, h']

section
variable (key lp val : ByteArray) (ls : Int) (A : Option Addr) (n c : Nat) (l : List RecM) (st : Int) (w : World)
theorem read_state (hi : RowIn w key lp val A n l) (t : rowB key ls lp val l = false) :
    Calls Tryz.prog 45 #[rowV key ls lp val A n c, .int .i64 st] w fun e w' => e = .returned (.tuple #[.string ⟨#[]⟩, .bool false, .int .i64 6]) ∧ Below w.heap.size w w' := by
  have HI := Lib.hid hi
  clear hi
  go_enter Tryz.func45, Tryz.ntmps45
  go_wp2_with fail
  refine (checkAt_state key lp val ls A n c l st _ (HI.out.upto (by repeat (first | with_reducible exact Below.refl _ _ | assumption | with_reducible apply below_alloc | with_reducible apply below_drew | with_reducible apply below_drewN | (with_reducible apply below_next; rotate_left; assumption)))) t).mono ?_
  rintro e w1 ⟨rfl, hb1⟩
  go_wp2
  go_ret3
  exact ⟨rfl, by repeat (first | with_reducible exact Below.refl _ _ | assumption | with_reducible apply below_alloc | with_reducible apply below_drew | with_reducible apply below_drewN | (with_reducible apply below_next; rotate_left; assumption))⟩
theorem read_range (hi : RowIn w key lp val A n l) (t : rowB key ls lp val l = true) (t2 : inB st 1 1099511627776 = false) :
    Calls Tryz.prog 45 #[rowV key ls lp val A n c, .int .i64 st] w fun e w' => e = .returned (.tuple #[.string ⟨#[]⟩, .bool false, .int .i64 2]) ∧ Below w.heap.size w w' := by
  have HI := Lib.hid hi
  clear hi
  go_enter Tryz.func45, Tryz.ntmps45
  go_wp2_with fail
  refine (checkAt_range key lp val ls A n c l st _ (HI.out.upto (by repeat (first | with_reducible exact Below.refl _ _ | assumption | with_reducible apply below_alloc | with_reducible apply below_drew | with_reducible apply below_drewN | (with_reducible apply below_next; rotate_left; assumption)))) t t2).mono ?_
  rintro e w1 ⟨rfl, hb1⟩
  go_wp2
  go_ret3
  exact ⟨rfl, by repeat (first | with_reducible exact Below.refl _ _ | assumption | with_reducible apply below_alloc | with_reducible apply below_drew | with_reducible apply below_drewN | (with_reducible apply below_next; rotate_left; assumption))⟩
theorem read_busy (hi : RowIn w key lp val A n l) (t : rowB key ls lp val l = true) (t2 : inB st 1 1099511627776 = true) (t3 : inB ls 1 st = true) :
    Calls Tryz.prog 45 #[rowV key ls lp val A n c, .int .i64 st] w fun e w' => e = .returned (.tuple #[.string ⟨#[]⟩, .bool false, .int .i64 7]) ∧ Below w.heap.size w w' := by
  have HI := Lib.hid hi
  obtain ⟨u1, u2⟩ := inB_true.1 t3
  have u3 : (ls != 0) = true := by simp; omega
  clear hi t3
  go_enter Tryz.func45, Tryz.ntmps45
  go_wp2_with fail
  refine (checkAt_ok key lp val ls A n c l st _ (HI.out.upto (by repeat (first | with_reducible exact Below.refl _ _ | assumption | with_reducible apply below_alloc | with_reducible apply below_drew | with_reducible apply below_drewN | (with_reducible apply below_next; rotate_left; assumption)))) t t2).mono ?_
  rintro e w1 ⟨rfl, hb1⟩
  obtain ⟨hc1, hf1⟩ := bcell hb1
  have hsz1 : w.heap.size + 1 < w1.heap.size := by have := hb1.size; simp at this; omega
  have hsz0 : w.heap.size < w1.heap.size := by omega
  go_wp2_with (go_at_call 67; refine (locked_any _ _ _ _ _ _ _ _).mono ?_; rintro e w2 ⟨rfl, hb2⟩; obtain ⟨hc2, hf2⟩ := bcell hb2)
  go_ret3
  exact ⟨rfl, by repeat (first | with_reducible exact Below.refl _ _ | assumption | with_reducible apply below_alloc | with_reducible apply below_drew | with_reducible apply below_drewN | (with_reducible apply below_next; rotate_left; assumption))⟩

set_option maxHeartbeats 2000000 in
theorem read_ok (hi : RowIn w key lp val A n l) (t : rowB key ls lp val l = true) (t2 : inB st 1 1099511627776 = true) (t3 : inB ls 1 st = false) :
    Calls Tryz.prog 45 #[rowV key ls lp val A n c, .int .i64 st] w fun e w' => e = .returned (.tuple #[.string (bestOf st l).v, .bool (decide (0 < (bestOf st l).c)), .int .i64 0]) ∧ Below w.heap.size w w' := by
  have HI := Lib.hid hi
  have HX := Lib.hid (best_last st l l.length)
  have HP := Lib.hid (fun (k : Nat) (hk : k < l.length) (hc : (l.getD k default).c ≠ 0) => commit_pos (recs_ok t) hk hc)
  have hh := held_pos t
  have hlen := hi.l.len
  have hn := hi.n
  subst hn
  have HT := Lib.hid t
  have h3 := inB_false.1 t3
  obtain ⟨i, hix⟩ : ∃ i, i = lastIx (fun r => r.c != 0 && decide (r.c ≤ st)) l := ⟨_, rfl⟩
  have hbd := lastIx_bd (fun r => r.c != 0 && decide (r.c ≤ st)) l
  rw [← hix] at hbd
  have HIX := Lib.hid hix
  clear hi t t3 hix
  rcases hh with h0 | ⟨h0, h0'⟩
  all_goals
    first
    | subst h0
    | (have u3 : (ls != 0) = true := by simp; omega
       have u4 : ¬ ls ≤ st := by omega)
    clear h3
    go_enter Tryz.func45, Tryz.ntmps45
    go_wp2_with fail
    refine (checkAt_ok key lp val _ A _ c l st _ (HI.out.upto (by repeat (first | with_reducible exact Below.refl _ _ | assumption | with_reducible apply below_alloc | with_reducible apply below_drew | with_reducible apply below_drewN | (with_reducible apply below_next; rotate_left; assumption)))) HT.out t2).mono ?_
    rintro e w1 ⟨rfl, hb1⟩
    obtain ⟨hc1, hf1⟩ := bcell hb1
    have hsz1 : w.heap.size + 1 < w1.heap.size := by have := hb1.size; simp at this; omega
    have hsz0 : w.heap.size < w1.heap.size := by omega
    go_wp2_with (go_at_call 67; refine (locked_any _ _ _ _ _ _ _ _).mono ?_; rintro e w2 ⟨rfl, hb2⟩; obtain ⟨hc2, hf2⟩ := bcell hb2)
    have hw2 : Below w.heap.size w w2 := by repeat (first | with_reducible exact Below.refl _ _ | assumption | with_reducible apply below_alloc | with_reducible apply below_drew | with_reducible apply below_drewN | (with_reducible apply below_next; rotate_left; assumption))
    have e1 : w2.cell? ⟨w.heap.size + 1, 0, none⟩ = some (.int .i64 st) := by
      rw [hb2.cell (p := ⟨w.heap.size + 1, 0, none⟩) (by show w.heap.size + 1 < _; omega), hb1.cell (p := ⟨w.heap.size + 1, 0, none⟩) (by simp)]; simp
    have e4 : w2.cell? ⟨w.heap.size, 4, none⟩ = some (.slice A l.length c) := by
      rw [hb2.cell (p := ⟨w.heap.size, 4, none⟩) (by show w.heap.size < _; omega), hb1.cell (p := ⟨w.heap.size, 4, none⟩) (by simp; omega)]; simp
    have hsz2 := hb2.size
    refine (findRead_any l A l.length c (w.heap.size + 1) 0 st w2 rfl (HI.out.l.upto hw2) e1).mono ?_
    rw [← HIX.out]
    rintro e w3 ⟨rfl, hb3⟩
    have hw3 : Below w.heap.size w w3 := below_next hw2 hb3
    have g4 : w3.cell? ⟨w.heap.size, 4, none⟩ = some (.slice A l.length c) := (hb3.cell (p := ⟨w.heap.size, 4, none⟩) (by show w.heap.size < _; omega)).trans e4
    clear hc1 hf1 hc2 hf2 e1 e4
    by_cases hneg : i < 0
    · have HF := Lib.hid (HX.out.1 (by have := HIX.out; unfold lastIx at this; rw [this] at hneg; exact hneg))
      go_wp2
      go_ret3
      exact ⟨ret_read (by rw [bestOf, HF.out]) (by rw [bestOf, HF.out]; rfl), hw3⟩
    · obtain ⟨m, rfl⟩ : ∃ m : Nat, i = (m : Int) := ⟨i.toNat, by omega⟩
      have hm : m < l.length := by omega
      have HF := Lib.hid (HX.out.2 m HIX.out.symm)
      have hm0 : (0 : Int) ≤ (m : Int) := by omega
      have hm1 : (m : Int) < (l.length : Int) := by omega
      obtain ⟨b, o, rfl, hbb, hr⟩ := (HI.out.l.upto hw3).at_ (getD_of hm)
      have c1 := hr.v
      obtain ⟨rv, hrv⟩ : ∃ rv, rv = (l.getD m default).v := ⟨_, rfl⟩
      rw [← hrv] at c1
      have HR := Lib.hid hrv
      clear hrv hr hneg
      go_wp2
      go_ret3
      exact ⟨ret_read (by rw [bestOf, HF.out.1, HR.out]) (by
        rw [bestOf, HF.out.1]
        have hu := HF.out.2
        simp only [upTo, Bool.and_eq_true, bne_iff_ne] at hu
        have := HP.out m hm hu.1
        exact (decide_eq_true (by omega)).symm), hw3⟩
end
end Go.Proofs.YtambkjnhfejfaacGreatDoor
