/-
  Contracts of functions of the program and words for memory, several texts in one: TRefMay2. Conditions: those stated with each.
-/
import Derived.Test.YtambkjnhfejfaaaGreatG10
namespace Go.Proofs.YtambkjnhfejfaaaGreat
open Go.RowKit
theorem clB_of {clock : Int} {c : ClM} (h : wrsB c.ws = true) : clB clock c = (timesB c clock && atB c) := by simp [clB, h]
set_option maxHeartbeats 4000000 in
theorem clientMay_any (c : ClM) (clock : Int) (A : Option Addr) (n q : Nat) (w : World) (hn : n = c.ws.length) (hl : WrsAt w (· < w.heap.size) A c.ws) (h0 : 0 ≤ clock) (h1 : clock ≤ 1099511627376) :
 Calls Tryz.prog 36 #[clV c A n q, .int .i64 clock] w fun e w' => e = .returned (.bool (clB clock c)) ∧ Below w.heap.size w w' := by
 subst hn
 obtain ⟨ph, st, cm, ws, at_⟩ := c
 dsimp only at hl ⊢
 have hlen := hl.1
 obtain ⟨W0, hW, k0, k1, k2, k3, k4, hbW, hsW⟩ := box_new w (.int .i64 ph) (.int .i64 st) (.int .i64 cm) (.slice A ws.length q) (.int .i64 at_) 49
 have HW := Lib.hid hW
 have HBW := Lib.hid hbW
 have HL := Lib.hid (SeqAt.wrs hl (below_mem hbW).1 (below_mem hbW).2)
 clear hW hbW hsW hl
 by_cases t1 : wrsB ws = true
 ·have HC := Lib.hid (clB_of (clock := clock) (c := ⟨ph, st, cm, ws, at_⟩) t1)
  by_cases p0 : ph = 0
  ·subst p0
   by_cases q1 : (st == 0) = true
   all_goals by_cases q2 : (cm == 0) = true
   all_goals by_cases q3 : (at_ == 0) = true
   all_goals
    try (have q1' : (st == 0) = false := by simpa using q1)
    try (have q2' : (cm == 0) = false := by simpa using q2)
    try (have q3' : (at_ == 0) = false := by simpa using q3)
    go_enter Tryz.func36, Tryz.ntmps36
    go_wp2_with fail
    rw [← HW.out]
    refine (writesMay_any ws A ws.length q W0 rfl HL.out).mono ?_
    rw [t1]
    rintro e w1 ⟨rfl, hb1⟩
    obtain ⟨g0, g1, g2, g3, g4, _⟩ := boxS k0 k1 k2 k3 k4 hb1
    go_wp2
    go_ret
    refine ⟨ret_bool ?_, below_next HBW.out hb1⟩
    rw [HC.out]
    cases ws <;> simp_all [timesB, atB] <;> omega
  ·have p0' : (ph == 0) = false := by simpa using p0
   have P0 := Lib.hid p0
   clear p0
   by_cases s1 : inB st 1 clock = true
   ·obtain ⟨b1, b2⟩ := inB_true.1 s1
    by_cases s2 : inB ph 1 4 = true
    ·obtain ⟨b3, b4⟩ := inB_true.1 s2
     have hph : ph = 1 ∨ ph = 2 ∨ ph = 3 ∨ ph = 4 := by have := P0.out; omega
     rcases hph with rfl | rfl | rfl | rfl
     ·by_cases q1 : (cm != 0) = true
      ·go_enter Tryz.func36, Tryz.ntmps36
       go_wp2_with fail
       rw [← HW.out]
       refine (writesMay_any ws A ws.length q W0 rfl HL.out).mono ?_
       rw [t1]
       rintro e w1 ⟨rfl, hb1⟩
       obtain ⟨g0, g1, g2, g3, g4, _⟩ := boxS k0 k1 k2 k3 k4 hb1
       go_wp2_with (go_at_call 16; refine (in_any _ _ _ _).mono ?_; rintro e w' ⟨rfl, rfl⟩)
       go_ret
       refine ⟨ret_bool ?_, below_next HBW.out hb1⟩
       rw [HC.out]
       simp_all [timesB]
      ·have q1' : (cm != 0) = false := by simpa using q1
       go_enter Tryz.func36, Tryz.ntmps36
       go_wp2_with fail
       rw [← HW.out]
       refine (writesMay_any ws A ws.length q W0 rfl HL.out).mono ?_
       rw [t1]
       rintro e w1 ⟨rfl, hb1⟩
       obtain ⟨g0, g1, g2, g3, g4, _⟩ := boxS k0 k1 k2 k3 k4 hb1
       go_wp2_with (go_at_call 16; refine (in_any _ _ _ _).mono ?_; rintro e w' ⟨rfl, rfl⟩)
       go_ret
       refine ⟨ret_bool ?_, below_next HBW.out hb1⟩
       rw [HC.out]
       simp_all [timesB, atB]
     ·by_cases q1 : (cm != 0) = true
      ·go_enter Tryz.func36, Tryz.ntmps36
       go_wp2_with fail
       rw [← HW.out]
       refine (writesMay_any ws A ws.length q W0 rfl HL.out).mono ?_
       rw [t1]
       rintro e w1 ⟨rfl, hb1⟩
       obtain ⟨g0, g1, g2, g3, g4, _⟩ := boxS k0 k1 k2 k3 k4 hb1
       go_wp2_with (go_at_call 16; refine (in_any _ _ _ _).mono ?_; rintro e w' ⟨rfl, rfl⟩)
       go_ret
       refine ⟨ret_bool ?_, below_next HBW.out hb1⟩
       rw [HC.out]
       simp_all [timesB]
      ·have q1' : (cm != 0) = false := by simpa using q1
       by_cases q2 : 0 < ws.length
       all_goals
        go_enter Tryz.func36, Tryz.ntmps36
        go_wp2_with fail
        rw [← HW.out]
        refine (writesMay_any ws A ws.length q W0 rfl HL.out).mono ?_
        rw [t1]
        rintro e w1 ⟨rfl, hb1⟩
        obtain ⟨g0, g1, g2, g3, g4, _⟩ := boxS k0 k1 k2 k3 k4 hb1
        go_wp2_with (go_at_call 16; refine (in_any _ _ _ _).mono ?_; rintro e w' ⟨rfl, rfl⟩)
        go_ret
        refine ⟨ret_bool ?_, below_next HBW.out hb1⟩
        rw [HC.out]
        have hcm : cm = 0 := by simpa using q1'
        rw [Bool.eq_iff_iff]
        simp [timesB, atB, inB, hcm]
        omega
     ·by_cases q1 : inB cm (st + 1) clock = true
      ·obtain ⟨b5, b6⟩ := inB_true.1 q1
       by_cases q2 : 0 < ws.length
       all_goals
        go_enter Tryz.func36, Tryz.ntmps36
        go_wp2_with fail
        rw [← HW.out]
        refine (writesMay_any ws A ws.length q W0 rfl HL.out).mono ?_
        rw [t1]
        rintro e w1 ⟨rfl, hb1⟩
        obtain ⟨g0, g1, g2, g3, g4, _⟩ := boxS k0 k1 k2 k3 k4 hb1
        go_wp2_with (go_at_call 16; refine (in_any _ _ _ _).mono ?_; rintro e w' ⟨rfl, rfl⟩)
        go_ret
        refine ⟨ret_bool ?_, below_next HBW.out hb1⟩
        rw [HC.out]
        rw [Bool.eq_iff_iff]
        simp [timesB, atB]
        omega
      ·have q1' : inB cm (st + 1) clock = false := by simpa using q1
       have b5 := inB_false.1 q1'
       clear q1
       go_enter Tryz.func36, Tryz.ntmps36
       go_wp2_with fail
       rw [← HW.out]
       refine (writesMay_any ws A ws.length q W0 rfl HL.out).mono ?_
       rw [t1]
       rintro e w1 ⟨rfl, hb1⟩
       obtain ⟨g0, g1, g2, g3, g4, _⟩ := boxS k0 k1 k2 k3 k4 hb1
       go_wp2_with (go_at_call 16; refine (in_any _ _ _ _).mono ?_; rintro e w' ⟨rfl, rfl⟩)
       go_ret
       refine ⟨ret_bool ?_, below_next HBW.out hb1⟩
       rw [HC.out]
       simp [timesB] <;> omega
     ·by_cases q1 : inB cm (st + 1) clock = true
      ·obtain ⟨b5, b6⟩ := inB_true.1 q1
       go_enter Tryz.func36, Tryz.ntmps36
       go_wp2_with fail
       rw [← HW.out]
       refine (writesMay_any ws A ws.length q W0 rfl HL.out).mono ?_
       rw [t1]
       rintro e w1 ⟨rfl, hb1⟩
       obtain ⟨g0, g1, g2, g3, g4, _⟩ := boxS k0 k1 k2 k3 k4 hb1
       go_wp2_with (go_at_call 16; refine (in_any _ _ _ _).mono ?_; rintro e w' ⟨rfl, rfl⟩)
       go_ret
       refine ⟨ret_bool ?_, below_next HBW.out hb1⟩
       rw [HC.out]
       simp_all [timesB, atB, inB] <;> omega
      ·have q1' : inB cm (st + 1) clock = false := by simpa using q1
       have b5 := inB_false.1 q1'
       clear q1
       go_enter Tryz.func36, Tryz.ntmps36
       go_wp2_with fail
       rw [← HW.out]
       refine (writesMay_any ws A ws.length q W0 rfl HL.out).mono ?_
       rw [t1]
       rintro e w1 ⟨rfl, hb1⟩
       obtain ⟨g0, g1, g2, g3, g4, _⟩ := boxS k0 k1 k2 k3 k4 hb1
       go_wp2_with (go_at_call 16; refine (in_any _ _ _ _).mono ?_; rintro e w' ⟨rfl, rfl⟩)
       go_ret
       refine ⟨ret_bool ?_, below_next HBW.out hb1⟩
       rw [HC.out]
       simp [timesB] <;> omega
    ·have s2' : inB ph 1 4 = false := by simpa using s2
     have b3 := inB_false.1 s2'
     clear s2
     go_enter Tryz.func36, Tryz.ntmps36
     go_wp2_with fail
     rw [← HW.out]
     refine (writesMay_any ws A ws.length q W0 rfl HL.out).mono ?_
     rw [t1]
     rintro e w1 ⟨rfl, hb1⟩
     obtain ⟨g0, g1, g2, g3, g4, _⟩ := boxS k0 k1 k2 k3 k4 hb1
     go_wp2_with (go_at_call 16; refine (in_any _ _ _ _).mono ?_; rintro e w' ⟨rfl, rfl⟩)
     go_ret
     refine ⟨ret_bool ?_, below_next HBW.out hb1⟩
     rw [HC.out]
     have e : atB ⟨ph, st, cm, ws, at_⟩ = false := by
      have := P0.out
      simp only [atB]
      rw [if_neg this, if_neg (by omega), if_neg (by omega), if_neg (by omega), if_neg (by omega)]
     rw [e]; simp
   ·have s1' : inB st 1 clock = false := by simpa using s1
    have b1 := inB_false.1 s1'
    clear s1
    go_enter Tryz.func36, Tryz.ntmps36
    go_wp2_with fail
    rw [← HW.out]
    refine (writesMay_any ws A ws.length q W0 rfl HL.out).mono ?_
    rw [t1]
    rintro e w1 ⟨rfl, hb1⟩
    obtain ⟨g0, g1, g2, g3, g4, _⟩ := boxS k0 k1 k2 k3 k4 hb1
    go_wp2_with (go_at_call 16; refine (in_any _ _ _ _).mono ?_; rintro e w' ⟨rfl, rfl⟩)
    go_ret
    refine ⟨ret_bool ?_, below_next HBW.out hb1⟩
    rw [HC.out]
    have e : timesB ⟨ph, st, cm, ws, at_⟩ clock = false := by
     have := P0.out
     simp only [timesB]
     rw [if_neg this]
     split
     ·simp; omega
     ·simp; omega
    rw [e]; simp
 ·have t1 : wrsB ws = false := by simpa using t1
  go_enter Tryz.func36, Tryz.ntmps36
  go_wp2_with fail
  rw [← HW.out]
  refine (writesMay_any ws A ws.length q W0 rfl HL.out).mono ?_
  rw [t1]
  rintro e w1 ⟨rfl, hb1⟩
  go_wp2
  go_ret
  exact ⟨ret_bool (by simp [clB, t1]), below_next HBW.out hb1⟩
end Go.Proofs.YtambkjnhfejfaaaGreat
