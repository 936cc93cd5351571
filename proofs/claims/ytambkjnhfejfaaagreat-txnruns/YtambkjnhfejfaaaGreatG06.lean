/-
  Contracts of functions of the program and words for memory, several texts in one: Lock, CheckNo, Status, Read, LockFor. Conditions: those stated with each.
-/
import Derived.Test.YtambkjnhfejfaaaGreatG02
import Derived.Test.YtambkjnhfejfaaaGreatG05
namespace Go.Proofs.YtambkjnhfejfaaaGreat
open Go.RowKit
set_option maxHeartbeats 2000000 in
theorem validLock_any (key lp val : ByteArray) (ls : Int) (A : Option Addr) (l : List RecM) (n c : Nat) (w : World) (hn : n = l.length) (hl : RecsAt w w.heap.size A l) (h1 : lp.size ≤ maxLen) (h2 : val.size ≤ maxLen) :
 Calls Tryz.prog 90 #[.agg #[.string key, .int .i64 ls, .string lp, .string val, .slice A n c]] w fun e w' => e = .returned (.bool (lockB ls lp val l)) ∧ Below w.heap.size w w' := by
 have HL := Lib.hid hl
 have H1 := Lib.hid h1
 unfold maxLen at h2
 have HN := Lib.hid hn
 clear hl hn h1
 by_cases h0 : ls = 0
 ·subst h0
  by_cases e1 : lp.toList.isEmpty = true
  ·go_enter Tryz.func90, Tryz.ntmps90
   go_wp2_with (go_at_call 74; refine (locked_any _ _ _ _ _ _ _ _).mono ?_; rintro e w1 ⟨rfl, hb1⟩; obtain ⟨hc1, hf1⟩ := bcell hb1)
   go_ret
   exact ⟨ret_bool (by simp [lockB, e1]), by repeat (first | with_reducible exact Below.refl _ _ | assumption | with_reducible apply below_alloc | with_reducible apply below_drew | with_reducible apply below_drewN | (with_reducible apply below_next; rotate_left; assumption))⟩
  ·have e1' : lp.toList.isEmpty = false := by simpa using e1
   clear e1
   go_enter Tryz.func90, Tryz.ntmps90
   go_wp2_with (go_at_call 74; refine (locked_any _ _ _ _ _ _ _ _).mono ?_; rintro e w1 ⟨rfl, hb1⟩; obtain ⟨hc1, hf1⟩ := bcell hb1)
   go_ret
   exact ⟨ret_bool (by simp [lockB, e1']), by repeat (first | with_reducible exact Below.refl _ _ | assumption | with_reducible apply below_alloc | with_reducible apply below_drew | with_reducible apply below_drewN | (with_reducible apply below_next; rotate_left; assumption))⟩
 ·have h0' : (ls != 0) = true := by simpa using h0
  have H0 := Lib.hid h0
  clear h0
  by_cases t1 : inB ls 1 1099511627776 = true
  ·by_cases t2 : keyB lp = true
   ·by_cases t3 : val.size ≤ 20
    ·go_enter Tryz.func90, Tryz.ntmps90
     go_wp2_with (first | (go_at_call 74; refine (locked_any _ _ _ _ _ _ _ _).mono ?_; rintro e w1 ⟨rfl, hb1⟩; obtain ⟨hc1, hf1⟩ := bcell hb1) | (go_at_call 92; refine (isTime_any _ _).mono ?_; rintro e w' ⟨rfl, rfl⟩) | (go_at_call 55; refine (key_any _ _ H1.out).mono ?_; rintro e w' ⟨rfl, rfl⟩))
     have hw1 : Below w.heap.size w w1 := by repeat (first | with_reducible exact Below.refl _ _ | assumption | with_reducible apply below_alloc | with_reducible apply below_drew | with_reducible apply below_drewN | (with_reducible apply below_next; rotate_left; assumption))
     refine (findLock_any l A n c (w.heap.size + 1) 0 ls w1 HN.out (HL.out.upto hw1) ?_).mono ?_
     ·rw [hb1.cell (p := ⟨w.heap.size + 1, 0, none⟩) (by simp)]; simp
     ·rintro e w2 ⟨rfl, hb2⟩
      go_wp2
      go_ret
      exact ⟨ret_bool (by simp [lockB, H0.out, t1, t2, t3]), below_next hw1 hb2⟩
    ·go_enter Tryz.func90, Tryz.ntmps90
     go_wp2_with (first | (go_at_call 74; refine (locked_any _ _ _ _ _ _ _ _).mono ?_; rintro e w1 ⟨rfl, hb1⟩; obtain ⟨hc1, hf1⟩ := bcell hb1) | (go_at_call 92; refine (isTime_any _ _).mono ?_; rintro e w' ⟨rfl, rfl⟩) | (go_at_call 55; refine (key_any _ _ H1.out).mono ?_; rintro e w' ⟨rfl, rfl⟩))
     go_ret
     exact ⟨ret_bool (by simp [lockB, H0.out, t3]), by repeat (first | with_reducible exact Below.refl _ _ | assumption | with_reducible apply below_alloc | with_reducible apply below_drew | with_reducible apply below_drewN | (with_reducible apply below_next; rotate_left; assumption))⟩
   ·have t2' : keyB lp = false := by simpa using t2
    clear t2
    go_enter Tryz.func90, Tryz.ntmps90
    go_wp2_with (first | (go_at_call 74; refine (locked_any _ _ _ _ _ _ _ _).mono ?_; rintro e w1 ⟨rfl, hb1⟩; obtain ⟨hc1, hf1⟩ := bcell hb1) | (go_at_call 92; refine (isTime_any _ _).mono ?_; rintro e w' ⟨rfl, rfl⟩) | (go_at_call 55; refine (key_any _ _ H1.out).mono ?_; rintro e w' ⟨rfl, rfl⟩))
    go_ret
    exact ⟨ret_bool (by simp [lockB, H0.out, t2']), by repeat (first | with_reducible exact Below.refl _ _ | assumption | with_reducible apply below_alloc | with_reducible apply below_drew | with_reducible apply below_drewN | (with_reducible apply below_next; rotate_left; assumption))⟩
  ·have t1' : inB ls 1 1099511627776 = false := by simpa using t1
   clear t1
   go_enter Tryz.func90, Tryz.ntmps90
   go_wp2_with (first | (go_at_call 74; refine (locked_any _ _ _ _ _ _ _ _).mono ?_; rintro e w1 ⟨rfl, hb1⟩; obtain ⟨hc1, hf1⟩ := bcell hb1) | (go_at_call 92; refine (isTime_any _ _).mono ?_; rintro e w' ⟨rfl, rfl⟩) | (go_at_call 55; refine (key_any _ _ H1.out).mono ?_; rintro e w' ⟨rfl, rfl⟩))
   go_ret
   exact ⟨ret_bool (by simp [lockB, H0.out, t1']), by repeat (first | with_reducible exact Below.refl _ _ | assumption | with_reducible apply below_alloc | with_reducible apply below_drew | with_reducible apply below_drewN | (with_reducible apply below_next; rotate_left; assumption))⟩
set_option maxHeartbeats 2000000 in
theorem check_yes (key lp val : ByteArray) (ls : Int) (A : Option Addr) (l : List RecM) (n c : Nat) (w : World) (hn : n = l.length) (hl : RecsAt w w.heap.size A l) (h0 : key.size ≤ maxLen) (h1 : lp.size ≤ maxLen) (h2 : val.size ≤ maxLen)
 (t1 : keyB key = true) (t2 : decide (roomOf ls < (l.length : Int)) = false) (t3 : recsFrom 0 0 l = true) (t4 : lockB ls lp val l = true) :
 Calls Tryz.prog 63 #[.agg #[.string key, .int .i64 ls, .string lp, .string val, .slice A n c]] w fun e w' => e = .returned (.int .i64 0) ∧ Below w.heap.size w w' := by
 obtain ⟨W0, hW, k0, k1, k2, k3, k4, hbW, hsW⟩ := box_new w (.string key) (.int .i64 ls) (.string lp) (.string val) (.slice A l.length c) 45
 have HW := Lib.hid hW
 have HL0 := Lib.hid (hl.upto hbW)
 have HS := Lib.hid hsW
 have H0 := Lib.hid h0
 have H1 := Lib.hid h1
 have H2 := Lib.hid h2
 have hlen := hl.len
 subst hn
 clear hl h0 h1 h2 hW hsW
 go_enter Tryz.func63, Tryz.ntmps63
 go_wp2
 rw [← HW.out]
 go_region_held3 (fun w' => w'.cell? ⟨w.heap.size, 0, none⟩ = some (.string key) ∧ w'.cell? ⟨w.heap.size, 1, none⟩ = some (.int .i64 ls) ∧ w'.cell? ⟨w.heap.size, 2, none⟩ = some (.string lp) ∧ w'.cell? ⟨w.heap.size, 3, none⟩ = some (.string val) ∧ w'.cell? ⟨w.heap.size, 4, none⟩ = some (.slice A l.length c) ∧ Below W0.heap.size W0 w')
  (first | exact boxS k0 k1 k2 k3 k4 (below_drew (Below.refl _ _)) | (go_split_ands; refine boxS k0 k1 k2 k3 k4 ?_; apply below_next; rotate_left; assumption; assumption))
  (first
    | (go_at_call 55; refine (key_any _ _ H0.out).mono ?_; rintro e w' ⟨rfl, rfl⟩)
    | (go_at_call 88; refine (maxRecords_any _ _ _ _ _ _ _ _).mono ?_; rintro e w1 ⟨rfl, hb1⟩)
    | (go_at_call 89; go_split_ands; refine (validRecords_any l _ _ _ _ rfl (HL0.out.upto (by assumption))).mono ?_; rintro e w1 ⟨rfl, hb1⟩)
    | (go_at_call 90; go_split_ands; refine (validLock_any _ _ _ _ _ l _ _ _ rfl (HL0.out.upto (by assumption)) H1.out H2.out).mono ?_; rintro e w1 ⟨rfl, hb1⟩))
 all_goals
  go_split_ands
  go_wp2
  go_ret
  exact ⟨rfl, below_next hbW (by first | assumption | exact below_drew (Below.refl _ _))⟩
set_option maxHeartbeats 2000000 in
theorem check_no4 (key lp val : ByteArray) (ls : Int) (A : Option Addr) (l : List RecM) (n c : Nat) (w : World) (hn : n = l.length) (hl : RecsAt w w.heap.size A l) (h0 : key.size ≤ maxLen) (h1 : lp.size ≤ maxLen) (h2 : val.size ≤ maxLen)
 (t1 : keyB key = true) (t2 : decide (roomOf ls < (l.length : Int)) = false) (t3 : recsFrom 0 0 l = true) (t4 : lockB ls lp val l = false) :
 Calls Tryz.prog 63 #[.agg #[.string key, .int .i64 ls, .string lp, .string val, .slice A n c]] w fun e w' => e = .returned (.int .i64 6) ∧ Below w.heap.size w w' := by
 obtain ⟨W0, hW, k0, k1, k2, k3, k4, hbW, hsW⟩ := box_new w (.string key) (.int .i64 ls) (.string lp) (.string val) (.slice A l.length c) 45
 have HW := Lib.hid hW
 have HL0 := Lib.hid (hl.upto hbW)
 have HS := Lib.hid hsW
 have H0 := Lib.hid h0
 have H1 := Lib.hid h1
 have H2 := Lib.hid h2
 have hlen := hl.len
 subst hn
 clear hl h0 h1 h2 hW hsW
 go_enter Tryz.func63, Tryz.ntmps63
 go_wp2
 rw [← HW.out]
 go_region_held3 (fun w' => w'.cell? ⟨w.heap.size, 0, none⟩ = some (.string key) ∧ w'.cell? ⟨w.heap.size, 1, none⟩ = some (.int .i64 ls) ∧ w'.cell? ⟨w.heap.size, 2, none⟩ = some (.string lp) ∧ w'.cell? ⟨w.heap.size, 3, none⟩ = some (.string val) ∧ w'.cell? ⟨w.heap.size, 4, none⟩ = some (.slice A l.length c) ∧ Below W0.heap.size W0 w')
  (first | exact boxS k0 k1 k2 k3 k4 (below_drew (Below.refl _ _)) | (go_split_ands; refine boxS k0 k1 k2 k3 k4 ?_; apply below_next; rotate_left; assumption; assumption))
  (first
    | (go_at_call 55; refine (key_any _ _ H0.out).mono ?_; rintro e w' ⟨rfl, rfl⟩)
    | (go_at_call 88; refine (maxRecords_any _ _ _ _ _ _ _ _).mono ?_; rintro e w1 ⟨rfl, hb1⟩)
    | (go_at_call 89; go_split_ands; refine (validRecords_any l _ _ _ _ rfl (HL0.out.upto (by assumption))).mono ?_; rintro e w1 ⟨rfl, hb1⟩)
    | (go_at_call 90; go_split_ands; refine (validLock_any _ _ _ _ _ l _ _ _ rfl (HL0.out.upto (by assumption)) H1.out H2.out).mono ?_; rintro e w1 ⟨rfl, hb1⟩))
 all_goals
  go_split_ands
  go_wp2
  go_ret
  exact ⟨rfl, below_next hbW (by first | assumption | exact below_drew (Below.refl _ _))⟩
set_option maxHeartbeats 2000000 in
theorem check_no3 (key lp val : ByteArray) (ls : Int) (A : Option Addr) (l : List RecM) (n c : Nat) (w : World) (hn : n = l.length) (hl : RecsAt w w.heap.size A l) (h0 : key.size ≤ maxLen) (h1 : lp.size ≤ maxLen) (h2 : val.size ≤ maxLen)
 (t1 : keyB key = true) (t2 : decide (roomOf ls < (l.length : Int)) = false) (t3 : recsFrom 0 0 l = false) :
 Calls Tryz.prog 63 #[.agg #[.string key, .int .i64 ls, .string lp, .string val, .slice A n c]] w fun e w' => e = .returned (.int .i64 6) ∧ Below w.heap.size w w' := by
 obtain ⟨W0, hW, k0, k1, k2, k3, k4, hbW, hsW⟩ := box_new w (.string key) (.int .i64 ls) (.string lp) (.string val) (.slice A l.length c) 45
 have HW := Lib.hid hW
 have HL0 := Lib.hid (hl.upto hbW)
 have HS := Lib.hid hsW
 have H0 := Lib.hid h0
 have H1 := Lib.hid h1
 have H2 := Lib.hid h2
 have hlen := hl.len
 subst hn
 clear hl h0 h1 h2 hW hsW
 go_enter Tryz.func63, Tryz.ntmps63
 go_wp2
 rw [← HW.out]
 have hg : w.heap.size < W0.heap.size := by rw [HS.out]; omega
 first
 | (go_region_with
  (first
    | (go_at_call 55; refine (key_any _ _ H0.out).mono ?_; rintro e w' ⟨rfl, rfl⟩)
    | (go_at_call 88; refine (maxRecords_any _ _ _ _ _ _ _ _).mono ?_; rintro e w1 ⟨rfl, hb1⟩; have hq1 := below_next (w := W0) (by first | assumption | exact below_drew (Below.refl _ _)) hb1; obtain ⟨hc1, hf1⟩ := bcell hq1)
    | (go_at_call 89; refine (validRecords_any l _ _ _ _ rfl (HL0.out.upto (by assumption))).mono ?_; rintro e w1 ⟨rfl, hb1⟩; have hq1 := below_next (w := W0) (by first | assumption | exact below_drew (Below.refl _ _)) hb1; obtain ⟨hc1, hf1⟩ := bcell hq1)
    | (go_at_call 90; refine (validLock_any _ _ _ _ _ l _ _ _ rfl (HL0.out.upto (by assumption)) H1.out H2.out).mono ?_; rintro e w1 ⟨rfl, hb1⟩; have hq1 := below_next (w := W0) (by first | assumption | exact below_drew (Below.refl _ _)) hb1; obtain ⟨hc1, hf1⟩ := bcell hq1)))
 | fail
 all_goals
  go_wp2
  go_ret
  exact ⟨rfl, below_next hbW (by first | assumption | exact below_drew (Below.refl _ _))⟩
set_option maxHeartbeats 2000000 in
theorem check_no2 (key lp val : ByteArray) (ls : Int) (A : Option Addr) (l : List RecM) (n c : Nat) (w : World) (hn : n = l.length) (hl : RecsAt w w.heap.size A l) (h0 : key.size ≤ maxLen) (h1 : lp.size ≤ maxLen) (h2 : val.size ≤ maxLen)
 (t1 : keyB key = true) (t2 : decide (roomOf ls < (l.length : Int)) = true) :
 Calls Tryz.prog 63 #[.agg #[.string key, .int .i64 ls, .string lp, .string val, .slice A n c]] w fun e w' => e = .returned (.int .i64 6) ∧ Below w.heap.size w w' := by
 obtain ⟨W0, hW, k0, k1, k2, k3, k4, hbW, hsW⟩ := box_new w (.string key) (.int .i64 ls) (.string lp) (.string val) (.slice A l.length c) 45
 have HW := Lib.hid hW
 have HL0 := Lib.hid (hl.upto hbW)
 have HS := Lib.hid hsW
 have H0 := Lib.hid h0
 have H1 := Lib.hid h1
 have H2 := Lib.hid h2
 have hlen := hl.len
 subst hn
 clear hl h0 h1 h2 hW hsW
 go_enter Tryz.func63, Tryz.ntmps63
 go_wp2
 rw [← HW.out]
 have hg : w.heap.size < W0.heap.size := by rw [HS.out]; omega
 first
 | (go_region_with
  (first
    | (go_at_call 55; refine (key_any _ _ H0.out).mono ?_; rintro e w' ⟨rfl, rfl⟩)
    | (go_at_call 88; refine (maxRecords_any _ _ _ _ _ _ _ _).mono ?_; rintro e w1 ⟨rfl, hb1⟩; have hq1 := below_next (w := W0) (by first | assumption | exact below_drew (Below.refl _ _)) hb1; obtain ⟨hc1, hf1⟩ := bcell hq1)
    | (go_at_call 89; refine (validRecords_any l _ _ _ _ rfl (HL0.out.upto (by assumption))).mono ?_; rintro e w1 ⟨rfl, hb1⟩; have hq1 := below_next (w := W0) (by first | assumption | exact below_drew (Below.refl _ _)) hb1; obtain ⟨hc1, hf1⟩ := bcell hq1)
    | (go_at_call 90; refine (validLock_any _ _ _ _ _ l _ _ _ rfl (HL0.out.upto (by assumption)) H1.out H2.out).mono ?_; rintro e w1 ⟨rfl, hb1⟩; have hq1 := below_next (w := W0) (by first | assumption | exact below_drew (Below.refl _ _)) hb1; obtain ⟨hc1, hf1⟩ := bcell hq1)))
 | fail
 all_goals
  go_wp2
  go_ret
  exact ⟨rfl, below_next hbW (by first | assumption | exact below_drew (Below.refl _ _))⟩
set_option maxHeartbeats 2000000 in
theorem check_no1 (key lp val : ByteArray) (ls : Int) (A : Option Addr) (l : List RecM) (n c : Nat) (w : World) (hn : n = l.length) (hl : RecsAt w w.heap.size A l) (h0 : key.size ≤ maxLen) (h1 : lp.size ≤ maxLen) (h2 : val.size ≤ maxLen)
 (t1 : keyB key = false) :
 Calls Tryz.prog 63 #[.agg #[.string key, .int .i64 ls, .string lp, .string val, .slice A n c]] w fun e w' => e = .returned (.int .i64 6) ∧ Below w.heap.size w w' := by
 obtain ⟨W0, hW, k0, k1, k2, k3, k4, hbW, hsW⟩ := box_new w (.string key) (.int .i64 ls) (.string lp) (.string val) (.slice A l.length c) 45
 have HW := Lib.hid hW
 have HL0 := Lib.hid (hl.upto hbW)
 have HS := Lib.hid hsW
 have H0 := Lib.hid h0
 have H1 := Lib.hid h1
 have H2 := Lib.hid h2
 have hlen := hl.len
 subst hn
 clear hl h0 h1 h2 hW hsW
 go_enter Tryz.func63, Tryz.ntmps63
 go_wp2
 rw [← HW.out]
 have hg : w.heap.size < W0.heap.size := by rw [HS.out]; omega
 go_quiet ((go_at_call 55; exact quiet_left (key_any _ _ H0.out)))
 go_wp2
 go_ret
 exact ⟨rfl, below_next hbW (below_drewN (Below.refl _ _) _)⟩
theorem check_ok (key lp val : ByteArray) (ls : Int) (A : Option Addr) (l : List RecM) (n c : Nat) (w : World) (hn : n = l.length) (hl : RecsAt w w.heap.size A l) (h0 : key.size ≤ maxLen) (h1 : lp.size ≤ maxLen) (h2 : val.size ≤ maxLen) (t : rowB key ls lp val l = true) :
 Calls Tryz.prog 63 #[.agg #[.string key, .int .i64 ls, .string lp, .string val, .slice A n c]] w fun e w' => e = .returned (.int .i64 0) ∧ Below w.heap.size w w' := by
 simp only [rowB, Bool.and_eq_true, decide_eq_true_eq] at t
 exact check_yes key lp val ls A l n c w hn hl h0 h1 h2 t.1.1.1 (by simpa using t.1.1.2) t.1.2 t.2
theorem check_bad (key lp val : ByteArray) (ls : Int) (A : Option Addr) (l : List RecM) (n c : Nat) (w : World) (hn : n = l.length) (hl : RecsAt w w.heap.size A l) (h0 : key.size ≤ maxLen) (h1 : lp.size ≤ maxLen) (h2 : val.size ≤ maxLen) (t : rowB key ls lp val l = false) :
 Calls Tryz.prog 63 #[.agg #[.string key, .int .i64 ls, .string lp, .string val, .slice A n c]] w fun e w' => e = .returned (.int .i64 6) ∧ Below w.heap.size w w' := by
 by_cases t1 : keyB key = true
 ·by_cases t2 : (l.length : Int) ≤ roomOf ls
  ·by_cases t3 : recsFrom 0 0 l = true
   ·by_cases t4 : lockB ls lp val l = true
    ·simp [rowB, t1, t2, t3, t4] at t
    ·exact check_no4 key lp val ls A l n c w hn hl h0 h1 h2 t1 (by simpa using t2) t3 (by simpa using t4)
   ·exact check_no3 key lp val ls A l n c w hn hl h0 h1 h2 t1 (by simpa using t2) (by simpa using t3)
  ·exact check_no2 key lp val ls A l n c w hn hl h0 h1 h2 t1 (by simpa using t2)
 ·exact check_no1 key lp val ls A l n c w hn hl h0 h1 h2 (by simpa using t1)
section
variable (key lp val : ByteArray) (ls : Int) (A : Option Addr) (n c : Nat) (l : List RecM) (st : Int) (w : World)
theorem checkAt_state (hi : RowIn w key lp val A n l) (t : rowB key ls lp val l = false) :
 Calls Tryz.prog 73 #[rowV key ls lp val A n c, .int .i64 st] w fun e w' => e = .returned (.int .i64 6) ∧ Below w.heap.size w w' := by
 obtain ⟨W0, hW, k0, k1, k2, k3, k4, hbW, hsW⟩ := box_new w (.string key) (.int .i64 ls) (.string lp) (.string val) (.slice A n c) 45
 have HW := Lib.hid hW
 have HI := Lib.hid (hi.upto hbW)
 clear hW hi hsW
 go_enter Tryz.func73, Tryz.ntmps73
 go_wp2_with fail
 rw [← HW.out]
 refine (check_bad key lp val ls A l n c W0 HI.out.n HI.out.l HI.out.k HI.out.p HI.out.v t).mono ?_
 rintro e w1 ⟨rfl, hb1⟩
 go_wp2
 go_ret
 exact ⟨rfl, by repeat (first | with_reducible exact Below.refl _ _ | assumption | with_reducible apply below_alloc | with_reducible apply below_drew | with_reducible apply below_drewN | (with_reducible apply below_next; rotate_left; assumption))⟩
theorem checkAt_range (hi : RowIn w key lp val A n l) (t : rowB key ls lp val l = true) (t2 : inB st 1 1099511627776 = false) :
 Calls Tryz.prog 73 #[rowV key ls lp val A n c, .int .i64 st] w fun e w' => e = .returned (.int .i64 2) ∧ Below w.heap.size w w' := by
 obtain ⟨W0, hW, k0, k1, k2, k3, k4, hbW, hsW⟩ := box_new w (.string key) (.int .i64 ls) (.string lp) (.string val) (.slice A n c) 45
 have HW := Lib.hid hW
 have HI := Lib.hid (hi.upto hbW)
 clear hW hi hsW
 go_enter Tryz.func73, Tryz.ntmps73
 go_wp2_with fail
 rw [← HW.out]
 refine (check_ok key lp val ls A l n c W0 HI.out.n HI.out.l HI.out.k HI.out.p HI.out.v t).mono ?_
 rintro e w1 ⟨rfl, hb1⟩
 go_wp2_with (go_at_call 92; refine (isTime_any _ _).mono ?_; rintro e w' ⟨rfl, rfl⟩)
 go_ret
 exact ⟨rfl, by repeat (first | with_reducible exact Below.refl _ _ | assumption | with_reducible apply below_alloc | with_reducible apply below_drew | with_reducible apply below_drewN | (with_reducible apply below_next; rotate_left; assumption))⟩
theorem checkAt_ok (hi : RowIn w key lp val A n l) (t : rowB key ls lp val l = true) (t2 : inB st 1 1099511627776 = true) :
 Calls Tryz.prog 73 #[rowV key ls lp val A n c, .int .i64 st] w fun e w' => e = .returned (.int .i64 0) ∧ Below w.heap.size w w' := by
 obtain ⟨W0, hW, k0, k1, k2, k3, k4, hbW, hsW⟩ := box_new w (.string key) (.int .i64 ls) (.string lp) (.string val) (.slice A n c) 45
 have HW := Lib.hid hW
 have HI := Lib.hid (hi.upto hbW)
 clear hW hi hsW
 go_enter Tryz.func73, Tryz.ntmps73
 go_wp2_with fail
 rw [← HW.out]
 refine (check_ok key lp val ls A l n c W0 HI.out.n HI.out.l HI.out.k HI.out.p HI.out.v t).mono ?_
 rintro e w1 ⟨rfl, hb1⟩
 go_wp2_with (go_at_call 92; refine (isTime_any _ _).mono ?_; rintro e w' ⟨rfl, rfl⟩)
 go_ret
 exact ⟨rfl, by repeat (first | with_reducible exact Below.refl _ _ | assumption | with_reducible apply below_alloc | with_reducible apply below_drew | with_reducible apply below_drewN | (with_reducible apply below_next; rotate_left; assumption))⟩
theorem ret_two {a b a' b' : Int} (h : a = a') (h' : b = b') : Ending.returned (.tuple #[.int .i64 a, .int .i64 b]) = .returned (.tuple #[.int .i64 a', .int .i64 b']) := by rw [h, h']
set_option maxHeartbeats 2000000 in
theorem statusOf_any (hi : RowIn w key lp val A n l) (t : rowB key ls lp val l = true) (h1 : 1 ≤ st) :
 Calls Tryz.prog 96 #[rowV key ls lp val A n c, .int .i64 st] w fun e w' => e = .returned (.tuple #[.int .i64 (stOf ls st l), .int .i64 (cmOf ls st l)]) ∧ Below w.heap.size w w' := by
 have HX := Lib.hid (lastIx_of (recs_ok t) st)
 have HI := Lib.hid hi
 have hlen := hi.l.len
 have hn := hi.n
 subst hn
 clear hi t
 by_cases q1 : ls = st
 ·subst q1
  have q0 : (ls != 0) = true := by simp; omega
  go_enter Tryz.func96, Tryz.ntmps96
  go_wp2_with (go_at_call 74; refine (locked_any _ _ _ _ _ _ _ _).mono ?_; rintro e w1 ⟨rfl, hb1⟩; obtain ⟨hc1, hf1⟩ := bcell hb1)
  go_ret2
  exact ⟨ret_two (by simp [stOf]) (by simp [cmOf]), by repeat (first | with_reducible exact Below.refl _ _ | assumption | with_reducible apply below_alloc | with_reducible apply below_drew | with_reducible apply below_drewN | (with_reducible apply below_next; rotate_left; assumption))⟩
 ·have q1' : (ls == st) = false := by simpa using q1
  have HQ := Lib.hid q1
  clear q1
  obtain ⟨i, hix⟩ : ∃ i, i = lastIx (fun r => r.s == st) l := ⟨_, rfl⟩
  have hbd := lastIx_bd (fun r => r.s == st) l
  rw [← hix] at hbd
  have HIX := Lib.hid hix
  clear hix
  by_cases q0 : (ls != 0) = true
  all_goals
   try (have q0' : (ls != 0) = false := by simpa using q0)
   go_enter Tryz.func96, Tryz.ntmps96
   go_wp2_with (go_at_call 74; refine (locked_any _ _ _ _ _ _ _ _).mono ?_; rintro e w1 ⟨rfl, hb1⟩; obtain ⟨hc1, hf1⟩ := bcell hb1)
   have hw1 : Below w.heap.size w w1 := by repeat (first | with_reducible exact Below.refl _ _ | assumption | with_reducible apply below_alloc | with_reducible apply below_drew | with_reducible apply below_drewN | (with_reducible apply below_next; rotate_left; assumption))
   refine (findStatus_any l A l.length c (w.heap.size + 1) 0 st w1 rfl (HI.out.l.upto hw1) ?_).mono ?_
   ·rw [hb1.cell (p := ⟨w.heap.size + 1, 0, none⟩) (by simp)]; simp
   ·rw [← HIX.out]
    rintro e w2 ⟨rfl, hb2⟩
    have hw2 : Below w.heap.size w w2 := below_next hw1 hb2
    have hsz1 : w.heap.size + 1 < w1.heap.size := by have := hb1.size; simp at this; omega
    have g4 : w2.cell? ⟨w.heap.size, 4, none⟩ = some (.slice A l.length c) := by
     rw [hb2.cell (p := ⟨w.heap.size, 4, none⟩) (by show w.heap.size < _; omega), hb1.cell (p := ⟨w.heap.size, 4, none⟩) (by simp; omega)]; simp
    clear hc1 hf1
    by_cases hneg : i < 0
    ·have HF := Lib.hid (HX.out.1 (by rw [← HIX.out]; exact hneg))
     go_wp2
     go_ret2
     exact ⟨ret_two (by simp [stOf, HQ.out, hasRec, HF.out]) (by simp [cmOf, HQ.out, recOf, HF.out]), hw2⟩
    ·obtain ⟨m, rfl⟩ : ∃ m : Nat, i = (m : Int) := ⟨i.toNat, by omega⟩
     have hm : m < l.length := by omega
     have HF := Lib.hid (HX.out.2 m HIX.out.symm)
     have hm0 : (0 : Int) ≤ (m : Int) := by omega
     have hm1 : (m : Int) < (l.length : Int) := by omega
     obtain ⟨b, o, rfl, hbb, hr⟩ := (HI.out.l.upto hw2).at_ (getD_of hm)
     have c1 := hr.c
     obtain ⟨rc, hrc⟩ : ∃ rc, rc = (l.getD m default).c := ⟨_, rfl⟩
     rw [← hrc] at c1
     have HR := Lib.hid hrc
     clear hrc hr hneg
     by_cases q3 : rc = 0
     ·have q3' : (rc == 0) = true := by simpa using q3
      have HZ := Lib.hid q3
      clear q3
      go_wp2
      go_ret2
      exact ⟨ret_two (by rw [stOf_at HQ.out HF.out, ← HR.out, if_pos HZ.out]) (by rw [cmOf_at HQ.out HF.out, ← HR.out, HZ.out]), hw2⟩
     ·have q3' : (rc == 0) = false := by simpa using q3
      have HZ := Lib.hid q3
      clear q3
      go_wp2
      go_quiet (fail)
      go_wp2
      go_ret2
      exact ⟨ret_two (by rw [stOf_at HQ.out HF.out, ← HR.out, if_neg HZ.out]) (by rw [cmOf_at HQ.out HF.out, ← HR.out]), below_drewN hw2 _⟩
theorem status_ok (hi : RowIn w key lp val A n l) (t : rowB key ls lp val l = true) (t2 : inB st 1 1099511627776 = true) :
 Calls Tryz.prog 83 #[rowV key ls lp val A n c, .int .i64 st] w fun e w' => e = .returned (.tuple #[.int .i64 (stOf ls st l), .int .i64 (cmOf ls st l), .int .i64 0]) ∧ Below w.heap.size w w' := by
 obtain ⟨W0, hW, k0, k1, k2, k3, k4, hbW, hsW⟩ := box_new w (.string key) (.int .i64 ls) (.string lp) (.string val) (.slice A n c) 45
 have HW := Lib.hid hW
 have HI := Lib.hid (hi.upto hbW)
 have h1 : 1 ≤ st := (inB_true.1 t2).1
 clear hW hi hsW
 go_enter Tryz.func83, Tryz.ntmps83
 go_wp2_with fail
 rw [← HW.out]
 refine (checkAt_ok key lp val ls A n c l st W0 HI.out t t2).mono ?_
 rintro e w1 ⟨rfl, hb1⟩
 obtain ⟨g0, g1, g2, g3, g4, _⟩ := boxS k0 k1 k2 k3 k4 hb1
 go_wp2_with fail
 refine (statusOf_any key lp val ls A n c l st w1 (HI.out.upto hb1) t h1).mono ?_
 rintro e w2 ⟨rfl, hb2⟩
 go_wp2
 go_ret3
 exact ⟨rfl, by repeat (first | with_reducible exact Below.refl _ _ | assumption | with_reducible apply below_alloc | with_reducible apply below_drew | with_reducible apply below_drewN | (with_reducible apply below_next; rotate_left; assumption))⟩
end
theorem ret_read {v v' : ByteArray} {b b' : Bool} {k : Int} (h : v = v') (h' : b = b') : Ending.returned (.tuple #[.string v, .bool b, .int .i64 k]) = .returned (.tuple #[.string v', .bool b', .int .i64 k]) := by rw [h, h']
section
variable (key lp val : ByteArray) (ls : Int) (A : Option Addr) (n c : Nat) (l : List RecM) (st : Int) (w : World)
theorem read_busy (hi : RowIn w key lp val A n l) (t : rowB key ls lp val l = true) (t2 : inB st 1 1099511627776 = true) (t3 : inB ls 1 st = true) :
 Calls Tryz.prog 50 #[rowV key ls lp val A n c, .int .i64 st] w fun e w' => e = .returned (.tuple #[.string ⟨#[]⟩, .bool false, .int .i64 7]) ∧ Below w.heap.size w w' := by
 have HI := Lib.hid hi
 obtain ⟨u1, u2⟩ := inB_true.1 t3
 have u3 : (ls != 0) = true := by simp; omega
 clear hi t3
 go_enter Tryz.func50, Tryz.ntmps50
 go_wp2_with fail
 refine (checkAt_ok key lp val ls A n c l st _ (HI.out.upto (by repeat (first | with_reducible exact Below.refl _ _ | assumption | with_reducible apply below_alloc | with_reducible apply below_drew | with_reducible apply below_drewN | (with_reducible apply below_next; rotate_left; assumption)))) t t2).mono ?_
 rintro e w1 ⟨rfl, hb1⟩
 obtain ⟨hc1, hf1⟩ := bcell hb1
 have hsz1 : w.heap.size + 1 < w1.heap.size := by have := hb1.size; simp at this; omega
 have hsz0 : w.heap.size < w1.heap.size := by omega
 go_wp2_with (go_at_call 74; refine (locked_any _ _ _ _ _ _ _ _).mono ?_; rintro e w2 ⟨rfl, hb2⟩; obtain ⟨hc2, hf2⟩ := bcell hb2)
 go_ret3
 exact ⟨rfl, by repeat (first | with_reducible exact Below.refl _ _ | assumption | with_reducible apply below_alloc | with_reducible apply below_drew | with_reducible apply below_drewN | (with_reducible apply below_next; rotate_left; assumption))⟩
set_option maxHeartbeats 2000000 in
theorem read_ok (hi : RowIn w key lp val A n l) (t : rowB key ls lp val l = true) (t2 : inB st 1 1099511627776 = true) (t3 : inB ls 1 st = false) :
 Calls Tryz.prog 50 #[rowV key ls lp val A n c, .int .i64 st] w fun e w' => e = .returned (.tuple #[.string (bestOf st l).v, .bool (decide (0 < (bestOf st l).c)), .int .i64 0]) ∧ Below w.heap.size w w' := by
 have HI := Lib.hid hi
 have HX := Lib.hid (best_last st l l.length)
 have HP := Lib.hid (fun (k : Nat) (hk : k < l.length) (hc : (l.getD k default).c ≠ 0) => commit_pos (recs_ok t) hk hc)
 have hh := held_pos t
 have hlen := hi.l.len
 have hn := hi.n
 subst hn
 have HT := Lib.hid t
 have h3 := inB_false.1 t3
 obtain ⟨i, hix⟩ : ∃ i, i = lastIx (fun r => r.c != 0 && decide (r.c ≤ st)) l := ⟨_, rfl⟩
 have hbd := lastIx_bd (fun r => r.c != 0 && decide (r.c ≤ st)) l
 rw [← hix] at hbd
 have HIX := Lib.hid hix
 clear hi t t3 hix
 rcases hh with h0 | ⟨h0, h0'⟩
 all_goals
  first
  | subst h0
  | (have u3 : (ls != 0) = true := by simp; omega
     have u4 : ¬ ls ≤ st := by omega)
  clear h3
  go_enter Tryz.func50, Tryz.ntmps50
  go_wp2_with fail
  refine (checkAt_ok key lp val _ A _ c l st _ (HI.out.upto (by repeat (first | with_reducible exact Below.refl _ _ | assumption | with_reducible apply below_alloc | with_reducible apply below_drew | with_reducible apply below_drewN | (with_reducible apply below_next; rotate_left; assumption)))) HT.out t2).mono ?_
  rintro e w1 ⟨rfl, hb1⟩
  obtain ⟨hc1, hf1⟩ := bcell hb1
  have hsz1 : w.heap.size + 1 < w1.heap.size := by have := hb1.size; simp at this; omega
  have hsz0 : w.heap.size < w1.heap.size := by omega
  go_wp2_with (go_at_call 74; refine (locked_any _ _ _ _ _ _ _ _).mono ?_; rintro e w2 ⟨rfl, hb2⟩; obtain ⟨hc2, hf2⟩ := bcell hb2)
  have hw2 : Below w.heap.size w w2 := by repeat (first | with_reducible exact Below.refl _ _ | assumption | with_reducible apply below_alloc | with_reducible apply below_drew | with_reducible apply below_drewN | (with_reducible apply below_next; rotate_left; assumption))
  have e1 : w2.cell? ⟨w.heap.size + 1, 0, none⟩ = some (.int .i64 st) := by
   rw [hb2.cell (p := ⟨w.heap.size + 1, 0, none⟩) (by show w.heap.size + 1 < _; omega), hb1.cell (p := ⟨w.heap.size + 1, 0, none⟩) (by simp)]; simp
  have e4 : w2.cell? ⟨w.heap.size, 4, none⟩ = some (.slice A l.length c) := by
   rw [hb2.cell (p := ⟨w.heap.size, 4, none⟩) (by show w.heap.size < _; omega), hb1.cell (p := ⟨w.heap.size, 4, none⟩) (by simp; omega)]; simp
  have hsz2 := hb2.size
  refine (findRead_any l A l.length c (w.heap.size + 1) 0 st w2 rfl (HI.out.l.upto hw2) e1).mono ?_
  rw [← HIX.out]
  rintro e w3 ⟨rfl, hb3⟩
  have hw3 : Below w.heap.size w w3 := below_next hw2 hb3
  have g4 : w3.cell? ⟨w.heap.size, 4, none⟩ = some (.slice A l.length c) := (hb3.cell (p := ⟨w.heap.size, 4, none⟩) (by show w.heap.size < _; omega)).trans e4
  clear hc1 hf1 hc2 hf2 e1 e4
  by_cases hneg : i < 0
  ·have HF := Lib.hid (HX.out.1 (by have := HIX.out; unfold lastIx at this; rw [this] at hneg; exact hneg))
   go_wp2
   go_ret3
   exact ⟨ret_read (by rw [bestOf, HF.out]) (by rw [bestOf, HF.out]; rfl), hw3⟩
  ·obtain ⟨m, rfl⟩ : ∃ m : Nat, i = (m : Int) := ⟨i.toNat, by omega⟩
   have hm : m < l.length := by omega
   have HF := Lib.hid (HX.out.2 m HIX.out.symm)
   have hm0 : (0 : Int) ≤ (m : Int) := by omega
   have hm1 : (m : Int) < (l.length : Int) := by omega
   obtain ⟨b, o, rfl, hbb, hr⟩ := (HI.out.l.upto hw3).at_ (getD_of hm)
   have c1 := hr.v
   obtain ⟨rv, hrv⟩ : ∃ rv, rv = (l.getD m default).v := ⟨_, rfl⟩
   rw [← hrv] at c1
   have HR := Lib.hid hrv
   clear hrv hr hneg
   go_wp2
   go_ret3
   exact ⟨ret_read (by rw [bestOf, HF.out.1, HR.out]) (by
    rw [bestOf, HF.out.1]
    have hu := HF.out.2
    simp only [upTo, Bool.and_eq_true, bne_iff_ne] at hu
    have := HP.out m hm hu.1
    exact (decide_eq_true (by omega)).symm), hw3⟩
end
def RowOut2 (key : ByteArray) (ls : Int) (lp val : ByteArray) (l : List RecM) (k : Int) (w : World) (e : Ending) (w' : World) : Prop :=
 ∃ A c, e = .returned (.tuple #[rowV key ls lp val A l.length c, .int .i64 k]) ∧ RecsAt w' w'.heap.size A l ∧ NewC w.heap.size A l.length c ∧ Below w.heap.size w w'
section
variable (key lp val : ByteArray) (ls : Int) (A : Option Addr) (n c : Nat) (l : List RecM) (st : Int) (pk pv : ByteArray) (w : World)
set_option maxHeartbeats 4000000 in
theorem lockError_any (hi : RowIn w key lp val A n l) (hp : pk.size ≤ maxLen) (hv : pv.size ≤ maxLen) :
 Calls Tryz.prog 95 #[rowV key ls lp val A n c, .int .i64 st, .string pk, .string pv] w fun e w' => e = .returned (.int .i64 (lockE key ls lp val l st pk pv)) ∧ Below w.heap.size w w' := by
 have HI := Lib.hid hi
 have HP := Lib.hid hp
 have hlen := hi.l.len
 have hn := hi.n
 subst hn
 unfold maxLen at hv
 clear hi hp
 by_cases t : rowB key ls lp val l = true
 ·by_cases t2 : inB st 1 1099511627776 = true
  ·have h1 : 1 ≤ st := (inB_true.1 t2).1
   by_cases t3 : keyB pk = true
   ·by_cases t4 : pv.size ≤ 20
    ·have d4 : decide (20 < (pv.size : Int)) = false := by simp; omega
     by_cases t5 : stOf ls st l = 3
     ·have t5' : (stOf ls st l == 3) = true := by simpa using t5
      have H5 := Lib.hid t5
      clear t5
      (go_enter Tryz.func95, Tryz.ntmps95); go_wp2_with fail; refine (checkAt_ok key lp val _ A l.length c l st _ (HI.out.upto (by repeat (first | with_reducible exact Below.refl _ _ | assumption | with_reducible apply below_alloc | with_reducible apply below_drew | with_reducible apply below_drewN | (with_reducible apply below_next; rotate_left; assumption)))) t t2).mono ?_; rintro e w1 ⟨rfl, hb1⟩; obtain ⟨hc1, hf1⟩ := bcell hb1; have hsz1 : w.heap.size + 1 < w1.heap.size := (by have := hb1.size; simp at this; omega); have hsz0 : w.heap.size < w1.heap.size := (by omega)
      go_wp2_with (go_at_call 55; refine (key_any _ _ HP.out).mono ?_; rintro e w' ⟨rfl, rfl⟩)
      refine (statusOf_any key lp val ls A l.length c l st w1 (HI.out.upto (by repeat (first | with_reducible exact Below.refl _ _ | assumption | with_reducible apply below_alloc | with_reducible apply below_drew | with_reducible apply below_drewN | (with_reducible apply below_next; rotate_left; assumption)))) t h1).mono ?_
      rintro e w2 ⟨rfl, hb2⟩
      go_wp2
      go_ret
      exact ⟨ret_int (by simp [lockE, t, t2, t3, H5.out]; omega), by repeat (first | with_reducible exact Below.refl _ _ | assumption | with_reducible apply below_alloc | with_reducible apply below_drew | with_reducible apply below_drewN | (with_reducible apply below_next; rotate_left; assumption))⟩
     ·have t5' : (stOf ls st l == 3) = false := by simpa using t5
      have H5 := Lib.hid t5
      clear t5
      obtain ⟨i, hix⟩ : ∃ i, i = lastIx (fun r => decide (st < r.c)) l := ⟨_, rfl⟩
      have HIX := Lib.hid hix
      by_cases t6 : 0 ≤ i
      ·have HLT := Lib.hid (show lateB st l = true from decide_eq_true (hix ▸ t6))
       clear hix
       (go_enter Tryz.func95, Tryz.ntmps95); go_wp2_with fail; refine (checkAt_ok key lp val _ A l.length c l st _ (HI.out.upto (by repeat (first | with_reducible exact Below.refl _ _ | assumption | with_reducible apply below_alloc | with_reducible apply below_drew | with_reducible apply below_drewN | (with_reducible apply below_next; rotate_left; assumption)))) t t2).mono ?_; rintro e w1 ⟨rfl, hb1⟩; obtain ⟨hc1, hf1⟩ := bcell hb1; have hsz1 : w.heap.size + 1 < w1.heap.size := (by have := hb1.size; simp at this; omega); have hsz0 : w.heap.size < w1.heap.size := (by omega)
       go_wp2_with (go_at_call 55; refine (key_any _ _ HP.out).mono ?_; rintro e w' ⟨rfl, rfl⟩)
       refine (statusOf_any key lp val ls A l.length c l st w1 (HI.out.upto (by repeat (first | with_reducible exact Below.refl _ _ | assumption | with_reducible apply below_alloc | with_reducible apply below_drew | with_reducible apply below_drewN | (with_reducible apply below_next; rotate_left; assumption)))) t h1).mono ?_
       rintro e w2 ⟨rfl, hb2⟩
       (have e2 : w2.cell? ⟨w.heap.size + 1, 0, none⟩ = some (.int .i64 st) := by rw [hb2.cell (p := ⟨w.heap.size + 1, 0, none⟩) (by show w.heap.size + 1 < _; omega), hb1.cell (p := ⟨w.heap.size + 1, 0, none⟩) (by simp)]; simp); obtain ⟨hc2, hf2⟩ := bcell hb2
       go_wp2_with fail
       refine (findLate_any l A l.length c (w.heap.size + 1) 0 st w2 rfl (HI.out.l.upto (by repeat (first | with_reducible exact Below.refl _ _ | assumption | with_reducible apply below_alloc | with_reducible apply below_drew | with_reducible apply below_drewN | (with_reducible apply below_next; rotate_left; assumption)))) e2).mono ?_
       rw [← HIX.out]
       rintro e w3 ⟨rfl, hb3⟩
       go_wp2
       go_ret
       exact ⟨ret_int (by simp [lockE, t, t2, t3, H5.out, HLT.out]; omega), by repeat (first | with_reducible exact Below.refl _ _ | assumption | with_reducible apply below_alloc | with_reducible apply below_drew | with_reducible apply below_drewN | (with_reducible apply below_next; rotate_left; assumption))⟩
      ·have HLT := Lib.hid (show lateB st l = false from decide_eq_false (hix ▸ t6))
       clear hix
       by_cases t7 : ls = 0
       ·subst t7
        by_cases t8 : l.length < 100
        all_goals
         (go_enter Tryz.func95, Tryz.ntmps95); go_wp2_with fail; refine (checkAt_ok key lp val _ A l.length c l st _ (HI.out.upto (by repeat (first | with_reducible exact Below.refl _ _ | assumption | with_reducible apply below_alloc | with_reducible apply below_drew | with_reducible apply below_drewN | (with_reducible apply below_next; rotate_left; assumption)))) t t2).mono ?_; rintro e w1 ⟨rfl, hb1⟩; obtain ⟨hc1, hf1⟩ := bcell hb1; have hsz1 : w.heap.size + 1 < w1.heap.size := (by have := hb1.size; simp at this; omega); have hsz0 : w.heap.size < w1.heap.size := (by omega)
         go_wp2_with (go_at_call 55; refine (key_any _ _ HP.out).mono ?_; rintro e w' ⟨rfl, rfl⟩)
         refine (statusOf_any key lp val 0 A l.length c l st w1 (HI.out.upto (by repeat (first | with_reducible exact Below.refl _ _ | assumption | with_reducible apply below_alloc | with_reducible apply below_drew | with_reducible apply below_drewN | (with_reducible apply below_next; rotate_left; assumption)))) t h1).mono ?_
         rintro e w2 ⟨rfl, hb2⟩
         (have e2 : w2.cell? ⟨w.heap.size + 1, 0, none⟩ = some (.int .i64 st) := by rw [hb2.cell (p := ⟨w.heap.size + 1, 0, none⟩) (by show w.heap.size + 1 < _; omega), hb1.cell (p := ⟨w.heap.size + 1, 0, none⟩) (by simp)]; simp); obtain ⟨hc2, hf2⟩ := bcell hb2
         go_wp2_with fail
         refine (findLate_any l A l.length c (w.heap.size + 1) 0 st w2 rfl (HI.out.l.upto (by repeat (first | with_reducible exact Below.refl _ _ | assumption | with_reducible apply below_alloc | with_reducible apply below_drew | with_reducible apply below_drewN | (with_reducible apply below_next; rotate_left; assumption)))) e2).mono ?_
         rw [← HIX.out]
         rintro e w3 ⟨rfl, hb3⟩
         obtain ⟨hc3, hf3⟩ := bcell hb3
         have hs3 : w.heap.size < w2.heap.size := by have := hb2.size; omega
         have hs4 : w.heap.size < w3.heap.size := by have := hb3.size; omega
         go_wp2_with (go_at_call 74; refine (locked_any _ _ _ _ _ _ _ _).mono ?_; rintro e w4 ⟨rfl, hb4⟩; obtain ⟨hc4, hf4⟩ := bcell hb4)
         go_ret
         exact ⟨ret_int (by simp [lockE, t, t2, t3, H5.out, HLT.out]; omega), by repeat (first | with_reducible exact Below.refl _ _ | assumption | with_reducible apply below_alloc | with_reducible apply below_drew | with_reducible apply below_drewN | (with_reducible apply below_next; rotate_left; assumption))⟩
       ·have t7' : (ls != 0) = true := by simpa using t7
        have H7 := Lib.hid t7
        clear t7
        (go_enter Tryz.func95, Tryz.ntmps95); go_wp2_with fail; refine (checkAt_ok key lp val _ A l.length c l st _ (HI.out.upto (by repeat (first | with_reducible exact Below.refl _ _ | assumption | with_reducible apply below_alloc | with_reducible apply below_drew | with_reducible apply below_drewN | (with_reducible apply below_next; rotate_left; assumption)))) t t2).mono ?_; rintro e w1 ⟨rfl, hb1⟩; obtain ⟨hc1, hf1⟩ := bcell hb1; have hsz1 : w.heap.size + 1 < w1.heap.size := (by have := hb1.size; simp at this; omega); have hsz0 : w.heap.size < w1.heap.size := (by omega)
        go_wp2_with (go_at_call 55; refine (key_any _ _ HP.out).mono ?_; rintro e w' ⟨rfl, rfl⟩)
        refine (statusOf_any key lp val ls A l.length c l st w1 (HI.out.upto (by repeat (first | with_reducible exact Below.refl _ _ | assumption | with_reducible apply below_alloc | with_reducible apply below_drew | with_reducible apply below_drewN | (with_reducible apply below_next; rotate_left; assumption)))) t h1).mono ?_
        rintro e w2 ⟨rfl, hb2⟩
        (have e2 : w2.cell? ⟨w.heap.size + 1, 0, none⟩ = some (.int .i64 st) := by rw [hb2.cell (p := ⟨w.heap.size + 1, 0, none⟩) (by show w.heap.size + 1 < _; omega), hb1.cell (p := ⟨w.heap.size + 1, 0, none⟩) (by simp)]; simp); obtain ⟨hc2, hf2⟩ := bcell hb2
        go_wp2_with fail
        refine (findLate_any l A l.length c (w.heap.size + 1) 0 st w2 rfl (HI.out.l.upto (by repeat (first | with_reducible exact Below.refl _ _ | assumption | with_reducible apply below_alloc | with_reducible apply below_drew | with_reducible apply below_drewN | (with_reducible apply below_next; rotate_left; assumption)))) e2).mono ?_
        rw [← HIX.out]
        rintro e w3 ⟨rfl, hb3⟩
        obtain ⟨hc3, hf3⟩ := bcell hb3
        have hs3 : w.heap.size < w2.heap.size := by have := hb2.size; omega
        go_wp2_with (go_at_call 74; refine (locked_any _ _ _ _ _ _ _ _).mono ?_; rintro e w4 ⟨rfl, hb4⟩; obtain ⟨hc4, hf4⟩ := bcell hb4)
        go_ret
        exact ⟨ret_int (by simp [lockE, t, t2, t3, H5.out, HLT.out, H7.out]; omega), by repeat (first | with_reducible exact Below.refl _ _ | assumption | with_reducible apply below_alloc | with_reducible apply below_drew | with_reducible apply below_drewN | (with_reducible apply below_next; rotate_left; assumption))⟩
    ·have d4 : decide (20 < (pv.size : Int)) = true := by simp; omega
     (go_enter Tryz.func95, Tryz.ntmps95); go_wp2_with fail; refine (checkAt_ok key lp val _ A l.length c l st _ (HI.out.upto (by repeat (first | with_reducible exact Below.refl _ _ | assumption | with_reducible apply below_alloc | with_reducible apply below_drew | with_reducible apply below_drewN | (with_reducible apply below_next; rotate_left; assumption)))) t t2).mono ?_; rintro e w1 ⟨rfl, hb1⟩; obtain ⟨hc1, hf1⟩ := bcell hb1; have hsz1 : w.heap.size + 1 < w1.heap.size := (by have := hb1.size; simp at this; omega); have hsz0 : w.heap.size < w1.heap.size := (by omega)
     go_wp2_with (go_at_call 55; refine (key_any _ _ HP.out).mono ?_; rintro e w' ⟨rfl, rfl⟩)
     go_ret
     exact ⟨ret_int (by simp [lockE, t, t2, t3]; omega), by repeat (first | with_reducible exact Below.refl _ _ | assumption | with_reducible apply below_alloc | with_reducible apply below_drew | with_reducible apply below_drewN | (with_reducible apply below_next; rotate_left; assumption))⟩
   ·have t3' : keyB pk = false := by simpa using t3
    clear t3
    (go_enter Tryz.func95, Tryz.ntmps95); go_wp2_with fail; refine (checkAt_ok key lp val _ A l.length c l st _ (HI.out.upto (by repeat (first | with_reducible exact Below.refl _ _ | assumption | with_reducible apply below_alloc | with_reducible apply below_drew | with_reducible apply below_drewN | (with_reducible apply below_next; rotate_left; assumption)))) t t2).mono ?_; rintro e w1 ⟨rfl, hb1⟩; obtain ⟨hc1, hf1⟩ := bcell hb1; have hsz1 : w.heap.size + 1 < w1.heap.size := (by have := hb1.size; simp at this; omega); have hsz0 : w.heap.size < w1.heap.size := (by omega)
    go_wp2_with (go_at_call 55; refine (key_any _ _ HP.out).mono ?_; rintro e w' ⟨rfl, rfl⟩)
    go_ret
    exact ⟨ret_int (by simp [lockE, t, t2, t3']), by repeat (first | with_reducible exact Below.refl _ _ | assumption | with_reducible apply below_alloc | with_reducible apply below_drew | with_reducible apply below_drewN | (with_reducible apply below_next; rotate_left; assumption))⟩
  ·have t2' : inB st 1 1099511627776 = false := by simpa using t2
   clear t2
   go_enter Tryz.func95, Tryz.ntmps95
   go_wp2_with fail
   refine (checkAt_range key lp val ls A l.length c l st _ (HI.out.upto (by repeat (first | with_reducible exact Below.refl _ _ | assumption | with_reducible apply below_alloc | with_reducible apply below_drew | with_reducible apply below_drewN | (with_reducible apply below_next; rotate_left; assumption)))) t t2').mono ?_
   rintro e w1 ⟨rfl, hb1⟩
   go_wp2
   go_ret
   exact ⟨ret_int (by simp [lockE, t, t2']), by repeat (first | with_reducible exact Below.refl _ _ | assumption | with_reducible apply below_alloc | with_reducible apply below_drew | with_reducible apply below_drewN | (with_reducible apply below_next; rotate_left; assumption))⟩
 ·have t' : rowB key ls lp val l = false := by simpa using t
  clear t
  go_enter Tryz.func95, Tryz.ntmps95
  go_wp2_with fail
  refine (checkAt_state key lp val ls A l.length c l st _ (HI.out.upto (by repeat (first | with_reducible exact Below.refl _ _ | assumption | with_reducible apply below_alloc | with_reducible apply below_drew | with_reducible apply below_drewN | (with_reducible apply below_next; rotate_left; assumption)))) t').mono ?_
  rintro e w1 ⟨rfl, hb1⟩
  go_wp2
  go_ret
  exact ⟨ret_int (by simp [lockE, t']), by repeat (first | with_reducible exact Below.refl _ _ | assumption | with_reducible apply below_alloc | with_reducible apply below_drew | with_reducible apply below_drewN | (with_reducible apply below_next; rotate_left; assumption))⟩
theorem box2_new (w : World) (v0 v1 v2 v3 v4 : Value) : ∃ W0, W0 = (w.alloc (.cells #[v0, v1, v2, v3, v4] 45)).alloc (.cells #[.string ⟨#[]⟩, .int .i64 0, .string ⟨#[]⟩, .string ⟨#[]⟩, .slice none 0 0] 45) ∧ W0.cell? ⟨w.heap.size, 0, none⟩ = some v0 ∧ W0.cell? ⟨w.heap.size, 1, none⟩ = some v1 ∧ W0.cell? ⟨w.heap.size, 2, none⟩ = some v2 ∧
 W0.cell? ⟨w.heap.size, 3, none⟩ = some v3 ∧ W0.cell? ⟨w.heap.size, 4, none⟩ = some v4 ∧ ZeroRow W0 (w.heap.size + 1) ∧ Below w.heap.size w W0 ∧ W0.heap.size = w.heap.size + 2 :=
 ⟨_, rfl, by simp, by simp, by simp, by simp, by simp, ⟨by
  have h := heap_alloc_new (w.alloc (.cells #[v0, v1, v2, v3, v4] 45)) (.cells #[.string ⟨#[]⟩, .int .i64 0, .string ⟨#[]⟩, .string ⟨#[]⟩, .slice none 0 0] 45)
  simpa using h⟩, below_alloc (below_alloc (Below.refl _ _) _) _, by simp⟩
set_option maxHeartbeats 2000000 in
theorem lockFor_err (hi : RowIn w key lp val A n l) (hp : pk.size ≤ maxLen) (hv : pv.size ≤ maxLen) (h : lockE key ls lp val l st pk pv ≠ 0) :
 Calls Tryz.prog 81 #[rowV key ls lp val A n c, .int .i64 st, .string pk, .string pv] w (RowOut2 ⟨#[]⟩ 0 ⟨#[]⟩ ⟨#[]⟩ [] (lockE key ls lp val l st pk pv) w) := by
 obtain ⟨W0, hW, k0, k1, k2, k3, k4, hz, hbW, hsW⟩ := box2_new w (.string key) (.int .i64 ls) (.string lp) (.string val) (.slice A n c)
 have HW := Lib.hid hW
 have HI := Lib.hid (hi.upto hbW)
 have HP := Lib.hid hp
 have HV := Lib.hid hv
 have HZ := Lib.hid hz
 have hne : (lockE key ls lp val l st pk pv != 0) = true := by simpa using h
 have hsz : w.heap.size + 1 < W0.heap.size := by omega
 clear hW hi hp hv hz h hsW
 go_enter Tryz.func81, Tryz.ntmps81
 go_wp2_with fail
 rw [← HW.out]
 refine (lockError_any key lp val ls A n c l st pk pv W0 HI.out HP.out HV.out).mono ?_
 rintro e w1 ⟨rfl, hb1⟩
 obtain ⟨z0, z1, z2, z3, z4, u0, u1, u2, u3, u4⟩ := zero_facts (HZ.out.keep (hb1.block _ hsz))
 go_wp2
 refine bodyPost_ret (v := .tuple #[rowV ⟨#[]⟩ 0 ⟨#[]⟩ ⟨#[]⟩ none 0 0, .int .i64 (lockE key ls lp val l st pk pv)]) (by simp [results, Tryz.results81, go_sem, z0, z1, z2, z3, z4]) rfl ⟨none, 0, rfl, RecsAt.nil_ _ _ _, ⟨newAt_none _, Nat.le_refl _⟩, ?_⟩
 have hbw : Below w.heap.size w w1 := below_next hbW hb1
 repeat (refine below_set ?_ (by simp) _)
 exact hbw
set_option maxHeartbeats 2000000 in
theorem lockFor_ok (hi : RowIn w key lp val A n l) (hp : pk.size ≤ maxLen) (hv : pv.size ≤ maxLen) (h : lockE key ls lp val l st pk pv = 0) :
 Calls Tryz.prog 81 #[rowV key ls lp val A n c, .int .i64 st, .string pk, .string pv] w (RowOut2 key st pk pv l 0 w) := by
 obtain ⟨W0, hW, k0, k1, k2, k3, k4, hz, hbW, hsW⟩ := box2_new w (.string key) (.int .i64 ls) (.string lp) (.string val) (.slice A n c)
 have HW := Lib.hid hW
 have HI := Lib.hid (hi.upto hbW)
 have HP := Lib.hid hp
 have HV := Lib.hid hv
 have HZ := Lib.hid hz
 have hsz : w.heap.size + 1 < W0.heap.size := by omega
 have HE := Lib.hid h
 clear hW hi hp hv hz h hsW
 go_enter Tryz.func81, Tryz.ntmps81
 go_wp2_with fail
 rw [← HW.out]
 refine (lockError_any key lp val ls A n c l st pk pv W0 HI.out HP.out HV.out).mono ?_
 rw [HE.out]
 rintro e w1 ⟨rfl, hb1⟩
 obtain ⟨g0, g1, g2, g3, g4, _⟩ := boxS k0 k1 k2 k3 k4 hb1
 go_wp2_with fail
 refine (copy_any key lp val ls A n c l w1 HI.out.n (HI.out.l.upto hb1)).mono ?_
 rintro e w2 ⟨A2, c2, rfl, hr2, hnew, hb2⟩
 have HN := Lib.hid hnew
 have hs1 : w.heap.size + 1 < w1.heap.size := by have := hb1.size; omega
 clear hnew
 have HR := Lib.hid hr2
 have hb12 : Below W0.heap.size W0 w2 := below_next hb1 hb2
 have hs2 : w.heap.size + 1 < w2.heap.size := by have := hb12.size; omega
 obtain ⟨z0, z1, z2, z3, z4, u0, u1, u2, u3, u4⟩ := zero_facts (HZ.out.keep (hb12.block _ hsz))
 clear hr2
 go_wp2
 refine bodyPost_ret (v := .tuple #[rowV key st pk pv A2 l.length c2, .int .i64 0]) (by simp [results, Tryz.results81, go_sem, z0, z1, z2, z3, z4, hs2]) rfl ⟨A2, c2, rfl, ?_, ⟨fun ad h => by have := HN.out.1 ad h; omega, HN.out.2⟩, ?_⟩
 ·refine (RecsAt.alloc ?_ (Nat.le_refl _) _).more (by simp)
  have e : ∀ (W : World) (p : Addr) (u : Value), (W.setCell p u).heap.size = W.heap.size := fun W p u => by simp [World.setCell]
  rw [e, e, e, e, e]
  repeat (refine RecsAt.setLow ?_ HN.out.1 hs1 _)
  exact HR.out
 ·have hbw : Below w.heap.size w w2 := below_next hbW hb12
  refine below_alloc ?_ _
  repeat (refine below_set ?_ (by simp) _)
  exact hbw
end
end Go.Proofs.YtambkjnhfejfaaaGreat
