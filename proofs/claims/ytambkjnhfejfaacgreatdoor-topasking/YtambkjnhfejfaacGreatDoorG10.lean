/-
  Contracts of functions of the program and words for memory, several texts in one: CheckNo. Conditions: those stated with each.
-/
import Derived.Test.YtambkjnhfejfaacGreatDoorG06
namespace Go.Proofs.YtambkjnhfejfaacGreatDoor
open Go.RowKit


set_option maxHeartbeats 2000000 in
theorem check_no3 (key lp val : ByteArray) (ls : Int) (A : Option Addr) (l : List RecM) (n c : Nat) (w : World) (hn : n = l.length) (hl : RecsAt w w.heap.size A l) (h0 : key.size ≤ maxLen) (h1 : lp.size ≤ maxLen) (h2 : val.size ≤ maxLen)
    (t1 : keyB key = true) (t2 : decide (roomOf ls < (l.length : Int)) = false) (t3 : recsFrom 0 0 l = false) :
    Calls Tryz.prog 56 #[.agg #[.string key, .int .i64 ls, .string lp, .string val, .slice A n c]] w fun e w' => e = .returned (.int .i64 6) ∧ Below w.heap.size w w' := by
  obtain ⟨W0, hW, k0, k1, k2, k3, k4, hbW, hsW⟩ := box_new w (.string key) (.int .i64 ls) (.string lp) (.string val) (.slice A l.length c) 45
  have HW := Lib.hid hW
  have HL0 := Lib.hid (hl.upto hbW)
  have HS := Lib.hid hsW
  have H0 := Lib.hid h0
  have H1 := Lib.hid h1
  have H2 := Lib.hid h2
  have hlen := hl.len
  subst hn
  clear hl h0 h1 h2 hW hsW
  go_enter Tryz.func56, Tryz.ntmps56
  go_wp2
  rw [← HW.out]
  have hg : w.heap.size < W0.heap.size := by rw [HS.out]; omega
  first
  | (go_region_with
    (first
      | (go_at_call 50; refine (key_any _ _ H0.out).mono ?_; rintro e w' ⟨rfl, rfl⟩)
      | (go_at_call 81; refine (maxRecords_any _ _ _ _ _ _ _ _).mono ?_; rintro e w1 ⟨rfl, hb1⟩; have hq1 := below_next (w := W0) (by first | assumption | exact below_drew (Below.refl _ _)) hb1; obtain ⟨hc1, hf1⟩ := bcell hq1)
      | (go_at_call 82; refine (validRecords_any l _ _ _ _ rfl (HL0.out.upto (by assumption))).mono ?_; rintro e w1 ⟨rfl, hb1⟩; have hq1 := below_next (w := W0) (by first | assumption | exact below_drew (Below.refl _ _)) hb1; obtain ⟨hc1, hf1⟩ := bcell hq1)
      | (go_at_call 83; refine (validLock_any _ _ _ _ _ l _ _ _ rfl (HL0.out.upto (by assumption)) H1.out H2.out).mono ?_; rintro e w1 ⟨rfl, hb1⟩; have hq1 := below_next (w := W0) (by first | assumption | exact below_drew (Below.refl _ _)) hb1; obtain ⟨hc1, hf1⟩ := bcell hq1)))
  | fail
  all_goals
    go_wp2
    go_ret
    exact ⟨rfl, below_next hbW (by first | assumption | exact below_drew (Below.refl _ _))⟩
set_option maxHeartbeats 2000000 in
theorem check_no2 (key lp val : ByteArray) (ls : Int) (A : Option Addr) (l : List RecM) (n c : Nat) (w : World) (hn : n = l.length) (hl : RecsAt w w.heap.size A l) (h0 : key.size ≤ maxLen) (h1 : lp.size ≤ maxLen) (h2 : val.size ≤ maxLen)
    (t1 : keyB key = true) (t2 : decide (roomOf ls < (l.length : Int)) = true) :
    Calls Tryz.prog 56 #[.agg #[.string key, .int .i64 ls, .string lp, .string val, .slice A n c]] w fun e w' => e = .returned (.int .i64 6) ∧ Below w.heap.size w w' := by
  obtain ⟨W0, hW, k0, k1, k2, k3, k4, hbW, hsW⟩ := box_new w (.string key) (.int .i64 ls) (.string lp) (.string val) (.slice A l.length c) 45
  have HW := Lib.hid hW
  have HL0 := Lib.hid (hl.upto hbW)
  have HS := Lib.hid hsW
  have H0 := Lib.hid h0
  have H1 := Lib.hid h1
  have H2 := Lib.hid h2
  have hlen := hl.len
  subst hn
  clear hl h0 h1 h2 hW hsW
  go_enter Tryz.func56, Tryz.ntmps56
  go_wp2
  rw [← HW.out]
  have hg : w.heap.size < W0.heap.size := by rw [HS.out]; omega
  first
  | (go_region_with
    (first
      | (go_at_call 50; refine (key_any _ _ H0.out).mono ?_; rintro e w' ⟨rfl, rfl⟩)
      | (go_at_call 81; refine (maxRecords_any _ _ _ _ _ _ _ _).mono ?_; rintro e w1 ⟨rfl, hb1⟩; have hq1 := below_next (w := W0) (by first | assumption | exact below_drew (Below.refl _ _)) hb1; obtain ⟨hc1, hf1⟩ := bcell hq1)
      | (go_at_call 82; refine (validRecords_any l _ _ _ _ rfl (HL0.out.upto (by assumption))).mono ?_; rintro e w1 ⟨rfl, hb1⟩; have hq1 := below_next (w := W0) (by first | assumption | exact below_drew (Below.refl _ _)) hb1; obtain ⟨hc1, hf1⟩ := bcell hq1)
      | (go_at_call 83; refine (validLock_any _ _ _ _ _ l _ _ _ rfl (HL0.out.upto (by assumption)) H1.out H2.out).mono ?_; rintro e w1 ⟨rfl, hb1⟩; have hq1 := below_next (w := W0) (by first | assumption | exact below_drew (Below.refl _ _)) hb1; obtain ⟨hc1, hf1⟩ := bcell hq1)))
  | fail
  all_goals
    go_wp2
    go_ret
    exact ⟨rfl, below_next hbW (by first | assumption | exact below_drew (Below.refl _ _))⟩
set_option maxHeartbeats 2000000 in
theorem check_no1 (key lp val : ByteArray) (ls : Int) (A : Option Addr) (l : List RecM) (n c : Nat) (w : World) (hn : n = l.length) (hl : RecsAt w w.heap.size A l) (h0 : key.size ≤ maxLen) (h1 : lp.size ≤ maxLen) (h2 : val.size ≤ maxLen)
    (t1 : keyB key = false) :
    Calls Tryz.prog 56 #[.agg #[.string key, .int .i64 ls, .string lp, .string val, .slice A n c]] w fun e w' => e = .returned (.int .i64 6) ∧ Below w.heap.size w w' := by
  obtain ⟨W0, hW, k0, k1, k2, k3, k4, hbW, hsW⟩ := box_new w (.string key) (.int .i64 ls) (.string lp) (.string val) (.slice A l.length c) 45
  have HW := Lib.hid hW
  have HL0 := Lib.hid (hl.upto hbW)
  have HS := Lib.hid hsW
  have H0 := Lib.hid h0
  have H1 := Lib.hid h1
  have H2 := Lib.hid h2
  have hlen := hl.len
  subst hn
  clear hl h0 h1 h2 hW hsW
  go_enter Tryz.func56, Tryz.ntmps56
  go_wp2
  rw [← HW.out]
  have hg : w.heap.size < W0.heap.size := by rw [HS.out]; omega
  go_quiet ((go_at_call 50; exact quiet_left (key_any _ _ H0.out)))
  go_wp2
  go_ret
  exact ⟨rfl, below_next hbW (below_drewN (Below.refl _ _) _)⟩
theorem check_ok (key lp val : ByteArray) (ls : Int) (A : Option Addr) (l : List RecM) (n c : Nat) (w : World) (hn : n = l.length) (hl : RecsAt w w.heap.size A l) (h0 : key.size ≤ maxLen) (h1 : lp.size ≤ maxLen) (h2 : val.size ≤ maxLen) (t : rowB key ls lp val l = true) :
    Calls Tryz.prog 56 #[.agg #[.string key, .int .i64 ls, .string lp, .string val, .slice A n c]] w fun e w' => e = .returned (.int .i64 0) ∧ Below w.heap.size w w' := by
  simp only [rowB, Bool.and_eq_true, decide_eq_true_eq] at t
  exact check_yes key lp val ls A l n c w hn hl h0 h1 h2 t.1.1.1 (by simpa using t.1.1.2) t.1.2 t.2
theorem check_bad (key lp val : ByteArray) (ls : Int) (A : Option Addr) (l : List RecM) (n c : Nat) (w : World) (hn : n = l.length) (hl : RecsAt w w.heap.size A l) (h0 : key.size ≤ maxLen) (h1 : lp.size ≤ maxLen) (h2 : val.size ≤ maxLen) (t : rowB key ls lp val l = false) :
    Calls Tryz.prog 56 #[.agg #[.string key, .int .i64 ls, .string lp, .string val, .slice A n c]] w fun e w' => e = .returned (.int .i64 6) ∧ Below w.heap.size w w' := by
  by_cases t1 : keyB key = true
  · by_cases t2 : (l.length : Int) ≤ roomOf ls
    · by_cases t3 : recsFrom 0 0 l = true
      · by_cases t4 : lockB ls lp val l = true
        · simp [rowB, t1, t2, t3, t4] at t
        · exact check_no4 key lp val ls A l n c w hn hl h0 h1 h2 t1 (by simpa using t2) t3 (by simpa using t4)
      · exact check_no3 key lp val ls A l n c w hn hl h0 h1 h2 t1 (by simpa using t2) (by simpa using t3)
    · exact check_no2 key lp val ls A l n c w hn hl h0 h1 h2 t1 (by simpa using t2)
  · exact check_no1 key lp val ls A l n c w hn hl h0 h1 h2 (by simpa using t1)
end Go.Proofs.YtambkjnhfejfaacGreatDoor
