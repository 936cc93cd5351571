/-
  Contracts of functions of the program and words for memory, several texts in one: Lock. Conditions: those stated with each.
-/
import Derived.Test.YtambkjnhfejfaacGreatDoorG04
namespace Go.Proofs.YtambkjnhfejfaacGreatDoor
open Go.RowKit

set_option maxHeartbeats 2000000 in
theorem validLock_any (key lp val : ByteArray) (ls : Int) (A : Option Addr) (l : List RecM) (n c : Nat) (w : World) (hn : n = l.length) (hl : RecsAt w w.heap.size A l) (h1 : lp.size ≤ maxLen) (h2 : val.size ≤ maxLen) :
    Calls Tryz.prog 83 #[.agg #[.string key, .int .i64 ls, .string lp, .string val, .slice A n c]] w fun e w' => e = .returned (.bool (lockB ls lp val l)) ∧ Below w.heap.size w w' := by
  have HL := Lib.hid hl
  have H1 := Lib.hid h1
  unfold maxLen at h2
  have HN := Lib.hid hn
  clear hl hn h1
  by_cases h0 : ls = 0
  · subst h0
    by_cases e1 : lp.toList.isEmpty = true
    · go_enter Tryz.func83, Tryz.ntmps83
      go_wp2_with (go_at_call 67; refine (locked_any _ _ _ _ _ _ _ _).mono ?_; rintro e w1 ⟨rfl, hb1⟩; obtain ⟨hc1, hf1⟩ := bcell hb1)
      go_ret
      exact ⟨ret_bool (by simp [lockB, e1]), by repeat (first | with_reducible exact Below.refl _ _ | assumption | with_reducible apply below_alloc | with_reducible apply below_drew | with_reducible apply below_drewN | (with_reducible apply below_next; rotate_left; assumption))⟩
    · have e1' : lp.toList.isEmpty = false := by simpa using e1
      clear e1
      go_enter Tryz.func83, Tryz.ntmps83
      go_wp2_with (go_at_call 67; refine (locked_any _ _ _ _ _ _ _ _).mono ?_; rintro e w1 ⟨rfl, hb1⟩; obtain ⟨hc1, hf1⟩ := bcell hb1)
      go_ret
      exact ⟨ret_bool (by simp [lockB, e1']), by repeat (first | with_reducible exact Below.refl _ _ | assumption | with_reducible apply below_alloc | with_reducible apply below_drew | with_reducible apply below_drewN | (with_reducible apply below_next; rotate_left; assumption))⟩
  · have h0' : (ls != 0) = true := by simpa using h0
    have H0 := Lib.hid h0
    clear h0
    by_cases t1 : inB ls 1 1099511627776 = true
    · by_cases t2 : keyB lp = true
      · by_cases t3 : val.size ≤ 20
        · go_enter Tryz.func83, Tryz.ntmps83
          go_wp2_with (first | (go_at_call 67; refine (locked_any _ _ _ _ _ _ _ _).mono ?_; rintro e w1 ⟨rfl, hb1⟩; obtain ⟨hc1, hf1⟩ := bcell hb1) | (go_at_call 85; refine (isTime_any _ _).mono ?_; rintro e w' ⟨rfl, rfl⟩) | (go_at_call 50; refine (key_any _ _ H1.out).mono ?_; rintro e w' ⟨rfl, rfl⟩))
          have hw1 : Below w.heap.size w w1 := by repeat (first | with_reducible exact Below.refl _ _ | assumption | with_reducible apply below_alloc | with_reducible apply below_drew | with_reducible apply below_drewN | (with_reducible apply below_next; rotate_left; assumption))
          refine (findLock_any l A n c (w.heap.size + 1) 0 ls w1 HN.out (HL.out.upto hw1) ?_).mono ?_
          · rw [hb1.cell (p := ⟨w.heap.size + 1, 0, none⟩) (by simp)]; simp
          · rintro e w2 ⟨rfl, hb2⟩
            go_wp2
            go_ret
            exact ⟨ret_bool (by simp [lockB, H0.out, t1, t2, t3]), below_next hw1 hb2⟩
        · go_enter Tryz.func83, Tryz.ntmps83
          go_wp2_with (first | (go_at_call 67; refine (locked_any _ _ _ _ _ _ _ _).mono ?_; rintro e w1 ⟨rfl, hb1⟩; obtain ⟨hc1, hf1⟩ := bcell hb1) | (go_at_call 85; refine (isTime_any _ _).mono ?_; rintro e w' ⟨rfl, rfl⟩) | (go_at_call 50; refine (key_any _ _ H1.out).mono ?_; rintro e w' ⟨rfl, rfl⟩))
          go_ret
          exact ⟨ret_bool (by simp [lockB, H0.out, t3]), by repeat (first | with_reducible exact Below.refl _ _ | assumption | with_reducible apply below_alloc | with_reducible apply below_drew | with_reducible apply below_drewN | (with_reducible apply below_next; rotate_left; assumption))⟩
      · have t2' : keyB lp = false := by simpa using t2
        clear t2
        go_enter Tryz.func83, Tryz.ntmps83
        go_wp2_with (first | (go_at_call 67; refine (locked_any _ _ _ _ _ _ _ _).mono ?_; rintro e w1 ⟨rfl, hb1⟩; obtain ⟨hc1, hf1⟩ := bcell hb1) | (go_at_call 85; refine (isTime_any _ _).mono ?_; rintro e w' ⟨rfl, rfl⟩) | (go_at_call 50; refine (key_any _ _ H1.out).mono ?_; rintro e w' ⟨rfl, rfl⟩))
        go_ret
        exact ⟨ret_bool (by simp [lockB, H0.out, t2']), by repeat (first | with_reducible exact Below.refl _ _ | assumption | with_reducible apply below_alloc | with_reducible apply below_drew | with_reducible apply below_drewN | (with_reducible apply below_next; rotate_left; assumption))⟩
    · have t1' : inB ls 1 1099511627776 = false := by simpa using t1
      clear t1
      go_enter Tryz.func83, Tryz.ntmps83
      go_wp2_with (first | (go_at_call 67; refine (locked_any _ _ _ _ _ _ _ _).mono ?_; rintro e w1 ⟨rfl, hb1⟩; obtain ⟨hc1, hf1⟩ := bcell hb1) | (go_at_call 85; refine (isTime_any _ _).mono ?_; rintro e w' ⟨rfl, rfl⟩) | (go_at_call 50; refine (key_any _ _ H1.out).mono ?_; rintro e w' ⟨rfl, rfl⟩))
      go_ret
      exact ⟨ret_bool (by simp [lockB, H0.out, t1']), by repeat (first | with_reducible exact Below.refl _ _ | assumption | with_reducible apply below_alloc | with_reducible apply below_drew | with_reducible apply below_drewN | (with_reducible apply below_next; rotate_left; assumption))⟩

set_option maxHeartbeats 2000000 in
theorem check_yes (key lp val : ByteArray) (ls : Int) (A : Option Addr) (l : List RecM) (n c : Nat) (w : World) (hn : n = l.length) (hl : RecsAt w w.heap.size A l) (h0 : key.size ≤ maxLen) (h1 : lp.size ≤ maxLen) (h2 : val.size ≤ maxLen)
    (t1 : keyB key = true) (t2 : decide (roomOf ls < (l.length : Int)) = false) (t3 : recsFrom 0 0 l = true) (t4 : lockB ls lp val l = true) :
    Calls Tryz.prog 56 #[.agg #[.string key, .int .i64 ls, .string lp, .string val, .slice A n c]] w fun e w' => e = .returned (.int .i64 0) ∧ Below w.heap.size w w' := by
  obtain ⟨W0, hW, k0, k1, k2, k3, k4, hbW, hsW⟩ := box_new w (.string key) (.int .i64 ls) (.string lp) (.string val) (.slice A l.length c) 45
  have HW := Lib.hid hW
  have HL0 := Lib.hid (hl.upto hbW)
  have HS := Lib.hid hsW
  have H0 := Lib.hid h0
  have H1 := Lib.hid h1
  have H2 := Lib.hid h2
  have hlen := hl.len
  subst hn
  clear hl h0 h1 h2 hW hsW
  go_enter Tryz.func56, Tryz.ntmps56
  go_wp2
  rw [← HW.out]
  go_region_held3 (fun w' => w'.cell? ⟨w.heap.size, 0, none⟩ = some (.string key) ∧ w'.cell? ⟨w.heap.size, 1, none⟩ = some (.int .i64 ls) ∧ w'.cell? ⟨w.heap.size, 2, none⟩ = some (.string lp) ∧ w'.cell? ⟨w.heap.size, 3, none⟩ = some (.string val) ∧ w'.cell? ⟨w.heap.size, 4, none⟩ = some (.slice A l.length c) ∧ Below W0.heap.size W0 w')
    (first | exact boxS k0 k1 k2 k3 k4 (below_drew (Below.refl _ _)) | (go_split_ands; refine boxS k0 k1 k2 k3 k4 ?_; apply below_next; rotate_left; assumption; assumption))
    (first
      | (go_at_call 50; refine (key_any _ _ H0.out).mono ?_; rintro e w' ⟨rfl, rfl⟩)
      | (go_at_call 81; refine (maxRecords_any _ _ _ _ _ _ _ _).mono ?_; rintro e w1 ⟨rfl, hb1⟩)
      | (go_at_call 82; go_split_ands; refine (validRecords_any l _ _ _ _ rfl (HL0.out.upto (by assumption))).mono ?_; rintro e w1 ⟨rfl, hb1⟩)
      | (go_at_call 83; go_split_ands; refine (validLock_any _ _ _ _ _ l _ _ _ rfl (HL0.out.upto (by assumption)) H1.out H2.out).mono ?_; rintro e w1 ⟨rfl, hb1⟩))
  all_goals
    go_split_ands
    go_wp2
    go_ret
    exact ⟨rfl, below_next hbW (by first | assumption | exact below_drew (Below.refl _ _))⟩
set_option maxHeartbeats 2000000 in
theorem check_no4 (key lp val : ByteArray) (ls : Int) (A : Option Addr) (l : List RecM) (n c : Nat) (w : World) (hn : n = l.length) (hl : RecsAt w w.heap.size A l) (h0 : key.size ≤ maxLen) (h1 : lp.size ≤ maxLen) (h2 : val.size ≤ maxLen)
    (t1 : keyB key = true) (t2 : decide (roomOf ls < (l.length : Int)) = false) (t3 : recsFrom 0 0 l = true) (t4 : lockB ls lp val l = false) :
    Calls Tryz.prog 56 #[.agg #[.string key, .int .i64 ls, .string lp, .string val, .slice A n c]] w fun e w' => e = .returned (.int .i64 6) ∧ Below w.heap.size w w' := by
  obtain ⟨W0, hW, k0, k1, k2, k3, k4, hbW, hsW⟩ := box_new w (.string key) (.int .i64 ls) (.string lp) (.string val) (.slice A l.length c) 45
  have HW := Lib.hid hW
  have HL0 := Lib.hid (hl.upto hbW)
  have HS := Lib.hid hsW
  have H0 := Lib.hid h0
  have H1 := Lib.hid h1
  have H2 := Lib.hid h2
  have hlen := hl.len
  subst hn
  clear hl h0 h1 h2 hW hsW
  go_enter Tryz.func56, Tryz.ntmps56
  go_wp2
  rw [← HW.out]
  go_region_held3 (fun w' => w'.cell? ⟨w.heap.size, 0, none⟩ = some (.string key) ∧ w'.cell? ⟨w.heap.size, 1, none⟩ = some (.int .i64 ls) ∧ w'.cell? ⟨w.heap.size, 2, none⟩ = some (.string lp) ∧ w'.cell? ⟨w.heap.size, 3, none⟩ = some (.string val) ∧ w'.cell? ⟨w.heap.size, 4, none⟩ = some (.slice A l.length c) ∧ Below W0.heap.size W0 w')
    (first | exact boxS k0 k1 k2 k3 k4 (below_drew (Below.refl _ _)) | (go_split_ands; refine boxS k0 k1 k2 k3 k4 ?_; apply below_next; rotate_left; assumption; assumption))
    (first
      | (go_at_call 50; refine (key_any _ _ H0.out).mono ?_; rintro e w' ⟨rfl, rfl⟩)
      | (go_at_call 81; refine (maxRecords_any _ _ _ _ _ _ _ _).mono ?_; rintro e w1 ⟨rfl, hb1⟩)
      | (go_at_call 82; go_split_ands; refine (validRecords_any l _ _ _ _ rfl (HL0.out.upto (by assumption))).mono ?_; rintro e w1 ⟨rfl, hb1⟩)
      | (go_at_call 83; go_split_ands; refine (validLock_any _ _ _ _ _ l _ _ _ rfl (HL0.out.upto (by assumption)) H1.out H2.out).mono ?_; rintro e w1 ⟨rfl, hb1⟩))
  all_goals
    go_split_ands
    go_wp2
    go_ret
    exact ⟨rfl, below_next hbW (by first | assumption | exact below_drew (Below.refl _ _))⟩
end Go.Proofs.YtambkjnhfejfaacGreatDoor
