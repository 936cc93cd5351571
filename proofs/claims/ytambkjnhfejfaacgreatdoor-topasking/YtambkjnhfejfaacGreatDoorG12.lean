/-
  Contracts of functions of the program and words for memory, several texts in one: LockFor, WithRec. Conditions: those stated with each.
-/
import Derived.Test.YtambkjnhfejfaacGreatDoorG00
import Derived.Test.YtambkjnhfejfaacGreatDoorG02
import Derived.Test.YtambkjnhfejfaacGreatDoorG11
import Derived.WalkSpells
namespace Go.Proofs.YtambkjnhfejfaacGreatDoor
open Go.RowKit

/-- A row and an error that go out. -/
def RowOut2 (key : ByteArray) (ls : Int) (lp val : ByteArray) (l : List RecM) (k : Int) (w : World) (e : Ending) (w' : World) : Prop :=
  ∃ A c, e = .returned (.tuple #[rowV key ls lp val A l.length c, .int .i64 k]) ∧ RecsAt w' w'.heap.size A l ∧ NewC w.heap.size A l.length c ∧ Below w.heap.size w w'

section
variable (key lp val : ByteArray) (ls : Int) (A : Option Addr) (n c : Nat) (l : List RecM) (st : Int) (pk pv : ByteArray) (w : World)

set_option maxHeartbeats 4000000 in
theorem lockError_any (hi : RowIn w key lp val A n l) (hp : pk.size ≤ maxLen) (hv : pv.size ≤ maxLen) :
    Calls Tryz.prog 88 #[rowV key ls lp val A n c, .int .i64 st, .string pk, .string pv] w fun e w' => e = .returned (.int .i64 (lockE key ls lp val l st pk pv)) ∧ Below w.heap.size w w' := by
  have HI := Lib.hid hi
  have HP := Lib.hid hp
  have hlen := hi.l.len
  have hn := hi.n
  subst hn
  unfold maxLen at hv
  clear hi hp
  by_cases t : rowB key ls lp val l = true
  · by_cases t2 : inB st 1 1099511627776 = true
    · have h1 : 1 ≤ st := (inB_true.1 t2).1
      by_cases t3 : keyB pk = true
      · by_cases t4 : pv.size ≤ 20
        · have d4 : decide (20 < (pv.size : Int)) = false := by simp; omega
          by_cases t5 : stOf ls st l = 3
          · have t5' : (stOf ls st l == 3) = true := by simpa using t5
            have H5 := Lib.hid t5
            clear t5
            (go_enter Tryz.func88, Tryz.ntmps88); go_wp2_with fail; refine (checkAt_ok key lp val _ A l.length c l st _ (HI.out.upto (by repeat (first | with_reducible exact Below.refl _ _ | assumption | with_reducible apply below_alloc | with_reducible apply below_drew | with_reducible apply below_drewN | (with_reducible apply below_next; rotate_left; assumption)))) t t2).mono ?_; rintro e w1 ⟨rfl, hb1⟩; obtain ⟨hc1, hf1⟩ := bcell hb1; have hsz1 : w.heap.size + 1 < w1.heap.size := (by have := hb1.size; simp at this; omega); have hsz0 : w.heap.size < w1.heap.size := (by omega)
            go_wp2_with (go_at_call 50; refine (key_any _ _ HP.out).mono ?_; rintro e w' ⟨rfl, rfl⟩)
            refine (statusOf_any key lp val ls A l.length c l st w1 (HI.out.upto (by repeat (first | with_reducible exact Below.refl _ _ | assumption | with_reducible apply below_alloc | with_reducible apply below_drew | with_reducible apply below_drewN | (with_reducible apply below_next; rotate_left; assumption)))) t h1).mono ?_
            rintro e w2 ⟨rfl, hb2⟩
            go_wp2
            go_ret
            exact ⟨ret_int (by simp [lockE, t, t2, t3, H5.out]; omega), by repeat (first | with_reducible exact Below.refl _ _ | assumption | with_reducible apply below_alloc | with_reducible apply below_drew | with_reducible apply below_drewN | (with_reducible apply below_next; rotate_left; assumption))⟩
          · have t5' : (stOf ls st l == 3) = false := by simpa using t5
            have H5 := Lib.hid t5
            clear t5
            obtain ⟨i, hix⟩ : ∃ i, i = lastIx (fun r => decide (st < r.c)) l := ⟨_, rfl⟩
            have HIX := Lib.hid hix
            by_cases t6 : 0 ≤ i
            · have HLT := Lib.hid (show lateB st l = true from decide_eq_true (hix ▸ t6))
              clear hix
              (go_enter Tryz.func88, Tryz.ntmps88); go_wp2_with fail; refine (checkAt_ok key lp val _ A l.length c l st _ (HI.out.upto (by repeat (first | with_reducible exact Below.refl _ _ | assumption | with_reducible apply below_alloc | with_reducible apply below_drew | with_reducible apply below_drewN | (with_reducible apply below_next; rotate_left; assumption)))) t t2).mono ?_; rintro e w1 ⟨rfl, hb1⟩; obtain ⟨hc1, hf1⟩ := bcell hb1; have hsz1 : w.heap.size + 1 < w1.heap.size := (by have := hb1.size; simp at this; omega); have hsz0 : w.heap.size < w1.heap.size := (by omega)
              go_wp2_with (go_at_call 50; refine (key_any _ _ HP.out).mono ?_; rintro e w' ⟨rfl, rfl⟩)
              refine (statusOf_any key lp val ls A l.length c l st w1 (HI.out.upto (by repeat (first | with_reducible exact Below.refl _ _ | assumption | with_reducible apply below_alloc | with_reducible apply below_drew | with_reducible apply below_drewN | (with_reducible apply below_next; rotate_left; assumption)))) t h1).mono ?_
              rintro e w2 ⟨rfl, hb2⟩
              (have e2 : w2.cell? ⟨w.heap.size + 1, 0, none⟩ = some (.int .i64 st) := by rw [hb2.cell (p := ⟨w.heap.size + 1, 0, none⟩) (by show w.heap.size + 1 < _; omega), hb1.cell (p := ⟨w.heap.size + 1, 0, none⟩) (by simp)]; simp); obtain ⟨hc2, hf2⟩ := bcell hb2
              go_wp2_with fail
              refine (findLate_any l A l.length c (w.heap.size + 1) 0 st w2 rfl (HI.out.l.upto (by repeat (first | with_reducible exact Below.refl _ _ | assumption | with_reducible apply below_alloc | with_reducible apply below_drew | with_reducible apply below_drewN | (with_reducible apply below_next; rotate_left; assumption)))) e2).mono ?_
              rw [← HIX.out]
              rintro e w3 ⟨rfl, hb3⟩
              go_wp2
              go_ret
              exact ⟨ret_int (by simp [lockE, t, t2, t3, H5.out, HLT.out]; omega), by repeat (first | with_reducible exact Below.refl _ _ | assumption | with_reducible apply below_alloc | with_reducible apply below_drew | with_reducible apply below_drewN | (with_reducible apply below_next; rotate_left; assumption))⟩
            · have HLT := Lib.hid (show lateB st l = false from decide_eq_false (hix ▸ t6))
              clear hix
              by_cases t7 : ls = 0
              · subst t7
                by_cases t8 : l.length < 100
                all_goals
                  (go_enter Tryz.func88, Tryz.ntmps88); go_wp2_with fail; refine (checkAt_ok key lp val _ A l.length c l st _ (HI.out.upto (by repeat (first | with_reducible exact Below.refl _ _ | assumption | with_reducible apply below_alloc | with_reducible apply below_drew | with_reducible apply below_drewN | (with_reducible apply below_next; rotate_left; assumption)))) t t2).mono ?_; rintro e w1 ⟨rfl, hb1⟩; obtain ⟨hc1, hf1⟩ := bcell hb1; have hsz1 : w.heap.size + 1 < w1.heap.size := (by have := hb1.size; simp at this; omega); have hsz0 : w.heap.size < w1.heap.size := (by omega)
                  go_wp2_with (go_at_call 50; refine (key_any _ _ HP.out).mono ?_; rintro e w' ⟨rfl, rfl⟩)
                  refine (statusOf_any key lp val 0 A l.length c l st w1 (HI.out.upto (by repeat (first | with_reducible exact Below.refl _ _ | assumption | with_reducible apply below_alloc | with_reducible apply below_drew | with_reducible apply below_drewN | (with_reducible apply below_next; rotate_left; assumption)))) t h1).mono ?_
                  rintro e w2 ⟨rfl, hb2⟩
                  (have e2 : w2.cell? ⟨w.heap.size + 1, 0, none⟩ = some (.int .i64 st) := by rw [hb2.cell (p := ⟨w.heap.size + 1, 0, none⟩) (by show w.heap.size + 1 < _; omega), hb1.cell (p := ⟨w.heap.size + 1, 0, none⟩) (by simp)]; simp); obtain ⟨hc2, hf2⟩ := bcell hb2
                  go_wp2_with fail
                  refine (findLate_any l A l.length c (w.heap.size + 1) 0 st w2 rfl (HI.out.l.upto (by repeat (first | with_reducible exact Below.refl _ _ | assumption | with_reducible apply below_alloc | with_reducible apply below_drew | with_reducible apply below_drewN | (with_reducible apply below_next; rotate_left; assumption)))) e2).mono ?_
                  rw [← HIX.out]
                  rintro e w3 ⟨rfl, hb3⟩
                  obtain ⟨hc3, hf3⟩ := bcell hb3
                  have hs3 : w.heap.size < w2.heap.size := by have := hb2.size; omega
                  have hs4 : w.heap.size < w3.heap.size := by have := hb3.size; omega
                  go_wp2_with (go_at_call 67; refine (locked_any _ _ _ _ _ _ _ _).mono ?_; rintro e w4 ⟨rfl, hb4⟩; obtain ⟨hc4, hf4⟩ := bcell hb4)
                  go_ret
                  exact ⟨ret_int (by simp [lockE, t, t2, t3, H5.out, HLT.out]; omega), by repeat (first | with_reducible exact Below.refl _ _ | assumption | with_reducible apply below_alloc | with_reducible apply below_drew | with_reducible apply below_drewN | (with_reducible apply below_next; rotate_left; assumption))⟩
              · have t7' : (ls != 0) = true := by simpa using t7
                have H7 := Lib.hid t7
                clear t7
                (go_enter Tryz.func88, Tryz.ntmps88); go_wp2_with fail; refine (checkAt_ok key lp val _ A l.length c l st _ (HI.out.upto (by repeat (first | with_reducible exact Below.refl _ _ | assumption | with_reducible apply below_alloc | with_reducible apply below_drew | with_reducible apply below_drewN | (with_reducible apply below_next; rotate_left; assumption)))) t t2).mono ?_; rintro e w1 ⟨rfl, hb1⟩; obtain ⟨hc1, hf1⟩ := bcell hb1; have hsz1 : w.heap.size + 1 < w1.heap.size := (by have := hb1.size; simp at this; omega); have hsz0 : w.heap.size < w1.heap.size := (by omega)
                go_wp2_with (go_at_call 50; refine (key_any _ _ HP.out).mono ?_; rintro e w' ⟨rfl, rfl⟩)
                refine (statusOf_any key lp val ls A l.length c l st w1 (HI.out.upto (by repeat (first | with_reducible exact Below.refl _ _ | assumption | with_reducible apply below_alloc | with_reducible apply below_drew | with_reducible apply below_drewN | (with_reducible apply below_next; rotate_left; assumption)))) t h1).mono ?_
                rintro e w2 ⟨rfl, hb2⟩
                (have e2 : w2.cell? ⟨w.heap.size + 1, 0, none⟩ = some (.int .i64 st) := by rw [hb2.cell (p := ⟨w.heap.size + 1, 0, none⟩) (by show w.heap.size + 1 < _; omega), hb1.cell (p := ⟨w.heap.size + 1, 0, none⟩) (by simp)]; simp); obtain ⟨hc2, hf2⟩ := bcell hb2
                go_wp2_with fail
                refine (findLate_any l A l.length c (w.heap.size + 1) 0 st w2 rfl (HI.out.l.upto (by repeat (first | with_reducible exact Below.refl _ _ | assumption | with_reducible apply below_alloc | with_reducible apply below_drew | with_reducible apply below_drewN | (with_reducible apply below_next; rotate_left; assumption)))) e2).mono ?_
                rw [← HIX.out]
                rintro e w3 ⟨rfl, hb3⟩
                obtain ⟨hc3, hf3⟩ := bcell hb3
                have hs3 : w.heap.size < w2.heap.size := by have := hb2.size; omega
                go_wp2_with (go_at_call 67; refine (locked_any _ _ _ _ _ _ _ _).mono ?_; rintro e w4 ⟨rfl, hb4⟩; obtain ⟨hc4, hf4⟩ := bcell hb4)
                go_ret
                exact ⟨ret_int (by simp [lockE, t, t2, t3, H5.out, HLT.out, H7.out]; omega), by repeat (first | with_reducible exact Below.refl _ _ | assumption | with_reducible apply below_alloc | with_reducible apply below_drew | with_reducible apply below_drewN | (with_reducible apply below_next; rotate_left; assumption))⟩
        · have d4 : decide (20 < (pv.size : Int)) = true := by simp; omega
          (go_enter Tryz.func88, Tryz.ntmps88); go_wp2_with fail; refine (checkAt_ok key lp val _ A l.length c l st _ (HI.out.upto (by repeat (first | with_reducible exact Below.refl _ _ | assumption | with_reducible apply below_alloc | with_reducible apply below_drew | with_reducible apply below_drewN | (with_reducible apply below_next; rotate_left; assumption)))) t t2).mono ?_; rintro e w1 ⟨rfl, hb1⟩; obtain ⟨hc1, hf1⟩ := bcell hb1; have hsz1 : w.heap.size + 1 < w1.heap.size := (by have := hb1.size; simp at this; omega); have hsz0 : w.heap.size < w1.heap.size := (by omega)
          go_wp2_with (go_at_call 50; refine (key_any _ _ HP.out).mono ?_; rintro e w' ⟨rfl, rfl⟩)
          go_ret
          exact ⟨ret_int (by simp [lockE, t, t2, t3]; omega), by repeat (first | with_reducible exact Below.refl _ _ | assumption | with_reducible apply below_alloc | with_reducible apply below_drew | with_reducible apply below_drewN | (with_reducible apply below_next; rotate_left; assumption))⟩
      · have t3' : keyB pk = false := by simpa using t3
        clear t3
        (go_enter Tryz.func88, Tryz.ntmps88); go_wp2_with fail; refine (checkAt_ok key lp val _ A l.length c l st _ (HI.out.upto (by repeat (first | with_reducible exact Below.refl _ _ | assumption | with_reducible apply below_alloc | with_reducible apply below_drew | with_reducible apply below_drewN | (with_reducible apply below_next; rotate_left; assumption)))) t t2).mono ?_; rintro e w1 ⟨rfl, hb1⟩; obtain ⟨hc1, hf1⟩ := bcell hb1; have hsz1 : w.heap.size + 1 < w1.heap.size := (by have := hb1.size; simp at this; omega); have hsz0 : w.heap.size < w1.heap.size := (by omega)
        go_wp2_with (go_at_call 50; refine (key_any _ _ HP.out).mono ?_; rintro e w' ⟨rfl, rfl⟩)
        go_ret
        exact ⟨ret_int (by simp [lockE, t, t2, t3']), by repeat (first | with_reducible exact Below.refl _ _ | assumption | with_reducible apply below_alloc | with_reducible apply below_drew | with_reducible apply below_drewN | (with_reducible apply below_next; rotate_left; assumption))⟩
    · have t2' : inB st 1 1099511627776 = false := by simpa using t2
      clear t2
      go_enter Tryz.func88, Tryz.ntmps88
      go_wp2_with fail
      refine (checkAt_range key lp val ls A l.length c l st _ (HI.out.upto (by repeat (first | with_reducible exact Below.refl _ _ | assumption | with_reducible apply below_alloc | with_reducible apply below_drew | with_reducible apply below_drewN | (with_reducible apply below_next; rotate_left; assumption)))) t t2').mono ?_
      rintro e w1 ⟨rfl, hb1⟩
      go_wp2
      go_ret
      exact ⟨ret_int (by simp [lockE, t, t2']), by repeat (first | with_reducible exact Below.refl _ _ | assumption | with_reducible apply below_alloc | with_reducible apply below_drew | with_reducible apply below_drewN | (with_reducible apply below_next; rotate_left; assumption))⟩
  · have t' : rowB key ls lp val l = false := by simpa using t
    clear t
    go_enter Tryz.func88, Tryz.ntmps88
    go_wp2_with fail
    refine (checkAt_state key lp val ls A l.length c l st _ (HI.out.upto (by repeat (first | with_reducible exact Below.refl _ _ | assumption | with_reducible apply below_alloc | with_reducible apply below_drew | with_reducible apply below_drewN | (with_reducible apply below_next; rotate_left; assumption)))) t').mono ?_
    rintro e w1 ⟨rfl, hb1⟩
    go_wp2
    go_ret
    exact ⟨ret_int (by simp [lockE, t']), by repeat (first | with_reducible exact Below.refl _ _ | assumption | with_reducible apply below_alloc | with_reducible apply below_drew | with_reducible apply below_drewN | (with_reducible apply below_next; rotate_left; assumption))⟩

/-- Two boxes: the row, and a zero row for the result. -/
theorem box2_new (w : World) (v0 v1 v2 v3 v4 : Value) : ∃ W0, W0 = (w.alloc (.cells #[v0, v1, v2, v3, v4] 45)).alloc (.cells #[.string ⟨#[]⟩, .int .i64 0, .string ⟨#[]⟩, .string ⟨#[]⟩, .slice none 0 0] 45) ∧ W0.cell? ⟨w.heap.size, 0, none⟩ = some v0 ∧ W0.cell? ⟨w.heap.size, 1, none⟩ = some v1 ∧ W0.cell? ⟨w.heap.size, 2, none⟩ = some v2 ∧
    W0.cell? ⟨w.heap.size, 3, none⟩ = some v3 ∧ W0.cell? ⟨w.heap.size, 4, none⟩ = some v4 ∧ ZeroRow W0 (w.heap.size + 1) ∧ Below w.heap.size w W0 ∧ W0.heap.size = w.heap.size + 2 :=
  ⟨_, rfl, by simp, by simp, by simp, by simp, by simp, ⟨by
    have h := heap_alloc_new (w.alloc (.cells #[v0, v1, v2, v3, v4] 45)) (.cells #[.string ⟨#[]⟩, .int .i64 0, .string ⟨#[]⟩, .string ⟨#[]⟩, .slice none 0 0] 45)
    simpa using h⟩, below_alloc (below_alloc (Below.refl _ _) _) _, by simp⟩

set_option maxHeartbeats 2000000 in
theorem lockFor_err (hi : RowIn w key lp val A n l) (hp : pk.size ≤ maxLen) (hv : pv.size ≤ maxLen) (h : lockE key ls lp val l st pk pv ≠ 0) :
    Calls Tryz.prog 74 #[rowV key ls lp val A n c, .int .i64 st, .string pk, .string pv] w (RowOut2 ⟨#[]⟩ 0 ⟨#[]⟩ ⟨#[]⟩ [] (lockE key ls lp val l st pk pv) w) := by
  obtain ⟨W0, hW, k0, k1, k2, k3, k4, hz, hbW, hsW⟩ := box2_new w (.string key) (.int .i64 ls) (.string lp) (.string val) (.slice A n c)
  have HW := Lib.hid hW
  have HI := Lib.hid (hi.upto hbW)
  have HP := Lib.hid hp
  have HV := Lib.hid hv
  have HZ := Lib.hid hz
  have hne : (lockE key ls lp val l st pk pv != 0) = true := by simpa using h
  have hsz : w.heap.size + 1 < W0.heap.size := by omega
  clear hW hi hp hv hz h hsW
  go_enter Tryz.func74, Tryz.ntmps74
  go_wp2_with fail
  rw [← HW.out]
  refine (lockError_any key lp val ls A n c l st pk pv W0 HI.out HP.out HV.out).mono ?_
  rintro e w1 ⟨rfl, hb1⟩
  obtain ⟨z0, z1, z2, z3, z4, u0, u1, u2, u3, u4⟩ := zero_facts (HZ.out.keep (hb1.block _ hsz))
  go_wp2
  refine bodyPost_ret (v := .tuple #[rowV ⟨#[]⟩ 0 ⟨#[]⟩ ⟨#[]⟩ none 0 0, .int .i64 (lockE key ls lp val l st pk pv)]) (by simp [results, Tryz.results74, go_sem, z0, z1, z2, z3, z4]) rfl ⟨none, 0, rfl, RecsAt.nil_ _ _ _, ⟨newAt_none _, Nat.le_refl _⟩, ?_⟩
  have hbw : Below w.heap.size w w1 := below_next hbW hb1
  repeat (refine below_set ?_ (by simp) _)
  exact hbw

set_option maxHeartbeats 2000000 in
theorem lockFor_ok (hi : RowIn w key lp val A n l) (hp : pk.size ≤ maxLen) (hv : pv.size ≤ maxLen) (h : lockE key ls lp val l st pk pv = 0) :
    Calls Tryz.prog 74 #[rowV key ls lp val A n c, .int .i64 st, .string pk, .string pv] w (RowOut2 key st pk pv l 0 w) := by
  obtain ⟨W0, hW, k0, k1, k2, k3, k4, hz, hbW, hsW⟩ := box2_new w (.string key) (.int .i64 ls) (.string lp) (.string val) (.slice A n c)
  have HW := Lib.hid hW
  have HI := Lib.hid (hi.upto hbW)
  have HP := Lib.hid hp
  have HV := Lib.hid hv
  have HZ := Lib.hid hz
  have hsz : w.heap.size + 1 < W0.heap.size := by omega
  have HE := Lib.hid h
  clear hW hi hp hv hz h hsW
  go_enter Tryz.func74, Tryz.ntmps74
  go_wp2_with fail
  rw [← HW.out]
  refine (lockError_any key lp val ls A n c l st pk pv W0 HI.out HP.out HV.out).mono ?_
  rw [HE.out]
  rintro e w1 ⟨rfl, hb1⟩
  obtain ⟨g0, g1, g2, g3, g4, _⟩ := boxS k0 k1 k2 k3 k4 hb1
  go_wp2_with fail
  refine (copy_any key lp val ls A n c l w1 HI.out.n (HI.out.l.upto hb1)).mono ?_
  rintro e w2 ⟨A2, c2, rfl, hr2, hnew, hb2⟩
  have HN := Lib.hid hnew
  have hs1 : w.heap.size + 1 < w1.heap.size := by have := hb1.size; omega
  clear hnew
  have HR := Lib.hid hr2
  have hb12 : Below W0.heap.size W0 w2 := below_next hb1 hb2
  have hs2 : w.heap.size + 1 < w2.heap.size := by have := hb12.size; omega
  obtain ⟨z0, z1, z2, z3, z4, u0, u1, u2, u3, u4⟩ := zero_facts (HZ.out.keep (hb12.block _ hsz))
  clear hr2
  go_wp2
  refine bodyPost_ret (v := .tuple #[rowV key st pk pv A2 l.length c2, .int .i64 0]) (by simp [results, Tryz.results74, go_sem, z0, z1, z2, z3, z4, hs2]) rfl ⟨A2, c2, rfl, ?_, ⟨fun ad h => by have := HN.out.1 ad h; omega, HN.out.2⟩, ?_⟩
  · refine (RecsAt.alloc ?_ (Nat.le_refl _) _).more (by simp)
    have e : ∀ (W : World) (p : Addr) (u : Value), (W.setCell p u).heap.size = W.heap.size := fun W p u => by simp [World.setCell]
    rw [e, e, e, e, e]
    repeat (refine RecsAt.setLow ?_ HN.out.1 hs1 _)
    exact HR.out
  · have hbw : Below w.heap.size w w2 := below_next hbW hb12
    refine below_alloc ?_ _
    repeat (refine below_set ?_ (by simp) _)
    exact hbw
end
end Go.Proofs.YtambkjnhfejfaacGreatDoor

namespace Go.Proofs.YtambkjnhfejfaacGreatDoor
open Go.RowKit

set_option maxHeartbeats 2000000 in
theorem withoutLock_any (key lp val : ByteArray) (ls : Int) (A : Option Addr) (n c : Nat) (w : World) :
    Calls Tryz.prog 91 #[rowV key ls lp val A n c] w fun e w' => e = .returned (rowV key 0 ⟨#[]⟩ ⟨#[]⟩ A n c) ∧ Below w.heap.size w w' := by
  go_enter Tryz.func91, Tryz.ntmps91
  go_wp2
  exact bodyPost_ret (v := rowV key 0 ⟨#[]⟩ ⟨#[]⟩ A n c) (by simp [results, Tryz.results91, go_sem]) rfl ⟨rfl, by repeat (first | with_reducible exact Below.refl _ _ | assumption | with_reducible apply below_alloc | with_reducible apply below_drew | with_reducible apply below_drewN | (with_reducible apply below_next; rotate_left; assumption))⟩

/-- make([]Record, 0, n + 1). -/
theorem make_room (n : Nat) (hn : n ≤ 100) : ∃ Z : Array Value, Z.size = (n + 1) * 3 ∧ ∀ W : World, (Instr.makeSlice 43 (.int .i64 0) (.int .i64 ((n : Int) + 1))).run Tryz.prog W =
    .ok (.slice (some ⟨W.heap.size, 0, none⟩) 0 (n + 1)) (W.alloc (.cells Z 47)) := by
  obtain ⟨i0, hi0, hz0, hz1, hz2⟩ := info_parts rec_info
  refine ⟨madeCells (Value.agg #[.int .i64 0, .int .i64 0, .string ⟨#[]⟩]).cells ((n + 1) * 3), by rw [size_madeCells], fun W => ?_⟩
  have h := run_make (P := Tryz.prog) W 43 47 i0 _ Tryz.underlying43 hi0 hz0 .i64 .i64 0 ((n : Int) + 1) (by omega) (by omega) (by rw [hz2]; omega) (by omega)
  have e : ((n : Int) + 1).toNat = n + 1 := by omega
  rw [e, hz1] at h
  exact h
theorem owns_made (W : World) (n : Nat) (Z : Array Value) (hn : n ≤ 100) (hZ : Z.size = (n + 1) * 3) : OwnsRecs (W.alloc (.cells Z 47)) W.heap.size (.slice (some ⟨W.heap.size, 0, none⟩) 0 (n + 1)) [] :=
  World.ownsRow_made W Z (n + 1) (Nat.le_refl _) (by simp only [maxLen]; omega) hZ

/-- A slice cut off behind its first k records. -/
theorem cut_front {w : World} {B : Nat} {A : Option Addr} {l : List RecM} (h : RecsAt w B A l) (k : Nat) (hk : k ≤ l.length) : k = (l.take k).length ∧ RecsAt w B A (l.take k) := ⟨by simp; omega, h.take k⟩
/-- A slice from its record k on. -/
theorem cut_back {w : World} {B n c : Nat} {A : Option Addr} {l : List RecM} (h : RecsAt w B A l) (k : Nat) (hk : k ≤ l.length) (hn : n = l.length) (hc : n ≤ c) : n - k = (l.drop k).length ∧ RecsAt w B (if c = k then A else A.map (·.add (k * 3))) (l.drop k) := by
  refine ⟨by simp; omega, by have := h.1; simp; omega, fun r hr => h.2.1 r (List.mem_of_mem_drop hr), fun h0 => ?_⟩
  have h1 : k < l.length := by simp at h0; omega
  obtain ⟨b, o, rfl, hb, hcl⟩ := h.2.2 (by omega)
  rw [if_neg (by omega)]
  refine ⟨b, o + k * 3, ?_, hb, fun i r hr => ?_⟩
  · show some ((⟨b, o, none⟩ : Addr).add (k * 3)) = _
    unfold Addr.add
    split
    · rename_i h; rw [h]; rfl
    · rfl
  · rw [List.getElem?_drop] at hr
    have := hcl _ _ hr
    rw [show o + k * 3 + i * 3 = o + (k + i) * 3 by omega]
    exact this

theorem wr_facts {w : World} {a b d : Nat} {v0 v1 v2 v3 v4 x0 x1 x2 : Value} (h0 : w.heap[a]? = some (.cells #[v0, v1, v2, v3, v4] 45 (0, 0))) (h1 : w.heap[b]? = some (.cells #[x0, x1, x2] 47 (0, 0))) (h2 : ZeroRow w d) :
    w.cell? ⟨a, 0, none⟩ = some v0 ∧ w.cell? ⟨a, 1, none⟩ = some v1 ∧ w.cell? ⟨a, 2, none⟩ = some v2 ∧ w.cell? ⟨a, 3, none⟩ = some v3 ∧ w.cell? ⟨a, 4, none⟩ = some v4 ∧ w.frozen? ⟨a, 4, none⟩ = false ∧
    w.cell? ⟨b, 0, none⟩ = some x0 ∧ w.cell? ⟨b, 1, none⟩ = some x1 ∧ w.cell? ⟨b, 2, none⟩ = some x2 ∧
    w.cell? ⟨d, 0, none⟩ = some (.string ⟨#[]⟩) ∧ w.cell? ⟨d, 1, none⟩ = some (.int .i64 0) ∧ w.cell? ⟨d, 2, none⟩ = some (.string ⟨#[]⟩) ∧ w.cell? ⟨d, 3, none⟩ = some (.string ⟨#[]⟩) ∧ w.cell? ⟨d, 4, none⟩ = some (.slice none 0 0) ∧
    w.frozen? ⟨d, 0, none⟩ = false ∧ w.frozen? ⟨d, 1, none⟩ = false ∧ w.frozen? ⟨d, 2, none⟩ = false ∧ w.frozen? ⟨d, 3, none⟩ = false ∧ w.frozen? ⟨d, 4, none⟩ = false :=
  ⟨by rw [Joins.cell_of_block h0]; rfl, by rw [Joins.cell_of_block h0]; rfl, by rw [Joins.cell_of_block h0]; rfl, by rw [Joins.cell_of_block h0]; rfl, by rw [Joins.cell_of_block h0]; rfl, Joins.unfrozen_of_block h0 _,
    by rw [Joins.cell_of_block h1]; rfl, by rw [Joins.cell_of_block h1]; rfl, by rw [Joins.cell_of_block h1]; rfl, zero_facts h2⟩

/-- One record in a new block. -/
theorem one_rec (w : World) (r : RecM) (hr : RecOk r) : RecsAt (w.alloc (.cells #[.int .i64 r.s, .int .i64 r.c, .string r.v] 47)) (w.heap.size + 1) (some ⟨w.heap.size, 0, none⟩) [r] :=
  recsAt_block (by simp) (by simpa using hr) (Nat.lt_succ_self _) (heap_alloc_new w _) (fun j v h => by simpa [recsC, recC] using h)

set_option maxHeartbeats 4000000 in
theorem withRecord_any (key lp val : ByteArray) (ls : Int) (A : Option Addr) (n c : Nat) (l : List RecM) (r : RecM) (w : World) (hn : n = l.length) (hc : n ≤ c) (h100 : n ≤ 100) (hl : RecsAt w w.heap.size A l) (hr : RecOk r) :
    Calls Tryz.prog 90 #[rowV key ls lp val A n c, recV r] w (RowOut key ls lp val (insRec l r) w) := by
  subst hn
  obtain ⟨rs, rc, rv⟩ := r
  obtain ⟨Z, hZ, hmk⟩ := make_room l.length h100
  have hpl := placeOf_le rs l
  have hpe := placeOf_eq rs l
  obtain ⟨i, hix⟩ : ∃ i, i = lastIx (fun x => decide (x.s < rs)) l := ⟨_, rfl⟩
  have HIX := Lib.hid hix
  obtain ⟨p, hp⟩ : ∃ p, p = placeOf rs l := ⟨_, rfl⟩
  have HPL := Lib.hid hp
  rw [← hp] at hpl hpe
  rw [← hix] at hpe
  have hi' : i = (p : Int) - 1 := by omega
  have HI' := Lib.hid hi'
  clear hix hp hpe hi'
  have HL := Lib.hid hl
  have HR := Lib.hid hr
  clear hl hr
  obtain ⟨W3, hW3⟩ : ∃ W3, W3 = ((w.alloc (.cells #[.string key, .int .i64 ls, .string lp, .string val, .slice A l.length c] 45)).alloc (.cells #[.int .i64 rs, .int .i64 rc, .string rv] 47)).alloc (.cells #[.string ⟨#[]⟩, .int .i64 0, .string ⟨#[]⟩, .string ⟨#[]⟩, .slice none 0 0] 45) := ⟨_, rfl⟩
  have hb3 : Below w.heap.size w W3 := by rw [hW3]; repeat (first | with_reducible exact Below.refl _ _ | assumption | with_reducible apply below_alloc | with_reducible apply below_drew | with_reducible apply below_drewN | (with_reducible apply below_next; rotate_left; assumption))
  have hs3 : W3.heap.size = w.heap.size + 3 := by rw [hW3]; simp
  obtain ⟨hB0, hB1, hB2⟩ := three_blocks w (.cells #[.string key, .int .i64 ls, .string lp, .string val, .slice A l.length c] 45) (.cells #[.int .i64 rs, .int .i64 rc, .string rv] 47) (.cells #[.string ⟨#[]⟩, .int .i64 0, .string ⟨#[]⟩, .string ⟨#[]⟩, .slice none 0 0] 45)
  rw [← hW3] at hB0 hB1 hB2
  have k1 : W3.cell? ⟨w.heap.size + 1, 0, none⟩ = some (.int .i64 rs) := by rw [Joins.cell_of_block hB1]; rfl
  have H3 := Lib.hid hW3
  have HB3 := Lib.hid hb3
  have HB0 := Lib.hid hB0
  have HB1 := Lib.hid hB1
  have HB2 := Lib.hid hB2
  clear hW3 hb3 hB0 hB1 hB2
  go_enter Tryz.func90, Tryz.ntmps90
  go_wp2_with fail
  rw [← H3.out]
  refine (findPlace_any l A l.length c (w.heap.size + 1) 0 rs W3 rfl (HL.out.upto HB3.out) k1).mono ?_
  rw [← HIX.out, HI'.out]
  rintro e w1 ⟨rfl, hb1⟩
  have hs1 : w.heap.size + 2 < w1.heap.size := by have := hb1.size; omega
  have HD0 := Lib.hid ((hb1.block w.heap.size (by omega)).trans HB0.out)
  have HD1 := Lib.hid ((hb1.block (w.heap.size + 1) (by omega)).trans HB1.out)
  have HD2 := Lib.hid (ZeroRow.mk ((hb1.block (w.heap.size + 2) (by omega)).trans HB2.out))
  have HBW := Lib.hid (below_next HB3.out hb1)
  have HL1 := Lib.hid (HL.out.upto HBW.out)
  have HOW := Lib.hid (owns_made w1 l.length Z h100 hZ)
  obtain ⟨a0, a1, a2, a3, a4, a5, b0, b1, b2, z0, z1, z2, z3, z4, u0, u1, u2, u3, u4⟩ := wr_facts HD0.out HD1.out HD2.out
  clear hb1 k1
  have hpc : p ≤ c := by omega
  have hs1a : w.heap.size < w1.heap.size := by omega
  have hs1b : w.heap.size + 1 < w1.heap.size := by omega
  have HINS := Lib.hid (show insRec l ⟨rs, rc, rv⟩ = l.take p ++ [⟨rs, rc, rv⟩] ++ l.drop p by unfold insRec; rw [← HPL.out])
  have HLEN := Lib.hid (show (l.take p ++ [(⟨rs, rc, rv⟩ : RecM)] ++ l.drop p).length = l.length + 1 by simp; omega)
  have HOK := Lib.hid (show ∀ r ∈ l.take p ++ [(⟨rs, rc, rv⟩ : RecM)] ++ l.drop p, RecOk r from fun r hr => by
    simp only [List.mem_append, List.mem_singleton] at hr
    rcases hr with (hr | rfl) | hr
    · exact HL1.out.ok (List.mem_of_mem_take hr)
    · exact HR.out
    · exact HL1.out.ok (List.mem_of_mem_drop hr))
  have hcut := cut_back HL1.out p hpl rfl hc
  by_cases hcp : c = p
  · have HBK := Lib.hid (show RecsAt w1 w1.heap.size A (l.drop p) by have := hcut.2; rwa [if_pos hcp] at this)
    clear hcut
    have hcp' := hcp.symm
    subst hcp'
    go_wp2_with (first
      | (at_builtin; refine wpList_append_run _ rfl (.tmp 17) (.tmp 21) 43 rfl _ _ rfl rfl (app_shape _ w1 _ w1.heap.size w1.heap.size p _ _ [] A (l.take p) HOW.out (cut_front HL1.out p hpl).1 ((cut_front HL1.out p hpl).2.alloc (Nat.le_refl _) _) (by simp; omega) (by simp) (by simp) ((Below.refl _ _).alloc (Nat.le_refl _) _)) ?_
         rintro v1 w2 ⟨A2, c2, hv1, hown2, hb2, hsz2⟩
         have e2 : ([] ++ l.take p).length = p := by simp; omega
         rw [e2] at hv1 hown2
         subst hv1
         have HO2 : Hid (OwnsRecs w2 w1.heap.size (.slice A2 p c2) (l.take p)) := hown2
         have hs2 : w1.heap.size < w2.heap.size := by simp at hsz2; omega
         have HB2' := Lib.hid hb2
         obtain ⟨a0, a1, a2, a3, a4, a5, b0, b1, b2, z0, z1, z2, z3, z4, u0, u1, u2, u3, u4⟩ := wr_facts ((hb2.block _ hs1a).trans HD0.out) ((hb2.block _ hs1b).trans HD1.out) (HD2.out.keep (hb2.block _ hs1))
         clear hown2 hb2 hsz2 e2)
      | (at_builtin; refine wpList_append_run _ rfl (.tmp 23) (.tmp 25) 43 rfl _ _ rfl rfl (app_shape _ w1 _ w1.heap.size (w2.heap.size + 1) 1 1 _ (l.take p) (some ⟨w2.heap.size, 0, none⟩) [⟨rs, rc, rv⟩] (HO2.out.kept (below_alloc (Below.refl _ _) _)) rfl (one_rec w2 ⟨rs, rc, rv⟩ HR.out) (by simp; omega) (fun r hr => HL1.out.ok (List.mem_of_mem_take hr)) (by simp; omega) (HB2'.out.alloc (by omega) _)) ?_
         rintro v2 w3 ⟨A3, c3, hv2, hown3, hb3, hsz3⟩
         have e3 : (l.take p ++ [(⟨rs, rc, rv⟩ : RecM)]).length = p + 1 := by simp; omega
         rw [e3] at hv2 hown3
         subst hv2
         have HO3 : Hid (OwnsRecs w3 w1.heap.size (.slice A3 (p + 1) c3) (l.take p ++ [⟨rs, rc, rv⟩])) := hown3
         have hs3' : w1.heap.size < w3.heap.size := by simp at hsz3; omega
         have HB3' := Lib.hid hb3
         obtain ⟨a0, a1, a2, a3, a4, a5, b0, b1, b2, z0, z1, z2, z3, z4, u0, u1, u2, u3, u4⟩ := wr_facts ((hb3.block _ hs1a).trans HD0.out) ((hb3.block _ hs1b).trans HD1.out) (HD2.out.keep (hb3.block _ hs1))
         clear hown3 hb3 hsz3 e3)
      | (at_builtin; refine (wpList_append_run _ rfl (.tmp 27) (.tmp 31) 43 rfl (.slice A3 (p + 1) c3) _ rfl rfl (app_shape _ w1 _ w1.heap.size w1.heap.size _ _ (.slice A3 (p + 1) c3) (l.take p ++ [(⟨rs, rc, rv⟩ : RecM)]) _ (l.drop p) HO3.out (by simp only [List.length_drop] <;> omega) (by first | exact (HBK.out.below HB3'.out) | exact RecsAt.below (by simpa using HBK.out) HB3'.out) (by simp only [List.length_append, List.length_take, List.length_drop, List.length_cons, List.length_nil]; omega) (fun r hr => by rcases List.mem_append.1 hr with hr | hr; exact HL1.out.ok (List.mem_of_mem_take hr); (simp at hr; subst hr; exact HR.out)) (by omega) HB3'.out) ?_)
         rintro v3 w4 ⟨A4, c4, hv3, hown4, hb4, hsz4⟩
         have e4 : (l.take p ++ [(⟨rs, rc, rv⟩ : RecM)] ++ l.drop p).length = l.length + 1 := by simp; omega
         rw [e4] at hv3 hown4
         subst hv3
         have HO4 : Hid (OwnsRecs w4 w1.heap.size (.slice A4 (l.length + 1) c4) (l.take p ++ [⟨rs, rc, rv⟩] ++ l.drop p)) := hown4
         have hs4' : w1.heap.size < w4.heap.size := by omega
         have HB4' := Lib.hid hb4
         obtain ⟨a0, a1, a2, a3, a4, a5, b0, b1, b2, z0, z1, z2, z3, z4, u0, u1, u2, u3, u4⟩ := wr_facts ((hb4.block _ hs1a).trans HD0.out) ((hb4.block _ hs1b).trans HD1.out) (HD2.out.keep (hb4.block _ hs1))
         clear hown4 hb4 hsz4 e4))
    refine bodyPost_ret (v := rowV key ls lp val A4 (l.length + 1) c4) (by simp [results, Tryz.results90, go_sem, z0, z1, z2, z3, z4]) rfl ⟨A4, c4, by rw [HINS.out, HLEN.out], ?_, ⟨fun ad h => by have := HO4.out.new ad h; omega, by rw [HINS.out]; exact HO4.out.cap⟩, ?_⟩
    · rw [HINS.out]
      refine OwnsRecs.rec (base := w1.heap.size) (n := l.length + 1) (c := c4) ?_ (by rw [HLEN.out]; omega) HOK.out
      repeat (refine OwnsRecs.set ?_ (by simp; omega) _)
      exact HO4.out
    · repeat (refine below_set ?_ (by dsimp only; omega) _)
      exact HBW.out.trans (HB4'.out.mono (by omega))
  · have HBK := Lib.hid (show RecsAt w1 w1.heap.size (A.map (·.add (p * 3))) (l.drop p) by have := hcut.2; rwa [if_neg hcp] at this)
    clear hcut
    go_wp2_with (first
      | (at_builtin; refine wpList_append_run _ rfl (.tmp 17) (.tmp 21) 43 rfl _ _ rfl rfl (app_shape _ w1 _ w1.heap.size w1.heap.size p _ _ [] A (l.take p) HOW.out (cut_front HL1.out p hpl).1 ((cut_front HL1.out p hpl).2.alloc (Nat.le_refl _) _) (by simp; omega) (by simp) (by simp) ((Below.refl _ _).alloc (Nat.le_refl _) _)) ?_
         rintro v1 w2 ⟨A2, c2, hv1, hown2, hb2, hsz2⟩
         have e2 : ([] ++ l.take p).length = p := by simp; omega
         rw [e2] at hv1 hown2
         subst hv1
         have HO2 : Hid (OwnsRecs w2 w1.heap.size (.slice A2 p c2) (l.take p)) := hown2
         have hs2 : w1.heap.size < w2.heap.size := by simp at hsz2; omega
         have HB2' := Lib.hid hb2
         obtain ⟨a0, a1, a2, a3, a4, a5, b0, b1, b2, z0, z1, z2, z3, z4, u0, u1, u2, u3, u4⟩ := wr_facts ((hb2.block _ hs1a).trans HD0.out) ((hb2.block _ hs1b).trans HD1.out) (HD2.out.keep (hb2.block _ hs1))
         clear hown2 hb2 hsz2 e2)
      | (at_builtin; refine wpList_append_run _ rfl (.tmp 23) (.tmp 25) 43 rfl _ _ rfl rfl (app_shape _ w1 _ w1.heap.size (w2.heap.size + 1) 1 1 _ (l.take p) (some ⟨w2.heap.size, 0, none⟩) [⟨rs, rc, rv⟩] (HO2.out.kept (below_alloc (Below.refl _ _) _)) rfl (one_rec w2 ⟨rs, rc, rv⟩ HR.out) (by simp; omega) (fun r hr => HL1.out.ok (List.mem_of_mem_take hr)) (by simp; omega) (HB2'.out.alloc (by omega) _)) ?_
         rintro v2 w3 ⟨A3, c3, hv2, hown3, hb3, hsz3⟩
         have e3 : (l.take p ++ [(⟨rs, rc, rv⟩ : RecM)]).length = p + 1 := by simp; omega
         rw [e3] at hv2 hown3
         subst hv2
         have HO3 : Hid (OwnsRecs w3 w1.heap.size (.slice A3 (p + 1) c3) (l.take p ++ [⟨rs, rc, rv⟩])) := hown3
         have hs3' : w1.heap.size < w3.heap.size := by simp at hsz3; omega
         have HB3' := Lib.hid hb3
         obtain ⟨a0, a1, a2, a3, a4, a5, b0, b1, b2, z0, z1, z2, z3, z4, u0, u1, u2, u3, u4⟩ := wr_facts ((hb3.block _ hs1a).trans HD0.out) ((hb3.block _ hs1b).trans HD1.out) (HD2.out.keep (hb3.block _ hs1))
         clear hown3 hb3 hsz3 e3)
      | (at_builtin; refine (wpList_append_run _ rfl (.tmp 27) (.tmp 31) 43 rfl (.slice A3 (p + 1) c3) _ rfl rfl (app_shape _ w1 _ w1.heap.size w1.heap.size _ _ (.slice A3 (p + 1) c3) (l.take p ++ [(⟨rs, rc, rv⟩ : RecM)]) _ (l.drop p) HO3.out (by simp only [List.length_drop] <;> omega) (by first | exact (HBK.out.below HB3'.out) | exact RecsAt.below (by simpa using HBK.out) HB3'.out) (by simp only [List.length_append, List.length_take, List.length_drop, List.length_cons, List.length_nil]; omega) (fun r hr => by rcases List.mem_append.1 hr with hr | hr; exact HL1.out.ok (List.mem_of_mem_take hr); (simp at hr; subst hr; exact HR.out)) (by omega) HB3'.out) ?_)
         rintro v3 w4 ⟨A4, c4, hv3, hown4, hb4, hsz4⟩
         have e4 : (l.take p ++ [(⟨rs, rc, rv⟩ : RecM)] ++ l.drop p).length = l.length + 1 := by simp; omega
         rw [e4] at hv3 hown4
         subst hv3
         have HO4 : Hid (OwnsRecs w4 w1.heap.size (.slice A4 (l.length + 1) c4) (l.take p ++ [⟨rs, rc, rv⟩] ++ l.drop p)) := hown4
         have hs4' : w1.heap.size < w4.heap.size := by omega
         have HB4' := Lib.hid hb4
         obtain ⟨a0, a1, a2, a3, a4, a5, b0, b1, b2, z0, z1, z2, z3, z4, u0, u1, u2, u3, u4⟩ := wr_facts ((hb4.block _ hs1a).trans HD0.out) ((hb4.block _ hs1b).trans HD1.out) (HD2.out.keep (hb4.block _ hs1))
         clear hown4 hb4 hsz4 e4))
    refine bodyPost_ret (v := rowV key ls lp val A4 (l.length + 1) c4) (by simp [results, Tryz.results90, go_sem, z0, z1, z2, z3, z4]) rfl ⟨A4, c4, by rw [HINS.out, HLEN.out], ?_, ⟨fun ad h => by have := HO4.out.new ad h; omega, by rw [HINS.out]; exact HO4.out.cap⟩, ?_⟩
    · rw [HINS.out]
      refine OwnsRecs.rec (base := w1.heap.size) (n := l.length + 1) (c := c4) ?_ (by rw [HLEN.out]; omega) HOK.out
      repeat (refine OwnsRecs.set ?_ (by simp; omega) _)
      exact HO4.out
    · repeat (refine below_set ?_ (by dsimp only; omega) _)
      exact HBW.out.trans (HB4'.out.mono (by omega))
end Go.Proofs.YtambkjnhfejfaacGreatDoor
