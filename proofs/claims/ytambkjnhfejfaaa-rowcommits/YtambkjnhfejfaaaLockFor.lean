/-
  Contracts of row.lockError and row.LockFor. Conditions: the row comes in as it should ('RowIn'); strings are at most maxLen bytes long.
-/
import Derived.Test.YtambkjnhfejfaaaStatus
import Derived.Test.YtambkjnhfejfaaaLockPure
import Derived.Test.YtambkjnhfejfaaaRefCopy
namespace Go.Proofs.Ytambkjnhfejfaaa
open Go.RowKit

/-- A row and an error that go out. -/
def RowOut2 (key : ByteArray) (ls : Int) (lp val : ByteArray) (l : List RecM) (k : Int) (w : World) (e : Ending) (w' : World) : Prop :=
  ∃ A c, e = .returned (.tuple #[rowV key ls lp val A l.length c, .int .i64 k]) ∧ RecsAt w' w'.heap.size A l ∧ NewC w.heap.size A l.length c ∧ Below w.heap.size w w'

section
variable (key lp val : ByteArray) (ls : Int) (A : Option Addr) (n c : Nat) (l : List RecM) (st : Int) (pk pv : ByteArray) (w : World)

set_option maxHeartbeats 4000000 in
theorem lockError_any (hi : RowIn w key lp val A n l) (hp : pk.size ≤ maxLen) (hv : pv.size ≤ maxLen) :
    Calls Try.prog 45 #[rowV key ls lp val A n c, .int .i64 st, .string pk, .string pv] w fun e w' => e = .returned (.int .i64 (lockE key ls lp val l st pk pv)) ∧ Below w.heap.size w w' := by
  have HI := Lib.hid hi
  have HP := Lib.hid hp
  have hlen := hi.l.len
  have hn := hi.n
  subst hn
  unfold maxLen at hv
  clear hi hp
  by_cases t : rowB key ls lp val l = true
  · by_cases t2 : inB st 1 1099511627776 = true
    · have h1 : 1 ≤ st := (inB_true.1 t2).1
      by_cases t3 : keyB pk = true
      · by_cases t4 : pv.size ≤ 20
        · have d4 : decide (20 < (pv.size : Int)) = false := by simp; omega
          by_cases t5 : stOf ls st l = 3
          · have t5' : (stOf ls st l == 3) = true := by simpa using t5
            have H5 := Lib.hid t5
            clear t5
            (go_enter Try.func45, Try.ntmps45); go_wp2_with fail; refine (checkAt_ok key lp val _ A l.length c l st _ (HI.out.upto (by repeat (first | with_reducible exact Below.refl _ _ | assumption | with_reducible apply below_alloc | with_reducible apply below_drew | with_reducible apply below_drewN | (with_reducible apply below_next; rotate_left; assumption)))) t t2).mono ?_; rintro e w1 ⟨rfl, hb1⟩; obtain ⟨hc1, hf1⟩ := bcell hb1; have hsz1 : w.heap.size + 1 < w1.heap.size := (by have := hb1.size; simp at this; omega); have hsz0 : w.heap.size < w1.heap.size := (by omega)
            go_wp2_with (go_at_call 13; refine (key_any _ _ HP.out).mono ?_; rintro e w' ⟨rfl, rfl⟩)
            refine (statusOf_any key lp val ls A l.length c l st w1 (HI.out.upto (by repeat (first | with_reducible exact Below.refl _ _ | assumption | with_reducible apply below_alloc | with_reducible apply below_drew | with_reducible apply below_drewN | (with_reducible apply below_next; rotate_left; assumption)))) t h1).mono ?_
            rintro e w2 ⟨rfl, hb2⟩
            go_wp2
            go_ret
            exact ⟨ret_int (by simp [lockE, t, t2, t3, H5.out]; omega), by repeat (first | with_reducible exact Below.refl _ _ | assumption | with_reducible apply below_alloc | with_reducible apply below_drew | with_reducible apply below_drewN | (with_reducible apply below_next; rotate_left; assumption))⟩
          · have t5' : (stOf ls st l == 3) = false := by simpa using t5
            have H5 := Lib.hid t5
            clear t5
            obtain ⟨i, hix⟩ : ∃ i, i = lastIx (fun r => decide (st < r.c)) l := ⟨_, rfl⟩
            have HIX := Lib.hid hix
            by_cases t6 : 0 ≤ i
            · have HLT := Lib.hid (show lateB st l = true from decide_eq_true (hix ▸ t6))
              clear hix
              (go_enter Try.func45, Try.ntmps45); go_wp2_with fail; refine (checkAt_ok key lp val _ A l.length c l st _ (HI.out.upto (by repeat (first | with_reducible exact Below.refl _ _ | assumption | with_reducible apply below_alloc | with_reducible apply below_drew | with_reducible apply below_drewN | (with_reducible apply below_next; rotate_left; assumption)))) t t2).mono ?_; rintro e w1 ⟨rfl, hb1⟩; obtain ⟨hc1, hf1⟩ := bcell hb1; have hsz1 : w.heap.size + 1 < w1.heap.size := (by have := hb1.size; simp at this; omega); have hsz0 : w.heap.size < w1.heap.size := (by omega)
              go_wp2_with (go_at_call 13; refine (key_any _ _ HP.out).mono ?_; rintro e w' ⟨rfl, rfl⟩)
              refine (statusOf_any key lp val ls A l.length c l st w1 (HI.out.upto (by repeat (first | with_reducible exact Below.refl _ _ | assumption | with_reducible apply below_alloc | with_reducible apply below_drew | with_reducible apply below_drewN | (with_reducible apply below_next; rotate_left; assumption)))) t h1).mono ?_
              rintro e w2 ⟨rfl, hb2⟩
              (have e2 : w2.cell? ⟨w.heap.size + 1, 0, none⟩ = some (.int .i64 st) := by rw [hb2.cell (p := ⟨w.heap.size + 1, 0, none⟩) (by show w.heap.size + 1 < _; omega), hb1.cell (p := ⟨w.heap.size + 1, 0, none⟩) (by simp)]; simp); obtain ⟨hc2, hf2⟩ := bcell hb2
              go_wp2_with fail
              refine (findLate_any l A l.length c (w.heap.size + 1) 0 st w2 rfl (HI.out.l.upto (by repeat (first | with_reducible exact Below.refl _ _ | assumption | with_reducible apply below_alloc | with_reducible apply below_drew | with_reducible apply below_drewN | (with_reducible apply below_next; rotate_left; assumption)))) e2).mono ?_
              rw [← HIX.out]
              rintro e w3 ⟨rfl, hb3⟩
              go_wp2
              go_ret
              exact ⟨ret_int (by simp [lockE, t, t2, t3, H5.out, HLT.out]; omega), by repeat (first | with_reducible exact Below.refl _ _ | assumption | with_reducible apply below_alloc | with_reducible apply below_drew | with_reducible apply below_drewN | (with_reducible apply below_next; rotate_left; assumption))⟩
            · have HLT := Lib.hid (show lateB st l = false from decide_eq_false (hix ▸ t6))
              clear hix
              by_cases t7 : ls = 0
              · subst t7
                by_cases t8 : l.length < 100
                all_goals
                  (go_enter Try.func45, Try.ntmps45); go_wp2_with fail; refine (checkAt_ok key lp val _ A l.length c l st _ (HI.out.upto (by repeat (first | with_reducible exact Below.refl _ _ | assumption | with_reducible apply below_alloc | with_reducible apply below_drew | with_reducible apply below_drewN | (with_reducible apply below_next; rotate_left; assumption)))) t t2).mono ?_; rintro e w1 ⟨rfl, hb1⟩; obtain ⟨hc1, hf1⟩ := bcell hb1; have hsz1 : w.heap.size + 1 < w1.heap.size := (by have := hb1.size; simp at this; omega); have hsz0 : w.heap.size < w1.heap.size := (by omega)
                  go_wp2_with (go_at_call 13; refine (key_any _ _ HP.out).mono ?_; rintro e w' ⟨rfl, rfl⟩)
                  refine (statusOf_any key lp val 0 A l.length c l st w1 (HI.out.upto (by repeat (first | with_reducible exact Below.refl _ _ | assumption | with_reducible apply below_alloc | with_reducible apply below_drew | with_reducible apply below_drewN | (with_reducible apply below_next; rotate_left; assumption)))) t h1).mono ?_
                  rintro e w2 ⟨rfl, hb2⟩
                  (have e2 : w2.cell? ⟨w.heap.size + 1, 0, none⟩ = some (.int .i64 st) := by rw [hb2.cell (p := ⟨w.heap.size + 1, 0, none⟩) (by show w.heap.size + 1 < _; omega), hb1.cell (p := ⟨w.heap.size + 1, 0, none⟩) (by simp)]; simp); obtain ⟨hc2, hf2⟩ := bcell hb2
                  go_wp2_with fail
                  refine (findLate_any l A l.length c (w.heap.size + 1) 0 st w2 rfl (HI.out.l.upto (by repeat (first | with_reducible exact Below.refl _ _ | assumption | with_reducible apply below_alloc | with_reducible apply below_drew | with_reducible apply below_drewN | (with_reducible apply below_next; rotate_left; assumption)))) e2).mono ?_
                  rw [← HIX.out]
                  rintro e w3 ⟨rfl, hb3⟩
                  obtain ⟨hc3, hf3⟩ := bcell hb3
                  have hs3 : w.heap.size < w2.heap.size := by have := hb2.size; omega
                  have hs4 : w.heap.size < w3.heap.size := by have := hb3.size; omega
                  go_wp2_with (go_at_call 41; refine (locked_any _ _ _ _ _ _ _ _).mono ?_; rintro e w4 ⟨rfl, hb4⟩; obtain ⟨hc4, hf4⟩ := bcell hb4)
                  go_ret
                  exact ⟨ret_int (by simp [lockE, t, t2, t3, H5.out, HLT.out]; omega), by repeat (first | with_reducible exact Below.refl _ _ | assumption | with_reducible apply below_alloc | with_reducible apply below_drew | with_reducible apply below_drewN | (with_reducible apply below_next; rotate_left; assumption))⟩
              · have t7' : (ls != 0) = true := by simpa using t7
                have H7 := Lib.hid t7
                clear t7
                (go_enter Try.func45, Try.ntmps45); go_wp2_with fail; refine (checkAt_ok key lp val _ A l.length c l st _ (HI.out.upto (by repeat (first | with_reducible exact Below.refl _ _ | assumption | with_reducible apply below_alloc | with_reducible apply below_drew | with_reducible apply below_drewN | (with_reducible apply below_next; rotate_left; assumption)))) t t2).mono ?_; rintro e w1 ⟨rfl, hb1⟩; obtain ⟨hc1, hf1⟩ := bcell hb1; have hsz1 : w.heap.size + 1 < w1.heap.size := (by have := hb1.size; simp at this; omega); have hsz0 : w.heap.size < w1.heap.size := (by omega)
                go_wp2_with (go_at_call 13; refine (key_any _ _ HP.out).mono ?_; rintro e w' ⟨rfl, rfl⟩)
                refine (statusOf_any key lp val ls A l.length c l st w1 (HI.out.upto (by repeat (first | with_reducible exact Below.refl _ _ | assumption | with_reducible apply below_alloc | with_reducible apply below_drew | with_reducible apply below_drewN | (with_reducible apply below_next; rotate_left; assumption)))) t h1).mono ?_
                rintro e w2 ⟨rfl, hb2⟩
                (have e2 : w2.cell? ⟨w.heap.size + 1, 0, none⟩ = some (.int .i64 st) := by rw [hb2.cell (p := ⟨w.heap.size + 1, 0, none⟩) (by show w.heap.size + 1 < _; omega), hb1.cell (p := ⟨w.heap.size + 1, 0, none⟩) (by simp)]; simp); obtain ⟨hc2, hf2⟩ := bcell hb2
                go_wp2_with fail
                refine (findLate_any l A l.length c (w.heap.size + 1) 0 st w2 rfl (HI.out.l.upto (by repeat (first | with_reducible exact Below.refl _ _ | assumption | with_reducible apply below_alloc | with_reducible apply below_drew | with_reducible apply below_drewN | (with_reducible apply below_next; rotate_left; assumption)))) e2).mono ?_
                rw [← HIX.out]
                rintro e w3 ⟨rfl, hb3⟩
                obtain ⟨hc3, hf3⟩ := bcell hb3
                have hs3 : w.heap.size < w2.heap.size := by have := hb2.size; omega
                go_wp2_with (go_at_call 41; refine (locked_any _ _ _ _ _ _ _ _).mono ?_; rintro e w4 ⟨rfl, hb4⟩; obtain ⟨hc4, hf4⟩ := bcell hb4)
                go_ret
                exact ⟨ret_int (by simp [lockE, t, t2, t3, H5.out, HLT.out, H7.out]; omega), by repeat (first | with_reducible exact Below.refl _ _ | assumption | with_reducible apply below_alloc | with_reducible apply below_drew | with_reducible apply below_drewN | (with_reducible apply below_next; rotate_left; assumption))⟩
        · have d4 : decide (20 < (pv.size : Int)) = true := by simp; omega
          (go_enter Try.func45, Try.ntmps45); go_wp2_with fail; refine (checkAt_ok key lp val _ A l.length c l st _ (HI.out.upto (by repeat (first | with_reducible exact Below.refl _ _ | assumption | with_reducible apply below_alloc | with_reducible apply below_drew | with_reducible apply below_drewN | (with_reducible apply below_next; rotate_left; assumption)))) t t2).mono ?_; rintro e w1 ⟨rfl, hb1⟩; obtain ⟨hc1, hf1⟩ := bcell hb1; have hsz1 : w.heap.size + 1 < w1.heap.size := (by have := hb1.size; simp at this; omega); have hsz0 : w.heap.size < w1.heap.size := (by omega)
          go_wp2_with (go_at_call 13; refine (key_any _ _ HP.out).mono ?_; rintro e w' ⟨rfl, rfl⟩)
          go_ret
          exact ⟨ret_int (by simp [lockE, t, t2, t3]; omega), by repeat (first | with_reducible exact Below.refl _ _ | assumption | with_reducible apply below_alloc | with_reducible apply below_drew | with_reducible apply below_drewN | (with_reducible apply below_next; rotate_left; assumption))⟩
      · have t3' : keyB pk = false := by simpa using t3
        clear t3
        (go_enter Try.func45, Try.ntmps45); go_wp2_with fail; refine (checkAt_ok key lp val _ A l.length c l st _ (HI.out.upto (by repeat (first | with_reducible exact Below.refl _ _ | assumption | with_reducible apply below_alloc | with_reducible apply below_drew | with_reducible apply below_drewN | (with_reducible apply below_next; rotate_left; assumption)))) t t2).mono ?_; rintro e w1 ⟨rfl, hb1⟩; obtain ⟨hc1, hf1⟩ := bcell hb1; have hsz1 : w.heap.size + 1 < w1.heap.size := (by have := hb1.size; simp at this; omega); have hsz0 : w.heap.size < w1.heap.size := (by omega)
        go_wp2_with (go_at_call 13; refine (key_any _ _ HP.out).mono ?_; rintro e w' ⟨rfl, rfl⟩)
        go_ret
        exact ⟨ret_int (by simp [lockE, t, t2, t3']), by repeat (first | with_reducible exact Below.refl _ _ | assumption | with_reducible apply below_alloc | with_reducible apply below_drew | with_reducible apply below_drewN | (with_reducible apply below_next; rotate_left; assumption))⟩
    · have t2' : inB st 1 1099511627776 = false := by simpa using t2
      clear t2
      go_enter Try.func45, Try.ntmps45
      go_wp2_with fail
      refine (checkAt_range key lp val ls A l.length c l st _ (HI.out.upto (by repeat (first | with_reducible exact Below.refl _ _ | assumption | with_reducible apply below_alloc | with_reducible apply below_drew | with_reducible apply below_drewN | (with_reducible apply below_next; rotate_left; assumption)))) t t2').mono ?_
      rintro e w1 ⟨rfl, hb1⟩
      go_wp2
      go_ret
      exact ⟨ret_int (by simp [lockE, t, t2']), by repeat (first | with_reducible exact Below.refl _ _ | assumption | with_reducible apply below_alloc | with_reducible apply below_drew | with_reducible apply below_drewN | (with_reducible apply below_next; rotate_left; assumption))⟩
  · have t' : rowB key ls lp val l = false := by simpa using t
    clear t
    go_enter Try.func45, Try.ntmps45
    go_wp2_with fail
    refine (checkAt_state key lp val ls A l.length c l st _ (HI.out.upto (by repeat (first | with_reducible exact Below.refl _ _ | assumption | with_reducible apply below_alloc | with_reducible apply below_drew | with_reducible apply below_drewN | (with_reducible apply below_next; rotate_left; assumption)))) t').mono ?_
    rintro e w1 ⟨rfl, hb1⟩
    go_wp2
    go_ret
    exact ⟨ret_int (by simp [lockE, t']), by repeat (first | with_reducible exact Below.refl _ _ | assumption | with_reducible apply below_alloc | with_reducible apply below_drew | with_reducible apply below_drewN | (with_reducible apply below_next; rotate_left; assumption))⟩

/-- Two boxes: the row, and a zero row for the result. -/
theorem box2_new (w : World) (v0 v1 v2 v3 v4 : Value) : ∃ W0, W0 = (w.alloc (.cells #[v0, v1, v2, v3, v4] 27)).alloc (.cells #[.string ⟨#[]⟩, .int .i64 0, .string ⟨#[]⟩, .string ⟨#[]⟩, .slice none 0 0] 27) ∧ W0.cell? ⟨w.heap.size, 0, none⟩ = some v0 ∧ W0.cell? ⟨w.heap.size, 1, none⟩ = some v1 ∧ W0.cell? ⟨w.heap.size, 2, none⟩ = some v2 ∧
    W0.cell? ⟨w.heap.size, 3, none⟩ = some v3 ∧ W0.cell? ⟨w.heap.size, 4, none⟩ = some v4 ∧ ZeroRow W0 (w.heap.size + 1) ∧ Below w.heap.size w W0 ∧ W0.heap.size = w.heap.size + 2 :=
  ⟨_, rfl, by simp, by simp, by simp, by simp, by simp, ⟨by
    have h := heap_alloc_new (w.alloc (.cells #[v0, v1, v2, v3, v4] 27)) (.cells #[.string ⟨#[]⟩, .int .i64 0, .string ⟨#[]⟩, .string ⟨#[]⟩, .slice none 0 0] 27)
    simpa using h⟩, below_alloc (below_alloc (Below.refl _ _) _) _, by simp⟩

set_option maxHeartbeats 2000000 in
theorem lockFor_err (hi : RowIn w key lp val A n l) (hp : pk.size ≤ maxLen) (hv : pv.size ≤ maxLen) (h : lockE key ls lp val l st pk pv ≠ 0) :
    Calls Try.prog 24 #[rowV key ls lp val A n c, .int .i64 st, .string pk, .string pv] w (RowOut2 ⟨#[]⟩ 0 ⟨#[]⟩ ⟨#[]⟩ [] (lockE key ls lp val l st pk pv) w) := by
  obtain ⟨W0, hW, k0, k1, k2, k3, k4, hz, hbW, hsW⟩ := box2_new w (.string key) (.int .i64 ls) (.string lp) (.string val) (.slice A n c)
  have HW := Lib.hid hW
  have HI := Lib.hid (hi.upto hbW)
  have HP := Lib.hid hp
  have HV := Lib.hid hv
  have HZ := Lib.hid hz
  have hne : (lockE key ls lp val l st pk pv != 0) = true := by simpa using h
  have hsz : w.heap.size + 1 < W0.heap.size := by omega
  clear hW hi hp hv hz h hsW
  go_enter Try.func24, Try.ntmps24
  go_wp2_with fail
  rw [← HW.out]
  refine (lockError_any key lp val ls A n c l st pk pv W0 HI.out HP.out HV.out).mono ?_
  rintro e w1 ⟨rfl, hb1⟩
  obtain ⟨z0, z1, z2, z3, z4, u0, u1, u2, u3, u4⟩ := zero_facts (HZ.out.keep (hb1.block _ hsz))
  go_wp2
  refine bodyPost_ret (v := .tuple #[rowV ⟨#[]⟩ 0 ⟨#[]⟩ ⟨#[]⟩ none 0 0, .int .i64 (lockE key ls lp val l st pk pv)]) (by simp [results, Try.results24, go_sem, z0, z1, z2, z3, z4]) rfl ⟨none, 0, rfl, RecsAt.nil_ _ _ _, ⟨newAt_none _, Nat.le_refl _⟩, ?_⟩
  have hbw : Below w.heap.size w w1 := below_next hbW hb1
  repeat (refine below_set ?_ (by simp) _)
  exact hbw

set_option maxHeartbeats 2000000 in
theorem lockFor_ok (hi : RowIn w key lp val A n l) (hp : pk.size ≤ maxLen) (hv : pv.size ≤ maxLen) (h : lockE key ls lp val l st pk pv = 0) :
    Calls Try.prog 24 #[rowV key ls lp val A n c, .int .i64 st, .string pk, .string pv] w (RowOut2 key st pk pv l 0 w) := by
  obtain ⟨W0, hW, k0, k1, k2, k3, k4, hz, hbW, hsW⟩ := box2_new w (.string key) (.int .i64 ls) (.string lp) (.string val) (.slice A n c)
  have HW := Lib.hid hW
  have HI := Lib.hid (hi.upto hbW)
  have HP := Lib.hid hp
  have HV := Lib.hid hv
  have HZ := Lib.hid hz
  have hsz : w.heap.size + 1 < W0.heap.size := by omega
  have HE := Lib.hid h
  clear hW hi hp hv hz h hsW
  go_enter Try.func24, Try.ntmps24
  go_wp2_with fail
  rw [← HW.out]
  refine (lockError_any key lp val ls A n c l st pk pv W0 HI.out HP.out HV.out).mono ?_
  rw [HE.out]
  rintro e w1 ⟨rfl, hb1⟩
  obtain ⟨g0, g1, g2, g3, g4, _⟩ := boxS k0 k1 k2 k3 k4 hb1
  go_wp2_with fail
  refine (copy_any key lp val ls A n c l w1 HI.out.n (HI.out.l.upto hb1)).mono ?_
  rintro e w2 ⟨A2, c2, rfl, hr2, hnew, hb2⟩
  have HN := Lib.hid hnew
  have hs1 : w.heap.size + 1 < w1.heap.size := by have := hb1.size; omega
  clear hnew
  have HR := Lib.hid hr2
  have hb12 : Below W0.heap.size W0 w2 := below_next hb1 hb2
  have hs2 : w.heap.size + 1 < w2.heap.size := by have := hb12.size; omega
  obtain ⟨z0, z1, z2, z3, z4, u0, u1, u2, u3, u4⟩ := zero_facts (HZ.out.keep (hb12.block _ hsz))
  clear hr2
  go_wp2
  refine bodyPost_ret (v := .tuple #[rowV key st pk pv A2 l.length c2, .int .i64 0]) (by simp [results, Try.results24, go_sem, z0, z1, z2, z3, z4, hs2]) rfl ⟨A2, c2, rfl, ?_, ⟨fun ad h => by have := HN.out.1 ad h; omega, HN.out.2⟩, ?_⟩
  · refine (RecsAt.alloc ?_ (Nat.le_refl _) _).more (by simp)
    have e : ∀ (W : World) (p : Addr) (u : Value), (W.setCell p u).heap.size = W.heap.size := fun W p u => by simp [World.setCell]
    rw [e, e, e, e, e]
    repeat (refine RecsAt.setLow ?_ HN.out.1 hs1 _)
    exact HR.out
  · have hbw : Below w.heap.size w w2 := below_next hbW hb12
    refine below_alloc ?_ _
    repeat (refine below_set ?_ (by simp) _)
    exact hbw
end
end Go.Proofs.Ytambkjnhfejfaaa
