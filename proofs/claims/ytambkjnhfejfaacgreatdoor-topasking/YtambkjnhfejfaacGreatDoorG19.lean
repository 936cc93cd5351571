/-
  Contracts of functions of the program and words for memory, several texts in one: Undo. Conditions: those stated with each.
-/
import Derived.Test.YtambkjnhfejfaacGreatDoorG18
namespace Go.Proofs.YtambkjnhfejfaacGreatDoor
open Go.RowKit
set_option linter.unusedVariables false

section
variable (key lp val : ByteArray) (ls : Int) (A : Option Addr) (n c : Nat) (l : List RecM) (st : Int) (w : World)

set_option maxHeartbeats 8000000 in
theorem undo_state (hi : RowIn w key lp val A n l) (t : rowB key ls lp val l = false) :
    Calls Tryz.prog 80 #[rowV key ls lp val A n c, .int .i64 st] w (RowOut2 ⟨#[]⟩ 0 ⟨#[]⟩ ⟨#[]⟩ [] 6 w) := by
  obtain ⟨W0, hW, k0, k1, k2, k3, k4, hz, hbW, hsW⟩ := box2_new w (.string key) (.int .i64 ls) (.string lp) (.string val) (.slice A n c)
  have HW := Lib.hid hW
  have HI0 := Lib.hid hi
  have HI := Lib.hid (hi.upto hbW)
  have HZ := Lib.hid hz
  have hlen := hi.l.len
  have hsz : w.heap.size + 1 < W0.heap.size := by omega
  clear hW hi hz hsW
  go_enter Tryz.func80, Tryz.ntmps80
  go_wp2_with fail
  rw [← HW.out]
  refine (checkAt_state key lp val ls A n c l st W0 HI.out t).mono ?_
  rintro e w1 ⟨rfl, hb1⟩
  obtain ⟨g0, g1, g2, g3, g4, _⟩ := boxS k0 k1 k2 k3 k4 hb1
  obtain ⟨z0, z1, z2, z3, z4, u0, u1, u2, u3, u4⟩ := zero_facts (HZ.out.keep (hb1.block _ hsz))
  go_wp2
  refine bodyPost_ret (v := .tuple #[rowV ⟨#[]⟩ 0 ⟨#[]⟩ ⟨#[]⟩ none 0 0, .int .i64 6]) (by simp [results, Tryz.results80, go_sem, z0, z1, z2, z3, z4]) rfl ⟨none, 0, rfl, RecsAt.nil_ _ _ _, ⟨newAt_none _, Nat.le_refl _⟩, ?_⟩
  have hbw : Below w.heap.size w w1 := below_next hbW hb1
  repeat (refine below_set ?_ (by simp) _)
  exact hbw

set_option maxHeartbeats 8000000 in
theorem undo_range (hi : RowIn w key lp val A n l) (t : rowB key ls lp val l = true) (t2 : inB st 1 1099511627776 = false) :
    Calls Tryz.prog 80 #[rowV key ls lp val A n c, .int .i64 st] w (RowOut2 ⟨#[]⟩ 0 ⟨#[]⟩ ⟨#[]⟩ [] 2 w) := by
  obtain ⟨W0, hW, k0, k1, k2, k3, k4, hz, hbW, hsW⟩ := box2_new w (.string key) (.int .i64 ls) (.string lp) (.string val) (.slice A n c)
  have HW := Lib.hid hW
  have HI0 := Lib.hid hi
  have HI := Lib.hid (hi.upto hbW)
  have HZ := Lib.hid hz
  have hlen := hi.l.len
  have hsz : w.heap.size + 1 < W0.heap.size := by omega
  clear hW hi hz hsW
  go_enter Tryz.func80, Tryz.ntmps80
  go_wp2_with fail
  rw [← HW.out]
  refine (checkAt_range key lp val ls A n c l st W0 HI.out t t2).mono ?_
  rintro e w1 ⟨rfl, hb1⟩
  obtain ⟨g0, g1, g2, g3, g4, _⟩ := boxS k0 k1 k2 k3 k4 hb1
  obtain ⟨z0, z1, z2, z3, z4, u0, u1, u2, u3, u4⟩ := zero_facts (HZ.out.keep (hb1.block _ hsz))
  go_wp2
  refine bodyPost_ret (v := .tuple #[rowV ⟨#[]⟩ 0 ⟨#[]⟩ ⟨#[]⟩ none 0 0, .int .i64 2]) (by simp [results, Tryz.results80, go_sem, z0, z1, z2, z3, z4]) rfl ⟨none, 0, rfl, RecsAt.nil_ _ _ _, ⟨newAt_none _, Nat.le_refl _⟩, ?_⟩
  have hbw : Below w.heap.size w w1 := below_next hbW hb1
  repeat (refine below_set ?_ (by simp) _)
  exact hbw

set_option maxHeartbeats 8000000 in
theorem undo_done (hi : RowIn w key lp val A n l) (t : rowB key ls lp val l = true) (t2 : inB st 1 1099511627776 = true) (t3 : (stOf ls st l == 2) = true) :
    Calls Tryz.prog 80 #[rowV key ls lp val A n c, .int .i64 st] w (RowOut2 ⟨#[]⟩ 0 ⟨#[]⟩ ⟨#[]⟩ [] 6 w) := by
  obtain ⟨W0, hW, k0, k1, k2, k3, k4, hz, hbW, hsW⟩ := box2_new w (.string key) (.int .i64 ls) (.string lp) (.string val) (.slice A n c)
  have HW := Lib.hid hW
  have HI0 := Lib.hid hi
  have HI := Lib.hid (hi.upto hbW)
  have HZ := Lib.hid hz
  have hlen := hi.l.len
  have hsz : w.heap.size + 1 < W0.heap.size := by omega
  clear hW hi hz hsW
  go_enter Tryz.func80, Tryz.ntmps80
  go_wp2_with fail
  rw [← HW.out]
  refine (checkAt_ok key lp val ls A n c l st W0 HI.out t t2).mono ?_
  rintro e w1 ⟨rfl, hb1⟩
  obtain ⟨g0, g1, g2, g3, g4, _⟩ := boxS k0 k1 k2 k3 k4 hb1
  have h1 : 1 ≤ st := (inB_true.1 t2).1
  have hs1 : w.heap.size + 1 < w1.heap.size := by have := hb1.size; omega
  have hs1' : w.heap.size < w1.heap.size := by omega
  go_wp2_with fail
  obtain ⟨W1, hW1⟩ : ∃ W1, W1 = w1.alloc (.cells #[.int .i64 st, .int .i64 0, .string ⟨#[]⟩] 47) := ⟨_, rfl⟩
  have hbx : Below w1.heap.size w1 W1 := by rw [hW1]; exact below_alloc (Below.refl _ _) _
  have x0 : W1.cell? ⟨w1.heap.size, 0, none⟩ = some (.int .i64 st) := by rw [hW1]; simp
  have x1 : W1.cell? ⟨w1.heap.size, 1, none⟩ = some (.int .i64 0) := by rw [hW1]; simp
  have x2 : W1.cell? ⟨w1.heap.size, 2, none⟩ = some (.string ⟨#[]⟩) := by rw [hW1]; simp
  rw [← hW1]
  have hb01 : Below W0.heap.size W0 W1 := below_next hb1 hbx
  refine (statusOf_any key lp val ls A n c l st W1 (HI.out.upto hb01) t h1).mono ?_
  rintro e w2 ⟨rfl, hb2⟩
  have hb02 : Below W0.heap.size W0 w2 := below_next hb01 hb2
  have hw2 : Below w.heap.size w w2 := below_next hbW hb02
  have hs2 : w.heap.size + 1 < w2.heap.size := by have := hb02.size; omega
  obtain ⟨j0, j1, j2, j3, j4, _⟩ := boxS k0 k1 k2 k3 k4 hb02
  have hsr : w1.heap.size < W1.heap.size := World.block_lt_of_cell? W1 _ x0
  have r0 : w2.cell? ⟨w1.heap.size, 0, none⟩ = some (.int .i64 st) := (hb2.cell (p := ⟨w1.heap.size, 0, none⟩) hsr).trans x0
  have r1 : w2.cell? ⟨w1.heap.size, 1, none⟩ = some (.int .i64 0) := (hb2.cell (p := ⟨w1.heap.size, 1, none⟩) hsr).trans x1
  have r2 : w2.cell? ⟨w1.heap.size, 2, none⟩ = some (.string ⟨#[]⟩) := (hb2.cell (p := ⟨w1.heap.size, 2, none⟩) hsr).trans x2
  have HZ2 := Lib.hid (HZ.out.keep (hb02.block _ hsz))
  clear hW1 x0 x1 x2
  obtain ⟨z0, z1, z2, z3, z4, u0, u1, u2, u3, u4⟩ := zero_facts HZ2.out
  go_wp2
  refine bodyPost_ret (v := .tuple #[rowV ⟨#[]⟩ 0 ⟨#[]⟩ ⟨#[]⟩ none 0 0, .int .i64 6]) (by simp [results, Tryz.results80, go_sem, z0, z1, z2, z3, z4]) rfl ⟨none, 0, rfl, RecsAt.nil_ _ _ _, ⟨newAt_none _, Nat.le_refl _⟩, ?_⟩
  have hbw : Below w.heap.size w w2 := hw2
  repeat (refine below_set ?_ (by simp) _)
  exact hbw

set_option maxHeartbeats 8000000 in
theorem undo_gone (hi : RowIn w key lp val A n l) (t : rowB key ls lp val l = true) (t2 : inB st 1 1099511627776 = true) (t3 : (stOf ls st l == 2) = false) (t4 : (stOf ls st l == 3) = true) :
    Calls Tryz.prog 80 #[rowV key ls lp val A n c, .int .i64 st] w (RowOut2 key ls lp val l 0 w) := by
  obtain ⟨W0, hW, k0, k1, k2, k3, k4, hz, hbW, hsW⟩ := box2_new w (.string key) (.int .i64 ls) (.string lp) (.string val) (.slice A n c)
  have HW := Lib.hid hW
  have HI0 := Lib.hid hi
  have HI := Lib.hid (hi.upto hbW)
  have HZ := Lib.hid hz
  have hlen := hi.l.len
  have hsz : w.heap.size + 1 < W0.heap.size := by omega
  clear hW hi hz hsW
  go_enter Tryz.func80, Tryz.ntmps80
  go_wp2_with fail
  rw [← HW.out]
  refine (checkAt_ok key lp val ls A n c l st W0 HI.out t t2).mono ?_
  rintro e w1 ⟨rfl, hb1⟩
  obtain ⟨g0, g1, g2, g3, g4, _⟩ := boxS k0 k1 k2 k3 k4 hb1
  have h1 : 1 ≤ st := (inB_true.1 t2).1
  have hs1 : w.heap.size + 1 < w1.heap.size := by have := hb1.size; omega
  have hs1' : w.heap.size < w1.heap.size := by omega
  go_wp2_with fail
  obtain ⟨W1, hW1⟩ : ∃ W1, W1 = w1.alloc (.cells #[.int .i64 st, .int .i64 0, .string ⟨#[]⟩] 47) := ⟨_, rfl⟩
  have hbx : Below w1.heap.size w1 W1 := by rw [hW1]; exact below_alloc (Below.refl _ _) _
  have x0 : W1.cell? ⟨w1.heap.size, 0, none⟩ = some (.int .i64 st) := by rw [hW1]; simp
  have x1 : W1.cell? ⟨w1.heap.size, 1, none⟩ = some (.int .i64 0) := by rw [hW1]; simp
  have x2 : W1.cell? ⟨w1.heap.size, 2, none⟩ = some (.string ⟨#[]⟩) := by rw [hW1]; simp
  rw [← hW1]
  have hb01 : Below W0.heap.size W0 W1 := below_next hb1 hbx
  refine (statusOf_any key lp val ls A n c l st W1 (HI.out.upto hb01) t h1).mono ?_
  rintro e w2 ⟨rfl, hb2⟩
  have hb02 : Below W0.heap.size W0 w2 := below_next hb01 hb2
  have hw2 : Below w.heap.size w w2 := below_next hbW hb02
  have hs2 : w.heap.size + 1 < w2.heap.size := by have := hb02.size; omega
  obtain ⟨j0, j1, j2, j3, j4, _⟩ := boxS k0 k1 k2 k3 k4 hb02
  have hsr : w1.heap.size < W1.heap.size := World.block_lt_of_cell? W1 _ x0
  have r0 : w2.cell? ⟨w1.heap.size, 0, none⟩ = some (.int .i64 st) := (hb2.cell (p := ⟨w1.heap.size, 0, none⟩) hsr).trans x0
  have r1 : w2.cell? ⟨w1.heap.size, 1, none⟩ = some (.int .i64 0) := (hb2.cell (p := ⟨w1.heap.size, 1, none⟩) hsr).trans x1
  have r2 : w2.cell? ⟨w1.heap.size, 2, none⟩ = some (.string ⟨#[]⟩) := (hb2.cell (p := ⟨w1.heap.size, 2, none⟩) hsr).trans x2
  have HZ2 := Lib.hid (HZ.out.keep (hb02.block _ hsz))
  clear hW1 x0 x1 x2
  go_wp2_with fail
  refine (copy_any key lp val ls A n c l w2 HI0.out.n (HI0.out.l.upto hw2)).mono ?_
  rintro e w3 ⟨A2, c2, rfl, hr3, hnew, hb3⟩
  have HR3 := Lib.hid hr3
  have HN3 := Lib.hid hnew
  obtain ⟨z0, z1, z2, z3, z4, u0, u1, u2, u3, u4⟩ := zero_facts (HZ2.out.keep (hb3.block _ hs2))
  clear hr3 hnew
  go_wp2
  refine bodyPost_ret (v := .tuple #[rowV key ls lp val A2 l.length c2, .int .i64 0]) (by simp [results, Tryz.results80, go_sem, z0, z1, z2, z3, z4]) rfl ⟨A2, c2, rfl, ?_, ⟨fun ad h => by have := HN3.out.1 ad h; omega, HN3.out.2⟩, ?_⟩
  · have e : ∀ (W : World) (p : Addr) (u : Value), (W.setCell p u).heap.size = W.heap.size := fun W p u => by simp [World.setCell]
    rw [e, e, e, e, e]
    repeat (refine RecsAt.setLow ?_ HN3.out.1 hs2 _)
    exact HR3.out
  · have hbw : Below w.heap.size w w3 := below_next hw2 hb3
    repeat (refine below_set ?_ (by simp) _)
    exact hbw

set_option maxHeartbeats 8000000 in
theorem undo_held (hi : RowIn w key lp val A n l) (t : rowB key ls lp val l = true) (t2 : inB st 1 1099511627776 = true) (t3 : (stOf ls st l == 2) = false) (t4 : (stOf ls st l == 3) = false) (t5 : (stOf ls st l == 1) = true) (hcap : n ≤ c) (h99 : n ≤ 100) :
    Calls Tryz.prog 80 #[rowV key ls lp val A n c, .int .i64 st] w (RowOut2 key 0 ⟨#[]⟩ ⟨#[]⟩ (insRec l ⟨st, 0, ⟨#[]⟩⟩) 0 w) := by
  obtain ⟨W0, hW, k0, k1, k2, k3, k4, hz, hbW, hsW⟩ := box2_new w (.string key) (.int .i64 ls) (.string lp) (.string val) (.slice A n c)
  have HW := Lib.hid hW
  have HI0 := Lib.hid hi
  have HI := Lib.hid (hi.upto hbW)
  have HZ := Lib.hid hz
  have hlen := hi.l.len
  have hsz : w.heap.size + 1 < W0.heap.size := by omega
  clear hW hi hz hsW
  have HRK := Lib.hid (show RecOk ⟨st, 0, ⟨#[]⟩⟩ from ⟨by have := inB_true.1 t2; unfold i64; dsimp only; omega, by unfold i64; dsimp only; omega, Nat.zero_le _⟩)
  go_enter Tryz.func80, Tryz.ntmps80
  go_wp2_with fail
  rw [← HW.out]
  refine (checkAt_ok key lp val ls A n c l st W0 HI.out t t2).mono ?_
  rintro e w1 ⟨rfl, hb1⟩
  obtain ⟨g0, g1, g2, g3, g4, _⟩ := boxS k0 k1 k2 k3 k4 hb1
  have h1 : 1 ≤ st := (inB_true.1 t2).1
  have hs1 : w.heap.size + 1 < w1.heap.size := by have := hb1.size; omega
  have hs1' : w.heap.size < w1.heap.size := by omega
  go_wp2_with fail
  obtain ⟨W1, hW1⟩ : ∃ W1, W1 = w1.alloc (.cells #[.int .i64 st, .int .i64 0, .string ⟨#[]⟩] 47) := ⟨_, rfl⟩
  have hbx : Below w1.heap.size w1 W1 := by rw [hW1]; exact below_alloc (Below.refl _ _) _
  have x0 : W1.cell? ⟨w1.heap.size, 0, none⟩ = some (.int .i64 st) := by rw [hW1]; simp
  have x1 : W1.cell? ⟨w1.heap.size, 1, none⟩ = some (.int .i64 0) := by rw [hW1]; simp
  have x2 : W1.cell? ⟨w1.heap.size, 2, none⟩ = some (.string ⟨#[]⟩) := by rw [hW1]; simp
  rw [← hW1]
  have hb01 : Below W0.heap.size W0 W1 := below_next hb1 hbx
  refine (statusOf_any key lp val ls A n c l st W1 (HI.out.upto hb01) t h1).mono ?_
  rintro e w2 ⟨rfl, hb2⟩
  have hb02 : Below W0.heap.size W0 w2 := below_next hb01 hb2
  have hw2 : Below w.heap.size w w2 := below_next hbW hb02
  have hs2 : w.heap.size + 1 < w2.heap.size := by have := hb02.size; omega
  obtain ⟨j0, j1, j2, j3, j4, _⟩ := boxS k0 k1 k2 k3 k4 hb02
  have hsr : w1.heap.size < W1.heap.size := World.block_lt_of_cell? W1 _ x0
  have r0 : w2.cell? ⟨w1.heap.size, 0, none⟩ = some (.int .i64 st) := (hb2.cell (p := ⟨w1.heap.size, 0, none⟩) hsr).trans x0
  have r1 : w2.cell? ⟨w1.heap.size, 1, none⟩ = some (.int .i64 0) := (hb2.cell (p := ⟨w1.heap.size, 1, none⟩) hsr).trans x1
  have r2 : w2.cell? ⟨w1.heap.size, 2, none⟩ = some (.string ⟨#[]⟩) := (hb2.cell (p := ⟨w1.heap.size, 2, none⟩) hsr).trans x2
  have HZ2 := Lib.hid (HZ.out.keep (hb02.block _ hsz))
  clear hW1 x0 x1 x2
  have dj0 : w2.drew.cell? ⟨w.heap.size, 0, none⟩ = some (.string key) := j0
  have dj1 : w2.drew.cell? ⟨w.heap.size, 1, none⟩ = some (.int .i64 ls) := j1
  have dj2 : w2.drew.cell? ⟨w.heap.size, 2, none⟩ = some (.string lp) := j2
  have dj3 : w2.drew.cell? ⟨w.heap.size, 3, none⟩ = some (.string val) := j3
  have dj4 : w2.drew.cell? ⟨w.heap.size, 4, none⟩ = some (.slice A n c) := j4
  have dx0 : w2.drew.cell? ⟨w1.heap.size, 0, none⟩ = some (.int .i64 st) := r0
  have dx1 : w2.drew.cell? ⟨w1.heap.size, 1, none⟩ = some (.int .i64 0) := r1
  have dx2 : w2.drew.cell? ⟨w1.heap.size, 2, none⟩ = some (.string ⟨#[]⟩) := r2
  have dw5 : Below w.heap.size w w2.drew := below_drew hw2
  have sA : w.heap.size + 1 ≠ w.heap.size := by omega
  have sB : w.heap.size + 1 ≠ w1.heap.size := by omega
  have sC : w.heap.size ≤ w.heap.size + 1 := by omega
  go_wp2_with fail
  go_region_held3 (fun w' => w'.cell? ⟨w.heap.size, 0, none⟩ = some (.string key) ∧ w'.cell? ⟨w.heap.size, 1, none⟩ = some (.int .i64 ls) ∧ w'.cell? ⟨w.heap.size, 2, none⟩ = some (.string lp) ∧ w'.cell? ⟨w.heap.size, 3, none⟩ = some (.string val) ∧ w'.cell? ⟨w.heap.size, 4, none⟩ = some (.slice A n c) ∧ w'.cell? ⟨w1.heap.size, 0, none⟩ = some (.int .i64 st) ∧ w'.cell? ⟨w1.heap.size, 1, none⟩ = some (.int .i64 0) ∧ w'.cell? ⟨w1.heap.size, 2, none⟩ = some (.string ⟨#[]⟩) ∧ Below w.heap.size w w')
    (first | with_reducible exact ⟨dj0, dj1, dj2, dj3, dj4, dx0, dx1, dx2, dw5⟩ | (go_split_ands; with_reducible exact nextS hbb ⟨by assumption, by assumption, by assumption, by assumption, by assumption, by assumption, by assumption, by assumption, by assumption⟩) | (go_split_ands; with_reducible exact nextS hba ⟨by assumption, by assumption, by assumption, by assumption, by assumption, by assumption, by assumption, by assumption, by assumption⟩) | (go_split_ands; with_reducible exact setS (p := ⟨w.heap.size + 1, 4, none⟩) sA sB sC _ (setS (p := ⟨w.heap.size + 1, 3, none⟩) sA sB sC _ (setS (p := ⟨w.heap.size + 1, 2, none⟩) sA sB sC _ (setS (p := ⟨w.heap.size + 1, 1, none⟩) sA sB sC _ (setS (p := ⟨w.heap.size + 1, 0, none⟩) sA sB sC _ ⟨by assumption, by assumption, by assumption, by assumption, by assumption, by assumption, by assumption, by assumption, by assumption⟩))))))
    (first
      | (go_at_call 91; refine (withoutLock_any _ _ _ _ _ _ _ _).mono ?_; rintro e wa ⟨rfl, hba⟩; have HZa := Lib.hid (HZ2.out.keep (hba.block _ hs2)); have hsa : w.heap.size + 1 < wa.heap.size := Nat.lt_of_lt_of_le hs2 hba.size)
      | (go_at_call 90; go_split_ands; refine (withRecord_any key ⟨#[]⟩ ⟨#[]⟩ 0 A n c l ⟨st, 0, ⟨#[]⟩⟩ _ HI0.out.n hcap h99 (HI0.out.l.upto (by assumption)) HRK.out).mono ?_; rintro e wb ⟨A2, c2, rfl, hr2, hnew, hbb⟩; have HR2 := Lib.hid hr2; have HN2 := Lib.hid hnew; obtain ⟨z0, z1, z2, z3, z4, u0, u1, u2, u3, u4⟩ := zero_facts (HZa.out.keep (hbb.block _ hsa)); clear hr2 hnew))
  go_split_ands
  go_wp2
  refine bodyPost_ret (v := .tuple #[rowV key 0 ⟨#[]⟩ ⟨#[]⟩ A2 (insRec l ⟨st, 0, ⟨#[]⟩⟩).length c2, .int .i64 0]) (by simp [results, Tryz.results80, go_sem, z0, z1, z2, z3, z4]) rfl ⟨A2, c2, rfl, ?_, ⟨fun ad h => by have := HN2.out.1 ad h; omega, HN2.out.2⟩, ?_⟩
  · have e : ∀ (W : World) (p : Addr) (u : Value), (W.setCell p u).heap.size = W.heap.size := fun W p u => by simp [World.setCell]
    rw [e, e, e, e, e]
    repeat (refine RecsAt.setLow ?_ HN2.out.1 hsa _)
    exact HR2.out
  · assumption

set_option maxHeartbeats 8000000 in
theorem undo_full (hi : RowIn w key lp val A n l) (t : rowB key ls lp val l = true) (t2 : inB st 1 1099511627776 = true) (t3 : (stOf ls st l == 2) = false) (t4 : (stOf ls st l == 3) = false) (t5 : (stOf ls st l == 1) = false) (t6 : decide (roomOf ls ≤ (l.length : Int)) = true) :
    Calls Tryz.prog 80 #[rowV key ls lp val A n c, .int .i64 st] w (RowOut2 ⟨#[]⟩ 0 ⟨#[]⟩ ⟨#[]⟩ [] 1 w) := by
  obtain ⟨W0, hW, k0, k1, k2, k3, k4, hz, hbW, hsW⟩ := box2_new w (.string key) (.int .i64 ls) (.string lp) (.string val) (.slice A n c)
  have HW := Lib.hid hW
  have HI0 := Lib.hid hi
  have HI := Lib.hid (hi.upto hbW)
  have HZ := Lib.hid hz
  have hlen := hi.l.len
  have hsz : w.heap.size + 1 < W0.heap.size := by omega
  clear hW hi hz hsW
  have hn := HI0.out.n
  subst hn
  go_enter Tryz.func80, Tryz.ntmps80
  go_wp2_with fail
  rw [← HW.out]
  refine (checkAt_ok key lp val ls A l.length c l st W0 HI.out t t2).mono ?_
  rintro e w1 ⟨rfl, hb1⟩
  obtain ⟨g0, g1, g2, g3, g4, _⟩ := boxS k0 k1 k2 k3 k4 hb1
  have h1 : 1 ≤ st := (inB_true.1 t2).1
  have hs1 : w.heap.size + 1 < w1.heap.size := by have := hb1.size; omega
  have hs1' : w.heap.size < w1.heap.size := by omega
  go_wp2_with fail
  obtain ⟨W1, hW1⟩ : ∃ W1, W1 = w1.alloc (.cells #[.int .i64 st, .int .i64 0, .string ⟨#[]⟩] 47) := ⟨_, rfl⟩
  have hbx : Below w1.heap.size w1 W1 := by rw [hW1]; exact below_alloc (Below.refl _ _) _
  have x0 : W1.cell? ⟨w1.heap.size, 0, none⟩ = some (.int .i64 st) := by rw [hW1]; simp
  have x1 : W1.cell? ⟨w1.heap.size, 1, none⟩ = some (.int .i64 0) := by rw [hW1]; simp
  have x2 : W1.cell? ⟨w1.heap.size, 2, none⟩ = some (.string ⟨#[]⟩) := by rw [hW1]; simp
  rw [← hW1]
  have hb01 : Below W0.heap.size W0 W1 := below_next hb1 hbx
  refine (statusOf_any key lp val ls A l.length c l st W1 (HI.out.upto hb01) t h1).mono ?_
  rintro e w2 ⟨rfl, hb2⟩
  have hb02 : Below W0.heap.size W0 w2 := below_next hb01 hb2
  have hw2 : Below w.heap.size w w2 := below_next hbW hb02
  have hs2 : w.heap.size + 1 < w2.heap.size := by have := hb02.size; omega
  obtain ⟨j0, j1, j2, j3, j4, _⟩ := boxS k0 k1 k2 k3 k4 hb02
  have hsr : w1.heap.size < W1.heap.size := World.block_lt_of_cell? W1 _ x0
  have r0 : w2.cell? ⟨w1.heap.size, 0, none⟩ = some (.int .i64 st) := (hb2.cell (p := ⟨w1.heap.size, 0, none⟩) hsr).trans x0
  have r1 : w2.cell? ⟨w1.heap.size, 1, none⟩ = some (.int .i64 0) := (hb2.cell (p := ⟨w1.heap.size, 1, none⟩) hsr).trans x1
  have r2 : w2.cell? ⟨w1.heap.size, 2, none⟩ = some (.string ⟨#[]⟩) := (hb2.cell (p := ⟨w1.heap.size, 2, none⟩) hsr).trans x2
  have HZ2 := Lib.hid (HZ.out.keep (hb02.block _ hsz))
  clear hW1 x0 x1 x2
  have dj0 : w2.drew.cell? ⟨w.heap.size, 0, none⟩ = some (.string key) := j0
  have dj1 : w2.drew.cell? ⟨w.heap.size, 1, none⟩ = some (.int .i64 ls) := j1
  have dj2 : w2.drew.cell? ⟨w.heap.size, 2, none⟩ = some (.string lp) := j2
  have dj3 : w2.drew.cell? ⟨w.heap.size, 3, none⟩ = some (.string val) := j3
  have dj4 : w2.drew.cell? ⟨w.heap.size, 4, none⟩ = some (.slice A l.length c) := j4
  have dx0 : w2.drew.cell? ⟨w1.heap.size, 0, none⟩ = some (.int .i64 st) := r0
  have dx1 : w2.drew.cell? ⟨w1.heap.size, 1, none⟩ = some (.int .i64 0) := r1
  have dx2 : w2.drew.cell? ⟨w1.heap.size, 2, none⟩ = some (.string ⟨#[]⟩) := r2
  have dw5 : Below w.heap.size w w2.drew := below_drew hw2
  have sA : w.heap.size + 1 ≠ w.heap.size := by omega
  have sB : w.heap.size + 1 ≠ w1.heap.size := by omega
  have sC : w.heap.size ≤ w.heap.size + 1 := by omega
  go_wp2_with fail
  go_region_held3 (fun w' => w'.cell? ⟨w.heap.size, 0, none⟩ = some (.string key) ∧ w'.cell? ⟨w.heap.size, 1, none⟩ = some (.int .i64 ls) ∧ w'.cell? ⟨w.heap.size, 2, none⟩ = some (.string lp) ∧ w'.cell? ⟨w.heap.size, 3, none⟩ = some (.string val) ∧ w'.cell? ⟨w.heap.size, 4, none⟩ = some (.slice A l.length c) ∧ w'.cell? ⟨w1.heap.size, 0, none⟩ = some (.int .i64 st) ∧ w'.cell? ⟨w1.heap.size, 1, none⟩ = some (.int .i64 0) ∧ w'.cell? ⟨w1.heap.size, 2, none⟩ = some (.string ⟨#[]⟩) ∧ Below w.heap.size w w')
    (first | with_reducible exact ⟨dj0, dj1, dj2, dj3, dj4, dx0, dx1, dx2, dw5⟩ | (go_split_ands; with_reducible exact nextS hba ⟨by assumption, by assumption, by assumption, by assumption, by assumption, by assumption, by assumption, by assumption, by assumption⟩))
    (first
      | (go_at_call 81; refine (maxRecords_any _ _ _ _ _ _ _ _).mono ?_; rintro e wa ⟨rfl, hba⟩; have HZa := Lib.hid (HZ2.out.keep (hba.block _ hs2)); have hsa : w.heap.size + 1 < wa.heap.size := Nat.lt_of_lt_of_le hs2 hba.size))
  go_split_ands
  obtain ⟨z0, z1, z2, z3, z4, u0, u1, u2, u3, u4⟩ := zero_facts HZa.out
  go_wp2
  refine bodyPost_ret (v := .tuple #[rowV ⟨#[]⟩ 0 ⟨#[]⟩ ⟨#[]⟩ none 0 0, .int .i64 1]) (by simp [results, Tryz.results80, go_sem, z0, z1, z2, z3, z4]) rfl ⟨none, 0, rfl, RecsAt.nil_ _ _ _, ⟨newAt_none _, Nat.le_refl _⟩, ?_⟩
  have hbw : Below w.heap.size w wa := by assumption
  repeat (refine below_set ?_ (by simp) _)
  exact hbw

set_option maxHeartbeats 8000000 in
theorem undo_new (hi : RowIn w key lp val A n l) (t : rowB key ls lp val l = true) (t2 : inB st 1 1099511627776 = true) (t3 : (stOf ls st l == 2) = false) (t4 : (stOf ls st l == 3) = false) (t5 : (stOf ls st l == 1) = false) (t6 : decide (roomOf ls ≤ (l.length : Int)) = false) (hcap : n ≤ c) (h99 : n ≤ 100) :
    Calls Tryz.prog 80 #[rowV key ls lp val A n c, .int .i64 st] w (RowOut2 key ls lp val (insRec l ⟨st, 0, ⟨#[]⟩⟩) 0 w) := by
  obtain ⟨W0, hW, k0, k1, k2, k3, k4, hz, hbW, hsW⟩ := box2_new w (.string key) (.int .i64 ls) (.string lp) (.string val) (.slice A n c)
  have HW := Lib.hid hW
  have HI0 := Lib.hid hi
  have HI := Lib.hid (hi.upto hbW)
  have HZ := Lib.hid hz
  have hlen := hi.l.len
  have hsz : w.heap.size + 1 < W0.heap.size := by omega
  clear hW hi hz hsW
  have hn := HI0.out.n
  subst hn
  have HRK := Lib.hid (show RecOk ⟨st, 0, ⟨#[]⟩⟩ from ⟨by have := inB_true.1 t2; unfold i64; dsimp only; omega, by unfold i64; dsimp only; omega, Nat.zero_le _⟩)
  go_enter Tryz.func80, Tryz.ntmps80
  go_wp2_with fail
  rw [← HW.out]
  refine (checkAt_ok key lp val ls A l.length c l st W0 HI.out t t2).mono ?_
  rintro e w1 ⟨rfl, hb1⟩
  obtain ⟨g0, g1, g2, g3, g4, _⟩ := boxS k0 k1 k2 k3 k4 hb1
  have h1 : 1 ≤ st := (inB_true.1 t2).1
  have hs1 : w.heap.size + 1 < w1.heap.size := by have := hb1.size; omega
  have hs1' : w.heap.size < w1.heap.size := by omega
  go_wp2_with fail
  obtain ⟨W1, hW1⟩ : ∃ W1, W1 = w1.alloc (.cells #[.int .i64 st, .int .i64 0, .string ⟨#[]⟩] 47) := ⟨_, rfl⟩
  have hbx : Below w1.heap.size w1 W1 := by rw [hW1]; exact below_alloc (Below.refl _ _) _
  have x0 : W1.cell? ⟨w1.heap.size, 0, none⟩ = some (.int .i64 st) := by rw [hW1]; simp
  have x1 : W1.cell? ⟨w1.heap.size, 1, none⟩ = some (.int .i64 0) := by rw [hW1]; simp
  have x2 : W1.cell? ⟨w1.heap.size, 2, none⟩ = some (.string ⟨#[]⟩) := by rw [hW1]; simp
  rw [← hW1]
  have hb01 : Below W0.heap.size W0 W1 := below_next hb1 hbx
  refine (statusOf_any key lp val ls A l.length c l st W1 (HI.out.upto hb01) t h1).mono ?_
  rintro e w2 ⟨rfl, hb2⟩
  have hb02 : Below W0.heap.size W0 w2 := below_next hb01 hb2
  have hw2 : Below w.heap.size w w2 := below_next hbW hb02
  have hs2 : w.heap.size + 1 < w2.heap.size := by have := hb02.size; omega
  obtain ⟨j0, j1, j2, j3, j4, _⟩ := boxS k0 k1 k2 k3 k4 hb02
  have hsr : w1.heap.size < W1.heap.size := World.block_lt_of_cell? W1 _ x0
  have r0 : w2.cell? ⟨w1.heap.size, 0, none⟩ = some (.int .i64 st) := (hb2.cell (p := ⟨w1.heap.size, 0, none⟩) hsr).trans x0
  have r1 : w2.cell? ⟨w1.heap.size, 1, none⟩ = some (.int .i64 0) := (hb2.cell (p := ⟨w1.heap.size, 1, none⟩) hsr).trans x1
  have r2 : w2.cell? ⟨w1.heap.size, 2, none⟩ = some (.string ⟨#[]⟩) := (hb2.cell (p := ⟨w1.heap.size, 2, none⟩) hsr).trans x2
  have HZ2 := Lib.hid (HZ.out.keep (hb02.block _ hsz))
  clear hW1 x0 x1 x2
  have dj0 : w2.drew.cell? ⟨w.heap.size, 0, none⟩ = some (.string key) := j0
  have dj1 : w2.drew.cell? ⟨w.heap.size, 1, none⟩ = some (.int .i64 ls) := j1
  have dj2 : w2.drew.cell? ⟨w.heap.size, 2, none⟩ = some (.string lp) := j2
  have dj3 : w2.drew.cell? ⟨w.heap.size, 3, none⟩ = some (.string val) := j3
  have dj4 : w2.drew.cell? ⟨w.heap.size, 4, none⟩ = some (.slice A l.length c) := j4
  have dx0 : w2.drew.cell? ⟨w1.heap.size, 0, none⟩ = some (.int .i64 st) := r0
  have dx1 : w2.drew.cell? ⟨w1.heap.size, 1, none⟩ = some (.int .i64 0) := r1
  have dx2 : w2.drew.cell? ⟨w1.heap.size, 2, none⟩ = some (.string ⟨#[]⟩) := r2
  have dw5 : Below w.heap.size w w2.drew := below_drew hw2
  have sA : w.heap.size + 1 ≠ w.heap.size := by omega
  have sB : w.heap.size + 1 ≠ w1.heap.size := by omega
  have sC : w.heap.size ≤ w.heap.size + 1 := by omega
  go_wp2_with fail
  go_region_held3 (fun w' => w'.cell? ⟨w.heap.size, 0, none⟩ = some (.string key) ∧ w'.cell? ⟨w.heap.size, 1, none⟩ = some (.int .i64 ls) ∧ w'.cell? ⟨w.heap.size, 2, none⟩ = some (.string lp) ∧ w'.cell? ⟨w.heap.size, 3, none⟩ = some (.string val) ∧ w'.cell? ⟨w.heap.size, 4, none⟩ = some (.slice A l.length c) ∧ w'.cell? ⟨w1.heap.size, 0, none⟩ = some (.int .i64 st) ∧ w'.cell? ⟨w1.heap.size, 1, none⟩ = some (.int .i64 0) ∧ w'.cell? ⟨w1.heap.size, 2, none⟩ = some (.string ⟨#[]⟩) ∧ Below w.heap.size w w')
    (first | with_reducible exact ⟨dj0, dj1, dj2, dj3, dj4, dx0, dx1, dx2, dw5⟩ | (go_split_ands; with_reducible exact nextS hba ⟨by assumption, by assumption, by assumption, by assumption, by assumption, by assumption, by assumption, by assumption, by assumption⟩))
    (first
      | (go_at_call 81; refine (maxRecords_any _ _ _ _ _ _ _ _).mono ?_; rintro e wa ⟨rfl, hba⟩; have HZa := Lib.hid (HZ2.out.keep (hba.block _ hs2)); have hsa : w.heap.size + 1 < wa.heap.size := Nat.lt_of_lt_of_le hs2 hba.size))
  go_split_ands
  go_wp2_with fail
  refine (withRecord_any key lp val ls A l.length c l ⟨st, 0, ⟨#[]⟩⟩ wa rfl hcap h99 (HI0.out.l.upto (by assumption)) HRK.out).mono ?_
  rintro e wb ⟨A2, c2, rfl, hr2, hnew, hbb⟩
  have HR2 := Lib.hid hr2
  have HN2 := Lib.hid hnew
  obtain ⟨z0, z1, z2, z3, z4, u0, u1, u2, u3, u4⟩ := zero_facts (HZa.out.keep (hbb.block _ hsa))
  have hbw : Below w.heap.size w wb := below_next (by assumption) hbb
  clear hr2 hnew
  go_wp2
  refine bodyPost_ret (v := .tuple #[rowV key ls lp val A2 (insRec l ⟨st, 0, ⟨#[]⟩⟩).length c2, .int .i64 0]) (by simp [results, Tryz.results80, go_sem, z0, z1, z2, z3, z4]) rfl ⟨A2, c2, rfl, ?_, ⟨fun ad h => by have := HN2.out.1 ad h; omega, HN2.out.2⟩, ?_⟩
  · have e : ∀ (W : World) (p : Addr) (u : Value), (W.setCell p u).heap.size = W.heap.size := fun W p u => by simp [World.setCell]
    rw [e, e, e, e, e]
    repeat (refine RecsAt.setLow ?_ HN2.out.1 hsa _)
    exact HR2.out
  · repeat (refine below_set ?_ (by simp) _)
    exact hbw
end
end Go.Proofs.YtambkjnhfejfaacGreatDoor
