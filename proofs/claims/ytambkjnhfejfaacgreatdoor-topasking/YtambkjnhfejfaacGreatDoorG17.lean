/-
  Contracts of functions of the program and words for memory, several texts in one: Commit. Conditions: those stated with each.
-/
import Derived.Test.YtambkjnhfejfaacGreatDoorG13
namespace Go.Proofs.YtambkjnhfejfaacGreatDoor
open Go.RowKit
set_option linter.unusedVariables false

section
variable (key lp val : ByteArray) (ls : Int) (A : Option Addr) (n c : Nat) (l : List RecM) (st cm : Int) (w : World)

set_option maxHeartbeats 2000000 in
theorem commit_state (hi : RowIn w key lp val A n l) (t : rowB key ls lp val l = false) :
    Calls Tryz.prog 78 #[rowV key ls lp val A n c, .int .i64 st, .int .i64 cm] w (RowOut2 ⟨#[]⟩ 0 ⟨#[]⟩ ⟨#[]⟩ [] 6 w) := by
  obtain ⟨W0, hW, k0, k1, k2, k3, k4, hz, hbW, hsW⟩ := box2_new w (.string key) (.int .i64 ls) (.string lp) (.string val) (.slice A n c)
  have HW := Lib.hid hW
  have HI0 := Lib.hid hi
  have HI := Lib.hid (hi.upto hbW)
  have HZ := Lib.hid hz
  have hlen := hi.l.len
  have hsz : w.heap.size + 1 < W0.heap.size := by omega
  clear hW hi hz hsW
  go_enter Tryz.func78, Tryz.ntmps78
  go_wp2_with fail
  rw [← HW.out]
  refine (checkAt_state key lp val ls A n c l st W0 HI.out t).mono ?_
  rintro e w1 ⟨rfl, hb1⟩
  obtain ⟨g0, g1, g2, g3, g4, _⟩ := boxS k0 k1 k2 k3 k4 hb1
  obtain ⟨z0, z1, z2, z3, z4, u0, u1, u2, u3, u4⟩ := zero_facts (HZ.out.keep (hb1.block _ hsz))
  go_wp2
  refine bodyPost_ret (v := .tuple #[rowV ⟨#[]⟩ 0 ⟨#[]⟩ ⟨#[]⟩ none 0 0, .int .i64 6]) (by simp [results, Tryz.results78, go_sem, z0, z1, z2, z3, z4]) rfl ⟨none, 0, rfl, RecsAt.nil_ _ _ _, ⟨newAt_none _, Nat.le_refl _⟩, ?_⟩
  have hbw : Below w.heap.size w w1 := below_next hbW hb1
  repeat (refine below_set ?_ (by simp) _)
  first | exact hbw | exact below_alloc hbw _

set_option maxHeartbeats 2000000 in
theorem commit_range (hi : RowIn w key lp val A n l) (t : rowB key ls lp val l = true) (t2 : inB st 1 1099511627776 = false) :
    Calls Tryz.prog 78 #[rowV key ls lp val A n c, .int .i64 st, .int .i64 cm] w (RowOut2 ⟨#[]⟩ 0 ⟨#[]⟩ ⟨#[]⟩ [] 2 w) := by
  obtain ⟨W0, hW, k0, k1, k2, k3, k4, hz, hbW, hsW⟩ := box2_new w (.string key) (.int .i64 ls) (.string lp) (.string val) (.slice A n c)
  have HW := Lib.hid hW
  have HI0 := Lib.hid hi
  have HI := Lib.hid (hi.upto hbW)
  have HZ := Lib.hid hz
  have hlen := hi.l.len
  have hsz : w.heap.size + 1 < W0.heap.size := by omega
  clear hW hi hz hsW
  go_enter Tryz.func78, Tryz.ntmps78
  go_wp2_with fail
  rw [← HW.out]
  refine (checkAt_range key lp val ls A n c l st W0 HI.out t t2).mono ?_
  rintro e w1 ⟨rfl, hb1⟩
  obtain ⟨g0, g1, g2, g3, g4, _⟩ := boxS k0 k1 k2 k3 k4 hb1
  obtain ⟨z0, z1, z2, z3, z4, u0, u1, u2, u3, u4⟩ := zero_facts (HZ.out.keep (hb1.block _ hsz))
  go_wp2
  refine bodyPost_ret (v := .tuple #[rowV ⟨#[]⟩ 0 ⟨#[]⟩ ⟨#[]⟩ none 0 0, .int .i64 2]) (by simp [results, Tryz.results78, go_sem, z0, z1, z2, z3, z4]) rfl ⟨none, 0, rfl, RecsAt.nil_ _ _ _, ⟨newAt_none _, Nat.le_refl _⟩, ?_⟩
  have hbw : Below w.heap.size w w1 := below_next hbW hb1
  repeat (refine below_set ?_ (by simp) _)
  first | exact hbw | exact below_alloc hbw _

set_option maxHeartbeats 2000000 in
theorem commit_when (hi : RowIn w key lp val A n l) (t : rowB key ls lp val l = true) (t2 : inB st 1 1099511627776 = true) (t3 : inB cm (st + 1) 1099511627776 = false) :
    Calls Tryz.prog 78 #[rowV key ls lp val A n c, .int .i64 st, .int .i64 cm] w (RowOut2 ⟨#[]⟩ 0 ⟨#[]⟩ ⟨#[]⟩ [] 2 w) := by
  obtain ⟨W0, hW, k0, k1, k2, k3, k4, hz, hbW, hsW⟩ := box2_new w (.string key) (.int .i64 ls) (.string lp) (.string val) (.slice A n c)
  have HW := Lib.hid hW
  have HI0 := Lib.hid hi
  have HI := Lib.hid (hi.upto hbW)
  have HZ := Lib.hid hz
  have hlen := hi.l.len
  have hsz : w.heap.size + 1 < W0.heap.size := by omega
  clear hW hi hz hsW
  have t3' := inB_false.1 t3
  by_cases q : cm ≤ st
  all_goals
    try (have q2 : 1099511627776 < cm := by omega)
    clear t3'
    go_enter Tryz.func78, Tryz.ntmps78
    go_wp2_with fail
    rw [← HW.out]
    refine (checkAt_ok key lp val ls A n c l st W0 HI.out t t2).mono ?_
    rintro e w1 ⟨rfl, hb1⟩
    obtain ⟨g0, g1, g2, g3, g4, _⟩ := boxS k0 k1 k2 k3 k4 hb1
    obtain ⟨z0, z1, z2, z3, z4, u0, u1, u2, u3, u4⟩ := zero_facts (HZ.out.keep (hb1.block _ hsz))
    go_wp2
    refine bodyPost_ret (v := .tuple #[rowV ⟨#[]⟩ 0 ⟨#[]⟩ ⟨#[]⟩ none 0 0, .int .i64 2]) (by simp [results, Tryz.results78, go_sem, z0, z1, z2, z3, z4]) rfl ⟨none, 0, rfl, RecsAt.nil_ _ _ _, ⟨newAt_none _, Nat.le_refl _⟩, ?_⟩
    have hbw : Below w.heap.size w w1 := below_next hbW hb1
    repeat (refine below_set ?_ (by simp) _)
    first | exact hbw | exact below_alloc hbw _

set_option maxHeartbeats 2000000 in
theorem commit_gone (hi : RowIn w key lp val A n l) (t : rowB key ls lp val l = true) (t2 : inB st 1 1099511627776 = true) (t3 : inB cm (st + 1) 1099511627776 = true) (t4 : (stOf ls st l == 3) = true) :
    Calls Tryz.prog 78 #[rowV key ls lp val A n c, .int .i64 st, .int .i64 cm] w (RowOut2 ⟨#[]⟩ 0 ⟨#[]⟩ ⟨#[]⟩ [] 9 w) := by
  obtain ⟨W0, hW, k0, k1, k2, k3, k4, hz, hbW, hsW⟩ := box2_new w (.string key) (.int .i64 ls) (.string lp) (.string val) (.slice A n c)
  have HW := Lib.hid hW
  have HI0 := Lib.hid hi
  have HI := Lib.hid (hi.upto hbW)
  have HZ := Lib.hid hz
  have hlen := hi.l.len
  have hsz : w.heap.size + 1 < W0.heap.size := by omega
  clear hW hi hz hsW
  obtain ⟨p1, p2⟩ := inB_true.1 t3
  have h1 : 1 ≤ st := (inB_true.1 t2).1
  have p3 : ¬ cm ≤ st := by omega
  have p4 : ¬ 1099511627776 < cm := by omega
  clear p1 t3
  go_enter Tryz.func78, Tryz.ntmps78
  go_wp2_with fail
  rw [← HW.out]
  refine (checkAt_ok key lp val ls A n c l st W0 HI.out t t2).mono ?_
  rintro e w1 ⟨rfl, hb1⟩
  obtain ⟨g0, g1, g2, g3, g4, _⟩ := boxS k0 k1 k2 k3 k4 hb1
  go_wp2_with fail
  refine (statusOf_any key lp val ls A n c l st w1 (HI.out.upto hb1) t h1).mono ?_
  rintro e w2 ⟨rfl, hb2⟩
  have hb12 : Below W0.heap.size W0 w2 := below_next hb1 hb2
  obtain ⟨z0, z1, z2, z3, z4, u0, u1, u2, u3, u4⟩ := zero_facts (HZ.out.keep (hb12.block _ hsz))
  go_wp2
  refine bodyPost_ret (v := .tuple #[rowV ⟨#[]⟩ 0 ⟨#[]⟩ ⟨#[]⟩ none 0 0, .int .i64 9]) (by simp [results, Tryz.results78, go_sem, z0, z1, z2, z3, z4]) rfl ⟨none, 0, rfl, RecsAt.nil_ _ _ _, ⟨newAt_none _, Nat.le_refl _⟩, ?_⟩
  have hbw : Below w.heap.size w w2 := below_next hbW hb12
  repeat (refine below_set ?_ (by simp) _)
  first | exact hbw | exact below_alloc hbw _

set_option maxHeartbeats 2000000 in
theorem commit_none (hi : RowIn w key lp val A n l) (t : rowB key ls lp val l = true) (t2 : inB st 1 1099511627776 = true) (t3 : inB cm (st + 1) 1099511627776 = true) (t4 : (stOf ls st l == 3) = false) (t5 : (stOf ls st l == 1) = false) :
    Calls Tryz.prog 78 #[rowV key ls lp val A n c, .int .i64 st, .int .i64 cm] w (RowOut2 ⟨#[]⟩ 0 ⟨#[]⟩ ⟨#[]⟩ [] 5 w) := by
  obtain ⟨W0, hW, k0, k1, k2, k3, k4, hz, hbW, hsW⟩ := box2_new w (.string key) (.int .i64 ls) (.string lp) (.string val) (.slice A n c)
  have HW := Lib.hid hW
  have HI0 := Lib.hid hi
  have HI := Lib.hid (hi.upto hbW)
  have HZ := Lib.hid hz
  have hlen := hi.l.len
  have hsz : w.heap.size + 1 < W0.heap.size := by omega
  clear hW hi hz hsW
  obtain ⟨p1, p2⟩ := inB_true.1 t3
  have h1 : 1 ≤ st := (inB_true.1 t2).1
  have p3 : ¬ cm ≤ st := by omega
  have p4 : ¬ 1099511627776 < cm := by omega
  clear p1 t3
  go_enter Tryz.func78, Tryz.ntmps78
  go_wp2_with fail
  rw [← HW.out]
  refine (checkAt_ok key lp val ls A n c l st W0 HI.out t t2).mono ?_
  rintro e w1 ⟨rfl, hb1⟩
  obtain ⟨g0, g1, g2, g3, g4, _⟩ := boxS k0 k1 k2 k3 k4 hb1
  go_wp2_with fail
  refine (statusOf_any key lp val ls A n c l st w1 (HI.out.upto hb1) t h1).mono ?_
  rintro e w2 ⟨rfl, hb2⟩
  have hb12 : Below W0.heap.size W0 w2 := below_next hb1 hb2
  obtain ⟨z0, z1, z2, z3, z4, u0, u1, u2, u3, u4⟩ := zero_facts (HZ.out.keep (hb12.block _ hsz))
  go_wp2
  refine bodyPost_ret (v := .tuple #[rowV ⟨#[]⟩ 0 ⟨#[]⟩ ⟨#[]⟩ none 0 0, .int .i64 5]) (by simp [results, Tryz.results78, go_sem, z0, z1, z2, z3, z4]) rfl ⟨none, 0, rfl, RecsAt.nil_ _ _ _, ⟨newAt_none _, Nat.le_refl _⟩, ?_⟩
  have hbw : Below w.heap.size w w2 := below_next hbW hb12
  repeat (refine below_set ?_ (by simp) _)
  first | exact hbw | exact below_alloc hbw _

set_option maxHeartbeats 8000000 in
theorem commit_ok (hi : RowIn w key lp val A n l) (t : rowB key ls lp val l = true) (t2 : inB st 1 1099511627776 = true) (t3 : inB cm (st + 1) 1099511627776 = true) (t4 : (stOf ls st l == 3) = false) (t5 : (stOf ls st l == 1) = true) (hcap : n ≤ c) (h99 : n ≤ 100) :
    Calls Tryz.prog 78 #[rowV key ls lp val A n c, .int .i64 st, .int .i64 cm] w (RowOut2 key 0 ⟨#[]⟩ ⟨#[]⟩ (insRec l ⟨st, cm, val⟩) 0 w) := by
  obtain ⟨W0, hW, k0, k1, k2, k3, k4, hz, hbW, hsW⟩ := box2_new w (.string key) (.int .i64 ls) (.string lp) (.string val) (.slice A n c)
  have HW := Lib.hid hW
  have HI0 := Lib.hid hi
  have HI := Lib.hid (hi.upto hbW)
  have HZ := Lib.hid hz
  have hlen := hi.l.len
  have hsz : w.heap.size + 1 < W0.heap.size := by omega
  clear hW hi hz hsW
  have HRK := Lib.hid (show RecOk ⟨st, cm, val⟩ from ⟨by have := inB_true.1 t2; unfold i64; dsimp only; omega, by have := inB_true.1 t3; have := inB_true.1 t2; unfold i64; dsimp only; omega, HI0.out.v⟩)
  obtain ⟨p1, p2⟩ := inB_true.1 t3
  have h1 : 1 ≤ st := (inB_true.1 t2).1
  have p3 : ¬ cm ≤ st := by omega
  have p4 : ¬ 1099511627776 < cm := by omega
  clear p1 t3
  go_enter Tryz.func78, Tryz.ntmps78
  go_wp2_with fail
  rw [← HW.out]
  refine (checkAt_ok key lp val ls A n c l st W0 HI.out t t2).mono ?_
  rintro e w1 ⟨rfl, hb1⟩
  obtain ⟨g0, g1, g2, g3, g4, _⟩ := boxS k0 k1 k2 k3 k4 hb1
  go_wp2_with fail
  refine (statusOf_any key lp val ls A n c l st w1 (HI.out.upto hb1) t h1).mono ?_
  rintro e w2 ⟨rfl, hb2⟩
  have hb12 : Below W0.heap.size W0 w2 := below_next hb1 hb2
  obtain ⟨z0, z1, z2, z3, z4, u0, u1, u2, u3, u4⟩ := zero_facts (HZ.out.keep (hb12.block _ hsz))
  have HZ2 := Lib.hid (HZ.out.keep (hb12.block _ hsz))
  have hs2 : w.heap.size + 1 < w2.heap.size := by have := hb12.size; omega
  have hw2 : Below w.heap.size w w2 := below_next hbW hb12
  obtain ⟨i0, i1, i2, i3, i4, _⟩ := boxS k0 k1 k2 k3 k4 hb12
  clear z0 z1 z2 z3 z4 u0 u1 u2 u3 u4
  go_wp2_with fail
  obtain ⟨W5, hW5⟩ : ∃ W5, W5 = w2.alloc (.cells #[.int .i64 st, .int .i64 cm, .string val] 47) := ⟨_, rfl⟩
  rw [← hW5]
  have hb5 : Below w2.heap.size w2 W5 := by rw [hW5]; exact below_alloc (Below.refl _ _) _
  have hs5 : w.heap.size + 1 < W5.heap.size := by have := hb5.size; omega
  obtain ⟨j0, j1, j2, j3, j4, _⟩ := boxS i0 i1 i2 i3 i4 hb5
  have x0 : W5.cell? ⟨w2.heap.size, 0, none⟩ = some (.int .i64 st) := by rw [hW5]; simp
  have x1 : W5.cell? ⟨w2.heap.size, 1, none⟩ = some (.int .i64 cm) := by rw [hW5]; simp
  have x2 : W5.cell? ⟨w2.heap.size, 2, none⟩ = some (.string val) := by rw [hW5]; simp
  have hw5 : Below w.heap.size w W5 := below_next hw2 hb5
  have HZ5 := Lib.hid (HZ2.out.keep (hb5.block _ hs2))
  have sA : w.heap.size + 1 ≠ w.heap.size := by omega
  have sB : w.heap.size + 1 ≠ w2.heap.size := by omega
  have sC : w.heap.size ≤ w.heap.size + 1 := by omega
  have dj0 : W5.drew.cell? ⟨w.heap.size, 0, none⟩ = some (.string key) := j0
  have dj1 : W5.drew.cell? ⟨w.heap.size, 1, none⟩ = some (.int .i64 ls) := j1
  have dj2 : W5.drew.cell? ⟨w.heap.size, 2, none⟩ = some (.string lp) := j2
  have dj3 : W5.drew.cell? ⟨w.heap.size, 3, none⟩ = some (.string val) := j3
  have dj4 : W5.drew.cell? ⟨w.heap.size, 4, none⟩ = some (.slice A n c) := j4
  have dx0 : W5.drew.cell? ⟨w2.heap.size, 0, none⟩ = some (.int .i64 st) := x0
  have dx1 : W5.drew.cell? ⟨w2.heap.size, 1, none⟩ = some (.int .i64 cm) := x1
  have dx2 : W5.drew.cell? ⟨w2.heap.size, 2, none⟩ = some (.string val) := x2
  have dw5 : Below w.heap.size w W5.drew := below_drew hw5
  clear hW5
  go_region_held3 (fun w' => w'.cell? ⟨w.heap.size, 0, none⟩ = some (.string key) ∧ w'.cell? ⟨w.heap.size, 1, none⟩ = some (.int .i64 ls) ∧ w'.cell? ⟨w.heap.size, 2, none⟩ = some (.string lp) ∧ w'.cell? ⟨w.heap.size, 3, none⟩ = some (.string val) ∧ w'.cell? ⟨w.heap.size, 4, none⟩ = some (.slice A n c) ∧ w'.cell? ⟨w2.heap.size, 0, none⟩ = some (.int .i64 st) ∧ w'.cell? ⟨w2.heap.size, 1, none⟩ = some (.int .i64 cm) ∧ w'.cell? ⟨w2.heap.size, 2, none⟩ = some (.string val) ∧ Below w.heap.size w w')
    (first | with_reducible exact ⟨dj0, dj1, dj2, dj3, dj4, dx0, dx1, dx2, dw5⟩ | (go_split_ands; with_reducible exact nextS hbb ⟨by assumption, by assumption, by assumption, by assumption, by assumption, by assumption, by assumption, by assumption, by assumption⟩) | (go_split_ands; with_reducible exact nextS hba ⟨by assumption, by assumption, by assumption, by assumption, by assumption, by assumption, by assumption, by assumption, by assumption⟩) | (go_split_ands; with_reducible exact setS (p := ⟨w.heap.size + 1, 4, none⟩) sA sB sC _ (setS (p := ⟨w.heap.size + 1, 3, none⟩) sA sB sC _ (setS (p := ⟨w.heap.size + 1, 2, none⟩) sA sB sC _ (setS (p := ⟨w.heap.size + 1, 1, none⟩) sA sB sC _ (setS (p := ⟨w.heap.size + 1, 0, none⟩) sA sB sC _ ⟨by assumption, by assumption, by assumption, by assumption, by assumption, by assumption, by assumption, by assumption, by assumption⟩))))))
    (first
      | (go_at_call 91; refine (withoutLock_any _ _ _ _ _ _ _ _).mono ?_; rintro e wa ⟨rfl, hba⟩; have HZa := Lib.hid (HZ5.out.keep (hba.block _ hs5)); have hsa : w.heap.size + 1 < wa.heap.size := Nat.lt_of_lt_of_le hs5 hba.size)
      | (go_at_call 90; go_split_ands; refine (withRecord_any key ⟨#[]⟩ ⟨#[]⟩ 0 A n c l ⟨st, cm, val⟩ _ HI0.out.n hcap h99 (HI0.out.l.upto (by assumption)) HRK.out).mono ?_; rintro e wb ⟨A2, c2, rfl, hr2, hnew, hbb⟩; have HR2 := Lib.hid hr2; have HN2 := Lib.hid hnew; obtain ⟨z0, z1, z2, z3, z4, u0, u1, u2, u3, u4⟩ := zero_facts (HZa.out.keep (hbb.block _ hsa)); clear hr2 hnew))
  go_split_ands
  go_wp2
  refine bodyPost_ret (v := .tuple #[rowV key 0 ⟨#[]⟩ ⟨#[]⟩ A2 (insRec l ⟨st, cm, val⟩).length c2, .int .i64 0]) (by simp [results, Tryz.results78, go_sem, z0, z1, z2, z3, z4]) rfl ⟨A2, c2, rfl, ?_, ⟨fun ad h => by have := HN2.out.1 ad h; have := hsa; omega, HN2.out.2⟩, by assumption⟩
  have e : ∀ (W : World) (p : Addr) (u : Value), (W.setCell p u).heap.size = W.heap.size := fun W p u => by simp [World.setCell]
  rw [e, e, e, e, e]
  repeat (refine RecsAt.setLow ?_ HN2.out.1 hsa _)
  exact HR2.out
end
end Go.Proofs.YtambkjnhfejfaacGreatDoor
