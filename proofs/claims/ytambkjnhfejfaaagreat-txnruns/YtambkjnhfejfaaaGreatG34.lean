/-
  Contracts of functions of the program and words for memory, several texts in one: TRefMay3. Conditions: those stated with each.
-/
import Derived.Test.YtambkjnhfejfaaaGreatG11
import Derived.Test.YtambkjnhfejfaaaGreatG15
import Derived.Test.YtambkjnhfejfaaaGreatG17
import Derived.StillTailTactics
namespace Go.Proofs.YtambkjnhfejfaaaGreat
open Go.RowKit
theorem box3_new' (w : World) (v0 v1 v2 : Value) (t : TypeId) : ∃ W0, W0 = w.alloc (.cells #[v0, v1, v2] t) ∧ W0.cell? ⟨w.heap.size, 0, none⟩ = some v0 ∧ W0.cell? ⟨w.heap.size, 1, none⟩ = some v1 ∧ W0.cell? ⟨w.heap.size, 2, none⟩ = some v2 ∧
 Below w.heap.size w W0 ∧ W0.heap.size = w.heap.size + 1 :=
 ⟨_, rfl, by simp, by simp, by simp, below_alloc (Below.refl _ _) _, by simp⟩
set_option maxRecDepth 100000 in
set_option maxHeartbeats 8000000 in
theorem worldMay_any (wo : WoM) (RA : Option Addr) (n rc : Nat) (CA : Option Addr) (m cc : Nat) (w : World) (hin : WoIn w RA n rc CA m cc wo) :
 Calls Tryz.prog 15 #[woV RA n rc wo.clock CA m cc] w fun e w' => e = .returned (.bool wo.ok) ∧ Below w.heap.size w w' := by
 obtain ⟨rows, clock, cls⟩ := wo
 have e1 := hin.hn
 have e2 := hin.hm
 have hlr := hin.rows.1
 have hlc := hin.cls.1
 dsimp only at e1 e2 hlr hlc ⊢
 subst e1 e2
 obtain ⟨W0, hW, z0, z1, z2, hbW, hsW⟩ := box3_new' w (.slice RA rows.length rc) (.int .i64 clock) (.slice CA cls.length cc) 25
 have HW := Lib.hid hW
 have HB0 := Lib.hid hbW
 have HI := Lib.hid (hin.upto hbW)
 have hs0 : w.heap.size < W0.heap.size := by omega
 clear hW hbW hsW hin
 by_cases a1 : rows.length ≤ 40
 ·have d1 : decide (40 < (rows.length : Int)) = false := by simp; omega
  by_cases a2 : cls.length ≤ 5
  ·have d2 : decide (5 < (cls.length : Int)) = false := by simp; omega
   by_cases a3 : inB clock 0 1099511627376 = true
   ·obtain ⟨b3, b4⟩ := inB_true.1 a3
    go_enter Tryz.func15, Tryz.ntmps15
    go_wp2_with (go_at_call 16; refine (in_any _ _ _ _).mono ?_; rintro e w' ⟨rfl, rfl⟩)
    rw [← HW.out]
    go_loopw [3] (fun i wr => ∃ k : Nat, k ≤ rows.length ∧ i = .int .i64 k ∧ (List.range k).all (rowAtB clock rows) = true ∧ Below W0.heap.size W0 wr) (fun i _ => rows.length - (intOf i).toNat)
    case atStart => exact ⟨0, Nat.zero_le _, rfl, rfl, Below.refl _ _⟩
    case round =>
     obtain ⟨k, hk, rfl, hx, hb⟩ := hrel
     have HX := Lib.hid hx
     have HB := Lib.hid hb
     have y0 := (hb.cell (p := ⟨w.heap.size, 0, none⟩) hs0).trans z0
     have y1 := (hb.cell (p := ⟨w.heap.size, 1, none⟩) hs0).trans z1
     have y2 := (hb.cell (p := ⟨w.heap.size, 2, none⟩) hs0).trans z2
     have hsw : w.heap.size < wr.heap.size := Nat.lt_of_lt_of_le hs0 hb.size
     clear hx
     by_cases hm : k < rows.length
     ·obtain ⟨w3, rfl⟩ : ∃ w3, w3 = wr := ⟨_, rfl⟩
      have hl' := SeqAt.rows HI.out.rows (below_mem hb).1 (below_mem hb).2
      obtain ⟨b, o, hA, hbb, hr⟩ := SeqAt.at_ hl' (getD_some (d := default) hm)
      subst hA
      obtain ⟨r, hr0⟩ : ∃ r, r = rows.getD k default := ⟨_, rfl⟩
      rw [← hr0] at hr
      have c0 := hr.ck
      have c1 := hr.cs
      have c2 := hr.cp
      have c3 := hr.cv
      obtain ⟨A, q, c4, _, hri⟩ := hr.rowIn (fun _ h => h)
      have j0 : (0 : Int) ≤ (k : Int) := by omega
      have HR := Lib.hid (rowAtB_eq clock rows k r hr0)
      obtain ⟨key, ls, lp, val, recs⟩ := r
      have hrl : recs.length ≤ 4398046511104 := hri.l.len
      dsimp only at c0 c1 c2 c3 c4 hri
      obtain ⟨W1, hW1, k0, k1, k2, k3, k4, hbW1, hsW1⟩ := box_new w3 (.string key) (.int .i64 ls) (.string lp) (.string val) (.slice A recs.length q) 45
      have hs1 : w.heap.size < W1.heap.size := by omega
      have HW1 := Lib.hid hW1
      have HB1 := Lib.hid hbW1
      have HRI := Lib.hid (hri.upto hbW1)
      have z0 := (hbW1.cell (p := ⟨w.heap.size, 0, none⟩) hsw).trans y0
      have z1 := (hbW1.cell (p := ⟨w.heap.size, 1, none⟩) hsw).trans y1
      have hsz1 : w3.heap.size < W1.heap.size := by omega
      clear hr0 hr hri hb hW1 hsW1 hbW1
      by_cases t1 : rowB key ls lp val recs = true
      ·by_cases t2 : clock < ls
       ·have d2 : decide (clock < ls) = true := by simpa using t2
        have HT := Lib.hid (show rowAtB clock rows k = false by rw [HR.out, upTo_def]; simp; omega)
        clear hl'
        go_wp2
        rw [← HW1.out]
        refine wp_region_held_drew (S := fun w' => (w'.cell? ⟨w.heap.size, 0, none⟩ = some (.slice (some ⟨b, o, none⟩) rows.length rc)) ∧ (w'.cell? ⟨w.heap.size, 1, none⟩ = some (.int .i64 clock)) ∧ w'.cell? ⟨w3.heap.size, 0, none⟩ = some (.string key) ∧ w'.cell? ⟨w3.heap.size, 1, none⟩ = some (.int .i64 ls) ∧ w'.cell? ⟨w3.heap.size, 2, none⟩ = some (.string lp) ∧ w'.cell? ⟨w3.heap.size, 3, none⟩ = some (.string val) ∧ w'.cell? ⟨w3.heap.size, 4, none⟩ = some (.slice A recs.length q) ∧ Below W1.heap.size W1 w') (by kernel_rfl) ?_ (fun hHeld => ?_)
        ·exact ⟨(((below_drew (Below.refl _ _))).cell (p := ⟨w.heap.size, 0, none⟩) hs1).trans z0, (((below_drew (Below.refl _ _))).cell (p := ⟨w.heap.size, 1, none⟩) hs1).trans z1, boxS k0 k1 k2 k3 k4 (below_drew (Below.refl _ _))⟩
        refine tq 0 ?_
        (refine cop 1 (h := fun K hK => ?_); go_simp)
        refine (rowMay_any key lp val ls A recs recs.length q _ rfl (HRI.out.l.upto (below_drew (Below.refl _ _))) HRI.out.k HRI.out.p HRI.out.v).mono ?_
        rw [t1]
        rintro e w1 ⟨rfl, hb1⟩
        have hq1 : Below W1.heap.size W1 w1 := below_next (below_drew (Below.refl _ _)) hb1
        (refine hK.out _ _ ?_ (fun hHeld => ?_); exact ⟨((hq1).cell (p := ⟨w.heap.size, 0, none⟩) hs1).trans z0, ((hq1).cell (p := ⟨w.heap.size, 1, none⟩) hs1).trans z1, boxS k0 k1 k2 k3 k4 hq1⟩; clear hK K; (try simp only [Act.put, List.setIfInBounds_toArray, List.set_cons_zero, List.set_cons_succ]))
        refine tq 2 ?_
        refine tq 3 ?_
        refine tq 4 ?_
        refine tq 5 ?_
        refine tq 6 ?_
        refine tq 7 ?_
        refine tq 8 ?_
        refine tq 9 ?_
        refine tq 10 ?_
        refine tq 11 ?_
        refine tq 12 ?_
        refine tq 13 ?_
        refine tq 14 ?_
        refine tq 15 ?_
        refine tq 16 ?_
        refine tq 17 ?_
        refine tq 18 ?_
        refine tq 19 ?_
        refine tq 20 ?_
        refine tq 21 ?_
        refine tq 22 ?_
        refine tq 23 ?_
        refine tq 24 ?_
        refine tq 25 ?_
        refine tq 26 ?_
        refine wpAnyH_done (by kernel_rfl) ?_ _
        go_wp2
        go_ret
        exact ⟨ret_bool (by simp [WoM.ok, rowsB, all_range_false (hm : k < rows.length) HT.out]), below_next HB0.out (below_next (below_next HB.out HB1.out) hq1)⟩
       ·have d2 : decide (clock < ls) = false := by simpa using t2
        by_cases hk0 : k = 0
        ·have zz : decide (0 < (k : Int)) = false := by simp; omega
         have zz' : decide (0 < k) = false := by simp; omega
         have HK0 := Lib.hid hk0
         clear hk0 hl'
         go_wp2
         rw [← HW1.out]
         refine wp_region_held_drew (S := fun w' => (w'.cell? ⟨w.heap.size, 0, none⟩ = some (.slice (some ⟨b, o, none⟩) rows.length rc)) ∧ (w'.cell? ⟨w.heap.size, 1, none⟩ = some (.int .i64 clock)) ∧ w'.cell? ⟨w3.heap.size, 0, none⟩ = some (.string key) ∧ w'.cell? ⟨w3.heap.size, 1, none⟩ = some (.int .i64 ls) ∧ w'.cell? ⟨w3.heap.size, 2, none⟩ = some (.string lp) ∧ w'.cell? ⟨w3.heap.size, 3, none⟩ = some (.string val) ∧ w'.cell? ⟨w3.heap.size, 4, none⟩ = some (.slice A recs.length q) ∧ Below W1.heap.size W1 w') (by kernel_rfl) ?_ (fun hHeld => ?_)
         ·exact ⟨(((below_drew (Below.refl _ _))).cell (p := ⟨w.heap.size, 0, none⟩) hs1).trans z0, (((below_drew (Below.refl _ _))).cell (p := ⟨w.heap.size, 1, none⟩) hs1).trans z1, boxS k0 k1 k2 k3 k4 (below_drew (Below.refl _ _))⟩
         refine tq 0 ?_
         (refine cop 1 (h := fun K hK => ?_); go_simp)
         refine (rowMay_any key lp val ls A recs recs.length q _ rfl (HRI.out.l.upto (below_drew (Below.refl _ _))) HRI.out.k HRI.out.p HRI.out.v).mono ?_
         rw [t1]
         rintro e w1 ⟨rfl, hb1⟩
         have hq1 : Below W1.heap.size W1 w1 := below_next (below_drew (Below.refl _ _)) hb1
         (refine hK.out _ _ ?_ (fun hHeld => ?_); exact ⟨((hq1).cell (p := ⟨w.heap.size, 0, none⟩) hs1).trans z0, ((hq1).cell (p := ⟨w.heap.size, 1, none⟩) hs1).trans z1, boxS k0 k1 k2 k3 k4 hq1⟩; clear hK K; (try simp only [Act.put, List.setIfInBounds_toArray, List.set_cons_zero, List.set_cons_succ]))
         refine tq 2 ?_
         refine tq 3 ?_
         refine tq 4 ?_
         refine tq 5 ?_
         refine tq 6 ?_
         refine tq 7 ?_
         refine tq 8 ?_
         refine tq 9 ?_
         refine tq 10 ?_
         refine tq 11 ?_
         refine tq 12 ?_
         refine tq 13 ?_
         refine tq 14 ?_
         refine tq 15 ?_
         refine tq 16 ?_
         refine tq 17 ?_
         refine tq 18 ?_
         refine tq 19 ?_
         refine tq 20 ?_
         refine tq 21 ?_
         refine tq 22 ?_
         refine tq 23 ?_
         refine tq 24 ?_
         refine tq 25 ?_
         refine tq 26 ?_
         refine wpAnyH_done (by kernel_rfl) ?_ _
         go_wp2
         have g4 := (boxS k0 k1 k2 k3 k4 hq1).2.2.2.2.1
         have HQ1 := Lib.hid hq1
         clear hq1 hb1
         go_loopw [5] (fun i wr => ∃ j : Nat, j ≤ recs.length ∧ i = .int .i64 j ∧ (recs.take j).all (notAfter clock) = true ∧ Below W1.heap.size W1 wr) (fun i _ => recs.length - (intOf i).toNat)
         case atStart => exact ⟨0, Nat.zero_le _, rfl, rfl, HQ1.out⟩
         case round =>
          clear g4
          obtain ⟨j, hj, rfl, hx, hb⟩ := hrel
          have HX2 := Lib.hid hx
          have HB2 := Lib.hid hb
          have g4 := (boxS k0 k1 k2 k3 k4 hb).2.2.2.2.1
          have y1 := (hb.cell (p := ⟨w.heap.size, 1, none⟩) hs1).trans z1
          clear hx
          by_cases hmj : j < recs.length
          ·obtain ⟨b2, o2, hA2, hbb2, hr2⟩ := (HRI.out.l.upto hb).at_ (getD_of hmj)
           subst hA2
           obtain ⟨x, hx0⟩ : ∃ x, x = recs.getD j default := ⟨_, rfl⟩
           rw [← hx0] at hr2
           obtain ⟨c0, c1, c2⟩ := hr2
           have HR2 := Lib.hid hx0
           clear hx0 hb
           obtain ⟨xs, xc, xv⟩ := x
           dsimp only at c0 c1 c2
           have i0 : (0 : Int) ≤ (j : Int) := by omega
           by_cases h1 : clock < xs
           ·have HT := Lib.hid (show recs.all (notAfter clock) = false from all_false_at (d := default) hmj (by rw [← HR2.out]; simp [notAfter]; omega))
            have d1 : decide (clock < xs) = true := by simpa using h1
            go_wp2
            go_quiet (fail)
            go_wp2
            go_ret
            exact ⟨ret_bool (by simp [WoM.ok, rowsB, all_range_false (show k < rows.length from hm) (show rowAtB clock rows (k) = false by rw [HR.out, upTo_def, HT.out]; simp)]), below_next HB0.out (below_next (below_next HB.out HB1.out) (below_drewN HB2.out _))⟩
           ·have d1 : decide (clock < xs) = false := by simpa using h1
            by_cases h2 : clock < xc
            ·have HT := Lib.hid (show recs.all (notAfter clock) = false from all_false_at (d := default) hmj (by rw [← HR2.out]; simp [notAfter]; omega))
             have d2 : decide (clock < xc) = true := by simpa using h2
             go_wp2
             go_quiet (fail)
             go_wp2
             go_ret
             exact ⟨ret_bool (by simp [WoM.ok, rowsB, all_range_false (show k < rows.length from hm) (show rowAtB clock rows (k) = false by rw [HR.out, upTo_def, HT.out]; simp)]), below_next HB0.out (below_next (below_next HB.out HB1.out) (below_drewN HB2.out _))⟩
            ·have d2 : decide (clock < xc) = false := by simpa using h2
             go_wp2
             go_quiet (fail)
             go_wp2
             go_roundw
             case rel => exact ⟨j + 1, by omega, by go_num, take_all_snoc (d := default) hmj HX2.out (by rw [← HR2.out]; simp [notAfter]; omega), below_drewN HB2.out _⟩
             case measure => simp [intOf]; omega
          ·have hje : j = recs.length := by omega
           subst hje
           clear hb
           go_wp2
           go_roundw
           case rel =>
            have hall : recs.all (notAfter clock) = true := by have := HX2.out; rwa [List.take_length] at this
            exact ⟨k + 1, by omega, by go_num, all_range_succ HX.out (by rw [HR.out]; rw [upTo_def, hall]; simp [RowM.ok, t1, HK0.out]; omega), below_next (below_next HB.out HB1.out) HB2.out⟩
           case measure => simp [intOf]; omega
        ·obtain ⟨m, rfl⟩ : ∃ m, k = m + 1 := ⟨k - 1, by omega⟩
         obtain ⟨b', o', hA', _, hp⟩ := SeqAt.at_ hl' (getD_some (d := default) (show m < rows.length by omega))
         obtain ⟨rfl, rfl⟩ : b = b' ∧ o = o' := by injection hA' with e; injection e with e1 e2; exact ⟨e1, e2⟩
         obtain ⟨p, hp0⟩ : ∃ p, p = rows.getD m default := ⟨_, rfl⟩
         rw [← hp0] at hp
         have p0 : W1.cell? ⟨b, o + m * 5, none⟩ = some (.string p.key) := (HB1.out.cell (p := ⟨b, o + m * 5, none⟩) hbb).trans hp.ck
         have hbb' : b < W1.heap.size := by omega
         obtain ⟨pk, hpk⟩ : ∃ pk, pk = p.key := ⟨_, rfl⟩
         rw [← hpk] at p0
         have HP := Lib.hid (show pk = (rows.getD m default).key from hpk.trans (congrArg RowM.key hp0))
         have j1 : (0 : Int) ≤ (m : Int) := by omega
         have j2 : (m : Int) < (rows.length : Int) := by omega
         have j3 : IntKind.i64.wrap (m : Int) = (m : Int) := IntWalk.i64_in _ (by omega)
         have hle := leS_eq key pk
         clear hp hp0 hA' hpk hl'
         by_cases t4 : ltS pk key = true
         ·have T4 := Lib.hid t4
          rw [t4] at hle
          clear t4
          go_wp2
          rw [← HW1.out]
          refine wp_region_held_drew (S := fun w' => (w'.cell? ⟨b, o + m * 5, none⟩ = some (.string pk)) ∧ (w'.cell? ⟨w.heap.size, 0, none⟩ = some (.slice (some ⟨b, o, none⟩) rows.length rc)) ∧ (w'.cell? ⟨w.heap.size, 1, none⟩ = some (.int .i64 clock)) ∧ w'.cell? ⟨w3.heap.size, 0, none⟩ = some (.string key) ∧ w'.cell? ⟨w3.heap.size, 1, none⟩ = some (.int .i64 ls) ∧ w'.cell? ⟨w3.heap.size, 2, none⟩ = some (.string lp) ∧ w'.cell? ⟨w3.heap.size, 3, none⟩ = some (.string val) ∧ w'.cell? ⟨w3.heap.size, 4, none⟩ = some (.slice A recs.length q) ∧ Below W1.heap.size W1 w') (by kernel_rfl) ?_ (fun hHeld => ?_)
          ·exact ⟨(((below_drew (Below.refl _ _))).cell (p := ⟨b, o + m * 5, none⟩) hbb').trans p0, (((below_drew (Below.refl _ _))).cell (p := ⟨w.heap.size, 0, none⟩) hs1).trans z0, (((below_drew (Below.refl _ _))).cell (p := ⟨w.heap.size, 1, none⟩) hs1).trans z1, boxS k0 k1 k2 k3 k4 (below_drew (Below.refl _ _))⟩
          refine tq 0 ?_
          (refine cop 1 (h := fun K hK => ?_); go_simp)
          refine (rowMay_any key lp val ls A recs recs.length q _ rfl (HRI.out.l.upto (below_drew (Below.refl _ _))) HRI.out.k HRI.out.p HRI.out.v).mono ?_
          rw [t1]
          rintro e w1 ⟨rfl, hb1⟩
          have hq1 : Below W1.heap.size W1 w1 := below_next (below_drew (Below.refl _ _)) hb1
          (refine hK.out _ _ ?_ (fun hHeld => ?_); exact ⟨((hq1).cell (p := ⟨b, o + m * 5, none⟩) hbb').trans p0, ((hq1).cell (p := ⟨w.heap.size, 0, none⟩) hs1).trans z0, ((hq1).cell (p := ⟨w.heap.size, 1, none⟩) hs1).trans z1, boxS k0 k1 k2 k3 k4 hq1⟩; clear hK K; (try simp only [Act.put, List.setIfInBounds_toArray, List.set_cons_zero, List.set_cons_succ]))
          refine tq 2 ?_
          refine tq 3 ?_
          refine tq 4 ?_
          refine tq 5 ?_
          refine tq 6 ?_
          refine tq 7 ?_
          refine tq 8 ?_
          refine tq 9 ?_
          refine tq 10 ?_
          refine tq 11 ?_
          refine tq 12 ?_
          refine tq 13 ?_
          refine tq 14 ?_
          refine tq 15 ?_
          refine tq 16 ?_
          refine tq 17 ?_
          refine tq 18 ?_
          refine tq 19 ?_
          refine tq 20 ?_
          refine tq 21 ?_
          refine tq 22 ?_
          refine tq 23 ?_
          refine tq 24 ?_
          refine tq 25 ?_
          refine tq 26 ?_
          refine wpAnyH_done (by kernel_rfl) ?_ _
          go_wp2
          have g4 := (boxS k0 k1 k2 k3 k4 hq1).2.2.2.2.1
          have HQ1 := Lib.hid hq1
          clear hq1 hb1
          go_loopw [5] (fun i wr => ∃ j : Nat, j ≤ recs.length ∧ i = .int .i64 j ∧ (recs.take j).all (notAfter clock) = true ∧ Below W1.heap.size W1 wr) (fun i _ => recs.length - (intOf i).toNat)
          case atStart => exact ⟨0, Nat.zero_le _, rfl, rfl, HQ1.out⟩
          case round =>
           clear g4
           obtain ⟨j, hj, rfl, hx, hb⟩ := hrel
           have HX2 := Lib.hid hx
           have HB2 := Lib.hid hb
           have g4 := (boxS k0 k1 k2 k3 k4 hb).2.2.2.2.1
           have y1 := (hb.cell (p := ⟨w.heap.size, 1, none⟩) hs1).trans z1
           clear hx
           by_cases hmj : j < recs.length
           ·obtain ⟨b2, o2, hA2, hbb2, hr2⟩ := (HRI.out.l.upto hb).at_ (getD_of hmj)
            subst hA2
            obtain ⟨x, hx0⟩ : ∃ x, x = recs.getD j default := ⟨_, rfl⟩
            rw [← hx0] at hr2
            obtain ⟨c0, c1, c2⟩ := hr2
            have HR2 := Lib.hid hx0
            clear hx0 hb
            obtain ⟨xs, xc, xv⟩ := x
            dsimp only at c0 c1 c2
            have i0 : (0 : Int) ≤ (j : Int) := by omega
            by_cases h1 : clock < xs
            ·have HT := Lib.hid (show recs.all (notAfter clock) = false from all_false_at (d := default) hmj (by rw [← HR2.out]; simp [notAfter]; omega))
             have d1 : decide (clock < xs) = true := by simpa using h1
             go_wp2
             go_quiet (fail)
             go_wp2
             go_ret
             exact ⟨ret_bool (by simp [WoM.ok, rowsB, all_range_false (show m + 1 < rows.length from hm) (show rowAtB clock rows (m + 1) = false by rw [HR.out, upTo_def, HT.out]; simp)]), below_next HB0.out (below_next (below_next HB.out HB1.out) (below_drewN HB2.out _))⟩
            ·have d1 : decide (clock < xs) = false := by simpa using h1
             by_cases h2 : clock < xc
             ·have HT := Lib.hid (show recs.all (notAfter clock) = false from all_false_at (d := default) hmj (by rw [← HR2.out]; simp [notAfter]; omega))
              have d2 : decide (clock < xc) = true := by simpa using h2
              go_wp2
              go_quiet (fail)
              go_wp2
              go_ret
              exact ⟨ret_bool (by simp [WoM.ok, rowsB, all_range_false (show m + 1 < rows.length from hm) (show rowAtB clock rows (m + 1) = false by rw [HR.out, upTo_def, HT.out]; simp)]), below_next HB0.out (below_next (below_next HB.out HB1.out) (below_drewN HB2.out _))⟩
             ·have d2 : decide (clock < xc) = false := by simpa using h2
              go_wp2
              go_quiet (fail)
              go_wp2
              go_roundw
              case rel => exact ⟨j + 1, by omega, by go_num, take_all_snoc (d := default) hmj HX2.out (by rw [← HR2.out]; simp [notAfter]; omega), below_drewN HB2.out _⟩
              case measure => simp [intOf]; omega
           ·have hje : j = recs.length := by omega
            subst hje
            clear hb
            go_wp2
            go_roundw
            case rel =>
             have hall : recs.all (notAfter clock) = true := by have := HX2.out; rwa [List.take_length] at this
             exact ⟨m + 1 + 1, by omega, by go_num, all_range_succ HX.out (by rw [HR.out]; rw [upTo_def, hall]; simp only [Nat.add_sub_cancel, ← HP.out]; simp [RowM.ok, t1, T4.out]; omega), below_next (below_next HB.out HB1.out) HB2.out⟩
            case measure => simp [intOf]; omega
         ·have t4 : ltS pk key = false := by simpa using t4
          rw [t4] at hle
          have HT := Lib.hid (show rowAtB clock rows (m + 1) = false by rw [HR.out]; simp only [Nat.add_sub_cancel, ← HP.out]; simp [t4])
          clear t4
          go_wp2
          rw [← HW1.out]
          refine wp_region_held_drew (S := fun w' => (w'.cell? ⟨b, o + m * 5, none⟩ = some (.string pk)) ∧ (w'.cell? ⟨w.heap.size, 0, none⟩ = some (.slice (some ⟨b, o, none⟩) rows.length rc)) ∧ (w'.cell? ⟨w.heap.size, 1, none⟩ = some (.int .i64 clock)) ∧ w'.cell? ⟨w3.heap.size, 0, none⟩ = some (.string key) ∧ w'.cell? ⟨w3.heap.size, 1, none⟩ = some (.int .i64 ls) ∧ w'.cell? ⟨w3.heap.size, 2, none⟩ = some (.string lp) ∧ w'.cell? ⟨w3.heap.size, 3, none⟩ = some (.string val) ∧ w'.cell? ⟨w3.heap.size, 4, none⟩ = some (.slice A recs.length q) ∧ Below W1.heap.size W1 w') (by kernel_rfl) ?_ (fun hHeld => ?_)
          ·exact ⟨(((below_drew (Below.refl _ _))).cell (p := ⟨b, o + m * 5, none⟩) hbb').trans p0, (((below_drew (Below.refl _ _))).cell (p := ⟨w.heap.size, 0, none⟩) hs1).trans z0, (((below_drew (Below.refl _ _))).cell (p := ⟨w.heap.size, 1, none⟩) hs1).trans z1, boxS k0 k1 k2 k3 k4 (below_drew (Below.refl _ _))⟩
          refine tq 0 ?_
          (refine cop 1 (h := fun K hK => ?_); go_simp)
          refine (rowMay_any key lp val ls A recs recs.length q _ rfl (HRI.out.l.upto (below_drew (Below.refl _ _))) HRI.out.k HRI.out.p HRI.out.v).mono ?_
          rw [t1]
          rintro e w1 ⟨rfl, hb1⟩
          have hq1 : Below W1.heap.size W1 w1 := below_next (below_drew (Below.refl _ _)) hb1
          (refine hK.out _ _ ?_ (fun hHeld => ?_); exact ⟨((hq1).cell (p := ⟨b, o + m * 5, none⟩) hbb').trans p0, ((hq1).cell (p := ⟨w.heap.size, 0, none⟩) hs1).trans z0, ((hq1).cell (p := ⟨w.heap.size, 1, none⟩) hs1).trans z1, boxS k0 k1 k2 k3 k4 hq1⟩; clear hK K; (try simp only [Act.put, List.setIfInBounds_toArray, List.set_cons_zero, List.set_cons_succ]))
          refine tq 2 ?_
          refine tq 3 ?_
          refine tq 4 ?_
          refine tq 5 ?_
          refine tq 6 ?_
          refine tq 7 ?_
          refine tq 8 ?_
          refine tq 9 ?_
          refine tq 10 ?_
          refine tq 11 ?_
          refine tq 12 ?_
          refine tq 13 ?_
          refine tq 14 ?_
          refine tq 15 ?_
          refine tq 16 ?_
          refine tq 17 ?_
          refine tq 18 ?_
          refine tq 19 ?_
          refine tq 20 ?_
          refine tq 21 ?_
          refine tq 22 ?_
          refine tq 23 ?_
          refine tq 24 ?_
          refine tq 25 ?_
          refine tq 26 ?_
          refine wpAnyH_done (by kernel_rfl) ?_ _
          go_wp2
          go_ret
          exact ⟨ret_bool (by simp [WoM.ok, rowsB, all_range_false (hm : m + 1 < rows.length) HT.out]), below_next HB0.out (below_next (below_next HB.out HB1.out) hq1)⟩
      ·have t1 : rowB key ls lp val recs = false := by simpa using t1
       have HT := Lib.hid (show rowAtB clock rows k = false by rw [HR.out]; simp [t1, RowM.ok])
       clear hl'
       go_wp2
       rw [← HW1.out]
       refine wp_region_held_drew (S := fun w' => (w'.cell? ⟨w.heap.size, 0, none⟩ = some (.slice (some ⟨b, o, none⟩) rows.length rc)) ∧ (w'.cell? ⟨w.heap.size, 1, none⟩ = some (.int .i64 clock)) ∧ w'.cell? ⟨w3.heap.size, 0, none⟩ = some (.string key) ∧ w'.cell? ⟨w3.heap.size, 1, none⟩ = some (.int .i64 ls) ∧ w'.cell? ⟨w3.heap.size, 2, none⟩ = some (.string lp) ∧ w'.cell? ⟨w3.heap.size, 3, none⟩ = some (.string val) ∧ w'.cell? ⟨w3.heap.size, 4, none⟩ = some (.slice A recs.length q) ∧ Below W1.heap.size W1 w') (by kernel_rfl) ?_ (fun hHeld => ?_)
       ·exact ⟨(((below_drew (Below.refl _ _))).cell (p := ⟨w.heap.size, 0, none⟩) hs1).trans z0, (((below_drew (Below.refl _ _))).cell (p := ⟨w.heap.size, 1, none⟩) hs1).trans z1, boxS k0 k1 k2 k3 k4 (below_drew (Below.refl _ _))⟩
       refine tq 0 ?_
       (refine cop 1 (h := fun K hK => ?_); go_simp)
       refine (rowMay_any key lp val ls A recs recs.length q _ rfl (HRI.out.l.upto (below_drew (Below.refl _ _))) HRI.out.k HRI.out.p HRI.out.v).mono ?_
       rw [t1]
       rintro e w1 ⟨rfl, hb1⟩
       have hq1 : Below W1.heap.size W1 w1 := below_next (below_drew (Below.refl _ _)) hb1
       (refine hK.out _ _ ?_ (fun hHeld => ?_); exact ⟨((hq1).cell (p := ⟨w.heap.size, 0, none⟩) hs1).trans z0, ((hq1).cell (p := ⟨w.heap.size, 1, none⟩) hs1).trans z1, boxS k0 k1 k2 k3 k4 hq1⟩; clear hK K; (try simp only [Act.put, List.setIfInBounds_toArray, List.set_cons_zero, List.set_cons_succ]))
       refine tq 2 ?_
       refine tq 3 ?_
       refine tq 4 ?_
       refine tq 5 ?_
       refine tq 6 ?_
       refine tq 7 ?_
       refine tq 8 ?_
       refine tq 9 ?_
       refine tq 10 ?_
       refine tq 11 ?_
       refine tq 12 ?_
       refine tq 13 ?_
       refine tq 14 ?_
       refine tq 15 ?_
       refine tq 16 ?_
       refine tq 17 ?_
       refine tq 18 ?_
       refine tq 19 ?_
       refine tq 20 ?_
       refine tq 21 ?_
       refine tq 22 ?_
       refine tq 23 ?_
       refine tq 24 ?_
       refine tq 25 ?_
       refine tq 26 ?_
       refine wpAnyH_done (by kernel_rfl) ?_ _
       go_wp2
       go_ret
       exact ⟨ret_bool (by simp [WoM.ok, rowsB, all_range_false (hm : k < rows.length) HT.out]), below_next HB0.out (below_next (below_next HB.out HB1.out) hq1)⟩
     ·have hke : k = rows.length := by omega
      subst hke
      clear hb
      go_wp2
      obtain ⟨w3, rfl⟩ : ∃ w3, w3 = wr := ⟨_, rfl⟩
      go_loopw [6] (fun i wr => ∃ k : Nat, k ≤ cls.length ∧ i = .int .i64 k ∧ (List.range k).all (fun i => clB clock (cls.getD i default)) = true ∧ Below W0.heap.size W0 wr) (fun i _ => cls.length - (intOf i).toNat)
      case atStart => exact ⟨0, Nat.zero_le _, rfl, rfl, HB.out⟩
      case round =>
       clear y0 y1 y2
       obtain ⟨k, hk, rfl, hx, hb⟩ := hrel
       have HXC := Lib.hid hx
       have HBC := Lib.hid hb
       have y1 := (hb.cell (p := ⟨w.heap.size, 1, none⟩) hs0).trans z1
       have y2 := (hb.cell (p := ⟨w.heap.size, 2, none⟩) hs0).trans z2
       clear hx
       by_cases hmc : k < cls.length
       ·obtain ⟨b, o, hA, hbb, hr⟩ := SeqAt.at_ (SeqAt.cls HI.out.cls (below_mem hb).1 (below_mem hb).2) (getD_some (d := default) hmc)
        subst hA
        obtain ⟨r, hr0⟩ : ∃ r, r = cls.getD k default := ⟨_, rfl⟩
        rw [← hr0] at hr
        have c0 := hr.cp
        have c1 := hr.cs
        have c2 := hr.cm
        obtain ⟨A, q, c3, _, hri⟩ := hr.cw
        have c4 := hr.ca
        have HR := Lib.hid hr0
        have HRI := Lib.hid (show WrsAt wr.drew (· < wr.drew.heap.size) A r.ws from SeqAt.wrs hri (fun _ h => h) (fun _ _ _ => rfl))
        obtain ⟨ph, st, cm, ws, at_⟩ := r
        dsimp only at c0 c1 c2 c3 c4
        have i0 : (0 : Int) ≤ (k : Int) := by omega
        clear hr hr0 hri hb
        by_cases t1 : clB clock ⟨ph, st, cm, ws, at_⟩ = true
        ·go_wp2
         go_still_tail 7, (by kernel_rfl)
         go_wp2_with fail
         refine (clientMay_any ⟨ph, st, cm, ws, at_⟩ clock A ws.length q wr.drew rfl HRI.out b3 b4).mono ?_
         rw [t1]
         rintro e w1 ⟨rfl, hb1⟩
         have HB1 := Lib.hid (show Below wr.heap.size wr w1 from (Below.drew (Below.refl _ _)).trans hb1)
         clear hb1
         go_wp2
         go_roundw
         case rel => exact ⟨k + 1, by omega, by go_num, all_range_succ HXC.out (by rw [← HR.out]; exact t1), below_next HBC.out HB1.out⟩
         case measure => simp [intOf]; omega
        ·have t1 : clB clock ⟨ph, st, cm, ws, at_⟩ = false := by simpa using t1
         go_wp2
         go_still_tail 7, (by kernel_rfl)
         go_wp2_with fail
         refine (clientMay_any ⟨ph, st, cm, ws, at_⟩ clock A ws.length q wr.drew rfl HRI.out b3 b4).mono ?_
         rw [t1]
         rintro e w1 ⟨rfl, hb1⟩
         have HB1 := Lib.hid (show Below wr.heap.size wr w1 from (Below.drew (Below.refl _ _)).trans hb1)
         clear hb1
         go_wp2
         go_ret
         refine ⟨ret_bool ?_, below_next HB0.out (below_next HBC.out HB1.out)⟩
         have e : clsB clock cls = false := by
          rw [clsB, all_range_false (f := fun i => clB clock (cls.getD i default)) hmc (by rw [← HR.out]; exact t1)]; simp
         simp [WoM.ok, e]
       ·have hke : k = cls.length := by omega
        subst hke
        clear hb
        go_wp2
        go_ret
        refine ⟨ret_bool ?_, below_next HB0.out HBC.out⟩
        have e1 : rowsB clock rows = true := by rw [rowsB, HX.out]; simp; omega
        have e2 : clsB clock cls = true := by rw [clsB, HXC.out]; simp; omega
        simp [WoM.ok, e1, e2, b3, b4]
   ·have a3 : inB clock 0 1099511627376 = false := by simpa using a3
    have b3 := inB_false.1 a3
    go_enter Tryz.func15, Tryz.ntmps15
    go_wp2_with (go_at_call 16; refine (in_any _ _ _ _).mono ?_; rintro e w' ⟨rfl, rfl⟩)
    rw [← HW.out]
    go_ret
    exact ⟨ret_bool (by simp [WoM.ok]; omega), HB0.out⟩
  ·have d2 : decide (5 < (cls.length : Int)) = true := by simp; omega
   go_enter Tryz.func15, Tryz.ntmps15
   go_wp2_with (go_at_call 16; refine (in_any _ _ _ _).mono ?_; rintro e w' ⟨rfl, rfl⟩)
   rw [← HW.out]
   go_ret
   exact ⟨ret_bool (by simp [WoM.ok, clsB, a2]), HB0.out⟩
 ·have d1 : decide (40 < (rows.length : Int)) = true := by simp; omega
  go_enter Tryz.func15, Tryz.ntmps15
  go_wp2_with (go_at_call 16; refine (in_any _ _ _ _).mono ?_; rintro e w' ⟨rfl, rfl⟩)
  rw [← HW.out]
  go_ret
  exact ⟨ret_bool (by simp [WoM.ok, rowsB, a1]), HB0.out⟩
end Go.Proofs.YtambkjnhfejfaaaGreat
