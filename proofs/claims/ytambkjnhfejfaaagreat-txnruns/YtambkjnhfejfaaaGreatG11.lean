/-
  Contracts of functions of the program and words for memory, several texts in one: TCheck3. Conditions: those stated with each.
-/
import Derived.Test.YtambkjnhfejfaaaGreatG06
import Derived.Test.YtambkjnhfejfaaaGreatG10
namespace Go.Proofs.YtambkjnhfejfaaaGreat
open Go.RowKit
theorem rowAtB_eq (clock : Int) (l : List RowM) (k : Nat) (r : RowM) (h : r = l.getD k default) : rowAtB clock l k = (r.ok && (k == 0 || ltS (l.getD (k - 1) default).key r.key) && r.upTo clock) := by
 unfold rowAtB; rw [← h]
set_option maxHeartbeats 4000000 in
theorem validRows_any (l : List RowM) (clock : Int) (A : Option Addr) (n c : Nat) (w : World) (hn : n = l.length) (hl : RowsAt w (· < w.heap.size) A l) :
 Calls Tryz.prog 44 #[.slice A n c, .int .i64 clock] w fun e w' => e = .returned (.bool (rowsB clock l)) ∧ Below w.heap.size w w' := by
 subst hn
 have hlen := hl.1
 have HL := Lib.hid hl
 clear hl
 by_cases h6 : l.length ≤ 40
 ·have d6 : decide (40 < (l.length : Int)) = false := by simp; omega
  go_enter Tryz.func44, Tryz.ntmps44
  go_wp2
  go_loopw [12] (fun i wr => ∃ k : Nat, k ≤ l.length ∧ i = .int .i64 k ∧ (List.range k).all (rowAtB clock l) = true ∧ Below w.heap.size w wr) (fun i _ => l.length - (intOf i).toNat)
  case atStart => exact ⟨0, Nat.zero_le _, rfl, rfl, Below.refl _ _⟩
  case round =>
   obtain ⟨k, hk, rfl, hx, hb⟩ := hrel
   have HX := Lib.hid hx
   have HB := Lib.hid hb
   clear hx
   by_cases hm : k < l.length
   ·have hl' := SeqAt.rows HL.out (below_mem hb).1 (below_mem hb).2
    obtain ⟨b, o, rfl, hbb, hr⟩ := SeqAt.at_ hl' (getD_some (d := default) hm)
    obtain ⟨r, hr0⟩ : ∃ r, r = l.getD k default := ⟨_, rfl⟩
    rw [← hr0] at hr
    have c0 := hr.ck
    have c1 := hr.cs
    have c2 := hr.cp
    have c3 := hr.cv
    obtain ⟨A, q, c4, _, hri⟩ := hr.rowIn (fun _ h => h)
    have j0 : (0 : Int) ≤ (k : Int) := by omega
    have HR := Lib.hid (rowAtB_eq clock l k r hr0)
    obtain ⟨key, ls, lp, val, recs⟩ := r
    dsimp only at c0 c1 c2 c3 c4 hri
    obtain ⟨W0, hW, k0, k1, k2, k3, k4, hbW, hsW⟩ := box_new wr (.string key) (.int .i64 ls) (.string lp) (.string val) (.slice A recs.length q) 45
    have hsz : wr.heap.size < W0.heap.size := by omega
    have HW := Lib.hid hW
    have HBW := Lib.hid hbW
    have HRI := Lib.hid (hri.upto hbW)
    clear hr0 hr hri hb hW hsW
    by_cases t1 : rowB key ls lp val recs = true
    ·by_cases hk0 : k = 0
     ·have z0 : decide (0 < (k : Int)) = false := by simp; omega
      have z0' : decide (0 < k) = false := by simp; omega
      have HK0 := Lib.hid hk0
      clear hk0 hl'
      by_cases t3 : RowM.upTo ⟨key, ls, lp, val, recs⟩ clock = true
      ·have HT := Lib.hid (show rowAtB clock l k = true by rw [HR.out]; simp [t1, t3, RowM.ok, HK0.out])
       go_wp2
       rw [← HW.out]
       refine wp_region_held_drew (S := fun w' => w'.cell? ⟨wr.heap.size, 0, none⟩ = some (.string key) ∧ w'.cell? ⟨wr.heap.size, 1, none⟩ = some (.int .i64 ls) ∧ w'.cell? ⟨wr.heap.size, 2, none⟩ = some (.string lp) ∧ w'.cell? ⟨wr.heap.size, 3, none⟩ = some (.string val) ∧ w'.cell? ⟨wr.heap.size, 4, none⟩ = some (.slice A recs.length q) ∧ Below W0.heap.size W0 w') (by kernel_rfl) ?_ (fun hHeld => ?_)
       ·exact boxS k0 k1 k2 k3 k4 (below_drew (Below.refl _ _))
       refine tq 0 ?_
       (refine cop 1 (h := fun K hK => ?_); go_simp)
       refine (check_ok key lp val ls A recs recs.length q _ rfl (HRI.out.l.upto (below_drew (Below.refl _ _))) HRI.out.k HRI.out.p HRI.out.v t1).mono ?_
       rintro e w1 ⟨rfl, hb1⟩
       have hq1 : Below W0.heap.size W0 w1 := below_next (below_drew (Below.refl _ _)) hb1
       (refine hK.out _ _ ?_ (fun hHeld => ?_); exact boxS k0 k1 k2 k3 k4 hq1; clear hK K; (try simp only [Act.put, List.setIfInBounds_toArray, List.set_cons_zero, List.set_cons_succ]))
       refine tq 2 ?_
       refine tq 3 ?_
       refine tq 4 ?_
       refine tq 5 ?_
       refine tq 6 ?_
       refine tq 7 ?_
       refine tq 8 ?_
       refine tq 9 ?_
       refine tq 10 ?_
       refine tq 11 ?_
       refine tq 12 ?_
       refine tq 13 ?_
       refine tq 14 ?_
       refine tq 15 ?_
       refine tq 16 ?_
       refine tq 17 ?_
       refine tq 18 ?_
       refine tq 19 ?_
       refine tq 20 ?_
       (refine cop 21 (h := fun K hK => ?_); go_simp)
       refine (upTo_any ⟨key, ls, lp, val, recs⟩ clock A recs.length q _ rfl (HRI.out.l.upto hq1)).mono ?_
       rw [t3]
       rintro e w2 ⟨rfl, hb2⟩
       have hq2 : Below W0.heap.size W0 w2 := below_next hq1 hb2
       (refine hK.out _ _ ?_ (fun hHeld => ?_); exact boxS k0 k1 k2 k3 k4 hq2; clear hK K; (try simp only [Act.put, List.setIfInBounds_toArray, List.set_cons_zero, List.set_cons_succ]))
       refine tq 22 ?_
       refine tq 23 ?_
       refine wpAnyH_done (by kernel_rfl) ?_ _
       go_wp2
       go_roundw
       case rel => exact ⟨k + 1, by omega, by go_num, all_range_succ HX.out HT.out, below_next (below_next HB.out HBW.out) hq2⟩
       case measure => simp [intOf]; omega
      ·have t3 : RowM.upTo ⟨key, ls, lp, val, recs⟩ clock = false := by simpa using t3
       have HT := Lib.hid (show rowAtB clock l k = false by rw [HR.out]; simp [t3])
       go_wp2
       rw [← HW.out]
       refine wp_region_held_drew (S := fun w' => w'.cell? ⟨wr.heap.size, 0, none⟩ = some (.string key) ∧ w'.cell? ⟨wr.heap.size, 1, none⟩ = some (.int .i64 ls) ∧ w'.cell? ⟨wr.heap.size, 2, none⟩ = some (.string lp) ∧ w'.cell? ⟨wr.heap.size, 3, none⟩ = some (.string val) ∧ w'.cell? ⟨wr.heap.size, 4, none⟩ = some (.slice A recs.length q) ∧ Below W0.heap.size W0 w') (by kernel_rfl) ?_ (fun hHeld => ?_)
       ·exact boxS k0 k1 k2 k3 k4 (below_drew (Below.refl _ _))
       refine tq 0 ?_
       (refine cop 1 (h := fun K hK => ?_); go_simp)
       refine (check_ok key lp val ls A recs recs.length q _ rfl (HRI.out.l.upto (below_drew (Below.refl _ _))) HRI.out.k HRI.out.p HRI.out.v t1).mono ?_
       rintro e w1 ⟨rfl, hb1⟩
       have hq1 : Below W0.heap.size W0 w1 := below_next (below_drew (Below.refl _ _)) hb1
       (refine hK.out _ _ ?_ (fun hHeld => ?_); exact boxS k0 k1 k2 k3 k4 hq1; clear hK K; (try simp only [Act.put, List.setIfInBounds_toArray, List.set_cons_zero, List.set_cons_succ]))
       refine tq 2 ?_
       refine tq 3 ?_
       refine tq 4 ?_
       refine tq 5 ?_
       refine tq 6 ?_
       refine tq 7 ?_
       refine tq 8 ?_
       refine tq 9 ?_
       refine tq 10 ?_
       refine tq 11 ?_
       refine tq 12 ?_
       refine tq 13 ?_
       refine tq 14 ?_
       refine tq 15 ?_
       refine tq 16 ?_
       refine tq 17 ?_
       refine tq 18 ?_
       refine tq 19 ?_
       refine tq 20 ?_
       (refine cop 21 (h := fun K hK => ?_); go_simp)
       refine (upTo_any ⟨key, ls, lp, val, recs⟩ clock A recs.length q _ rfl (HRI.out.l.upto hq1)).mono ?_
       rw [t3]
       rintro e w2 ⟨rfl, hb2⟩
       have hq2 : Below W0.heap.size W0 w2 := below_next hq1 hb2
       (refine hK.out _ _ ?_ (fun hHeld => ?_); exact boxS k0 k1 k2 k3 k4 hq2; clear hK K; (try simp only [Act.put, List.setIfInBounds_toArray, List.set_cons_zero, List.set_cons_succ]))
       refine tq 22 ?_
       refine tq 23 ?_
       refine wpAnyH_done (by kernel_rfl) ?_ _
       go_wp2
       go_ret
       exact ⟨ret_bool (by simp [rowsB, all_range_false hm HT.out]), below_next (below_next HB.out HBW.out) hq2⟩
     ·obtain ⟨m, rfl⟩ : ∃ m, k = m + 1 := ⟨k - 1, by omega⟩
      obtain ⟨b', o', hA', _, hp⟩ := SeqAt.at_ hl' (getD_some (d := default) (show m < l.length by omega))
      obtain ⟨rfl, rfl⟩ : b = b' ∧ o = o' := by injection hA' with e; injection e with e1 e2; exact ⟨e1, e2⟩
      obtain ⟨p, hp0⟩ : ∃ p, p = l.getD m default := ⟨_, rfl⟩
      rw [← hp0] at hp
      have p0 : W0.cell? ⟨b, o + m * 5, none⟩ = some (.string p.key) := (hbW.cell (p := ⟨b, o + m * 5, none⟩) hbb).trans hp.ck
      have hbb' : b < W0.heap.size := by omega
      obtain ⟨pk, hpk⟩ : ∃ pk, pk = p.key := ⟨_, rfl⟩
      rw [← hpk] at p0
      have HP := Lib.hid (show pk = (l.getD m default).key from hpk.trans (congrArg RowM.key hp0))
      have j1 : (0 : Int) ≤ (m : Int) := by omega
      have j2 : (m : Int) < (l.length : Int) := by omega
      have j3 : IntKind.i64.wrap (m : Int) = (m : Int) := IntWalk.i64_in _ (by omega)
      clear hp hp0 hA' hpk hl'
      by_cases t2 : ltS pk key = true
      ·have t2'' : Op.bytesLess pk.toList key.toList = true := t2
       by_cases t3 : RowM.upTo ⟨key, ls, lp, val, recs⟩ clock = true
       ·have HT := Lib.hid (show rowAtB clock l (m + 1) = true by rw [HR.out]; simp only [Nat.add_sub_cancel, ← HP.out]; simp [t1, t2, t3, RowM.ok])
        clear t2
        go_wp2
        rw [← HW.out]
        refine wp_region_held_drew (S := fun w' => (w'.cell? ⟨b, o + m * 5, none⟩ = some (.string pk)) ∧ w'.cell? ⟨wr.heap.size, 0, none⟩ = some (.string key) ∧ w'.cell? ⟨wr.heap.size, 1, none⟩ = some (.int .i64 ls) ∧ w'.cell? ⟨wr.heap.size, 2, none⟩ = some (.string lp) ∧ w'.cell? ⟨wr.heap.size, 3, none⟩ = some (.string val) ∧ w'.cell? ⟨wr.heap.size, 4, none⟩ = some (.slice A recs.length q) ∧ Below W0.heap.size W0 w') (by kernel_rfl) ?_ (fun hHeld => ?_)
        ·exact ⟨(((below_drew (Below.refl _ _))).cell (p := ⟨b, o + m * 5, none⟩) hbb').trans p0, boxS k0 k1 k2 k3 k4 (below_drew (Below.refl _ _))⟩
        refine tq 0 ?_
        (refine cop 1 (h := fun K hK => ?_); go_simp)
        refine (check_ok key lp val ls A recs recs.length q _ rfl (HRI.out.l.upto (below_drew (Below.refl _ _))) HRI.out.k HRI.out.p HRI.out.v t1).mono ?_
        rintro e w1 ⟨rfl, hb1⟩
        have hq1 : Below W0.heap.size W0 w1 := below_next (below_drew (Below.refl _ _)) hb1
        (refine hK.out _ _ ?_ (fun hHeld => ?_); exact ⟨((hq1).cell (p := ⟨b, o + m * 5, none⟩) hbb').trans p0, boxS k0 k1 k2 k3 k4 hq1⟩; clear hK K; (try simp only [Act.put, List.setIfInBounds_toArray, List.set_cons_zero, List.set_cons_succ]))
        refine tq 2 ?_
        refine tq 3 ?_
        refine tq 4 ?_
        refine tq 5 ?_
        refine tq 6 ?_
        refine tq 7 ?_
        refine tq 8 ?_
        refine tq 9 ?_
        refine tq 10 ?_
        refine tq 11 ?_
        refine tq 12 ?_
        refine tq 13 ?_
        refine tq 14 ?_
        refine tq 15 ?_
        refine tq 16 ?_
        refine tq 17 ?_
        refine tq 18 ?_
        refine tq 19 ?_
        refine tq 20 ?_
        (refine cop 21 (h := fun K hK => ?_); go_simp)
        refine (upTo_any ⟨key, ls, lp, val, recs⟩ clock A recs.length q _ rfl (HRI.out.l.upto hq1)).mono ?_
        rw [t3]
        rintro e w2 ⟨rfl, hb2⟩
        have hq2 : Below W0.heap.size W0 w2 := below_next hq1 hb2
        (refine hK.out _ _ ?_ (fun hHeld => ?_); exact ⟨((hq2).cell (p := ⟨b, o + m * 5, none⟩) hbb').trans p0, boxS k0 k1 k2 k3 k4 hq2⟩; clear hK K; (try simp only [Act.put, List.setIfInBounds_toArray, List.set_cons_zero, List.set_cons_succ]))
        refine tq 22 ?_
        refine tq 23 ?_
        refine wpAnyH_done (by kernel_rfl) ?_ _
        go_wp2
        go_roundw
        case rel => exact ⟨m + 1 + 1, by omega, by go_num, all_range_succ HX.out HT.out, below_next (below_next HB.out HBW.out) hq2⟩
        case measure => simp [intOf]; omega
       ·have t3 : RowM.upTo ⟨key, ls, lp, val, recs⟩ clock = false := by simpa using t3
        have HT := Lib.hid (show rowAtB clock l (m + 1) = false by rw [HR.out]; simp [t3])
        clear t2
        go_wp2
        rw [← HW.out]
        refine wp_region_held_drew (S := fun w' => (w'.cell? ⟨b, o + m * 5, none⟩ = some (.string pk)) ∧ w'.cell? ⟨wr.heap.size, 0, none⟩ = some (.string key) ∧ w'.cell? ⟨wr.heap.size, 1, none⟩ = some (.int .i64 ls) ∧ w'.cell? ⟨wr.heap.size, 2, none⟩ = some (.string lp) ∧ w'.cell? ⟨wr.heap.size, 3, none⟩ = some (.string val) ∧ w'.cell? ⟨wr.heap.size, 4, none⟩ = some (.slice A recs.length q) ∧ Below W0.heap.size W0 w') (by kernel_rfl) ?_ (fun hHeld => ?_)
        ·exact ⟨(((below_drew (Below.refl _ _))).cell (p := ⟨b, o + m * 5, none⟩) hbb').trans p0, boxS k0 k1 k2 k3 k4 (below_drew (Below.refl _ _))⟩
        refine tq 0 ?_
        (refine cop 1 (h := fun K hK => ?_); go_simp)
        refine (check_ok key lp val ls A recs recs.length q _ rfl (HRI.out.l.upto (below_drew (Below.refl _ _))) HRI.out.k HRI.out.p HRI.out.v t1).mono ?_
        rintro e w1 ⟨rfl, hb1⟩
        have hq1 : Below W0.heap.size W0 w1 := below_next (below_drew (Below.refl _ _)) hb1
        (refine hK.out _ _ ?_ (fun hHeld => ?_); exact ⟨((hq1).cell (p := ⟨b, o + m * 5, none⟩) hbb').trans p0, boxS k0 k1 k2 k3 k4 hq1⟩; clear hK K; (try simp only [Act.put, List.setIfInBounds_toArray, List.set_cons_zero, List.set_cons_succ]))
        refine tq 2 ?_
        refine tq 3 ?_
        refine tq 4 ?_
        refine tq 5 ?_
        refine tq 6 ?_
        refine tq 7 ?_
        refine tq 8 ?_
        refine tq 9 ?_
        refine tq 10 ?_
        refine tq 11 ?_
        refine tq 12 ?_
        refine tq 13 ?_
        refine tq 14 ?_
        refine tq 15 ?_
        refine tq 16 ?_
        refine tq 17 ?_
        refine tq 18 ?_
        refine tq 19 ?_
        refine tq 20 ?_
        (refine cop 21 (h := fun K hK => ?_); go_simp)
        refine (upTo_any ⟨key, ls, lp, val, recs⟩ clock A recs.length q _ rfl (HRI.out.l.upto hq1)).mono ?_
        rw [t3]
        rintro e w2 ⟨rfl, hb2⟩
        have hq2 : Below W0.heap.size W0 w2 := below_next hq1 hb2
        (refine hK.out _ _ ?_ (fun hHeld => ?_); exact ⟨((hq2).cell (p := ⟨b, o + m * 5, none⟩) hbb').trans p0, boxS k0 k1 k2 k3 k4 hq2⟩; clear hK K; (try simp only [Act.put, List.setIfInBounds_toArray, List.set_cons_zero, List.set_cons_succ]))
        refine tq 22 ?_
        refine tq 23 ?_
        refine wpAnyH_done (by kernel_rfl) ?_ _
        go_wp2
        go_ret
        exact ⟨ret_bool (by simp [rowsB, all_range_false hm HT.out]), below_next (below_next HB.out HBW.out) hq2⟩
      ·have t2 : ltS pk key = false := by simpa using t2
       have t2'' : Op.bytesLess pk.toList key.toList = false := t2
       have HT := Lib.hid (show rowAtB clock l (m + 1) = false by rw [HR.out]; simp only [Nat.add_sub_cancel, ← HP.out]; simp [t2])
       clear t2
       go_wp2
       rw [← HW.out]
       refine wp_region_held_drew (S := fun w' => (w'.cell? ⟨b, o + m * 5, none⟩ = some (.string pk)) ∧ w'.cell? ⟨wr.heap.size, 0, none⟩ = some (.string key) ∧ w'.cell? ⟨wr.heap.size, 1, none⟩ = some (.int .i64 ls) ∧ w'.cell? ⟨wr.heap.size, 2, none⟩ = some (.string lp) ∧ w'.cell? ⟨wr.heap.size, 3, none⟩ = some (.string val) ∧ w'.cell? ⟨wr.heap.size, 4, none⟩ = some (.slice A recs.length q) ∧ Below W0.heap.size W0 w') (by kernel_rfl) ?_ (fun hHeld => ?_)
       ·exact ⟨(((below_drew (Below.refl _ _))).cell (p := ⟨b, o + m * 5, none⟩) hbb').trans p0, boxS k0 k1 k2 k3 k4 (below_drew (Below.refl _ _))⟩
       refine tq 0 ?_
       (refine cop 1 (h := fun K hK => ?_); go_simp)
       refine (check_ok key lp val ls A recs recs.length q _ rfl (HRI.out.l.upto (below_drew (Below.refl _ _))) HRI.out.k HRI.out.p HRI.out.v t1).mono ?_
       rintro e w1 ⟨rfl, hb1⟩
       have hq1 : Below W0.heap.size W0 w1 := below_next (below_drew (Below.refl _ _)) hb1
       (refine hK.out _ _ ?_ (fun hHeld => ?_); exact ⟨((hq1).cell (p := ⟨b, o + m * 5, none⟩) hbb').trans p0, boxS k0 k1 k2 k3 k4 hq1⟩; clear hK K; (try simp only [Act.put, List.setIfInBounds_toArray, List.set_cons_zero, List.set_cons_succ]))
       refine tq 2 ?_
       refine tq 3 ?_
       refine tq 4 ?_
       refine tq 5 ?_
       refine tq 6 ?_
       refine tq 7 ?_
       refine tq 8 ?_
       refine tq 9 ?_
       refine tq 10 ?_
       refine tq 11 ?_
       refine tq 12 ?_
       refine tq 13 ?_
       refine tq 14 ?_
       refine tq 15 ?_
       refine tq 16 ?_
       refine tq 17 ?_
       refine tq 18 ?_
       refine tq 19 ?_
       refine tq 20 ?_
       refine tq 21 ?_
       refine tq 22 ?_
       refine tq 23 ?_
       refine wpAnyH_done (by kernel_rfl) ?_ _
       go_wp2
       go_ret
       exact ⟨ret_bool (by simp [rowsB, all_range_false hm HT.out]), below_next (below_next HB.out HBW.out) hq1⟩
    ·have t1 : rowB key ls lp val recs = false := by simpa using t1
     have HT := Lib.hid (show rowAtB clock l k = false by rw [HR.out]; simp [t1, RowM.ok])
     clear hl'
     go_wp2
     rw [← HW.out]
     refine wp_region_held_drew (S := fun w' => w'.cell? ⟨wr.heap.size, 0, none⟩ = some (.string key) ∧ w'.cell? ⟨wr.heap.size, 1, none⟩ = some (.int .i64 ls) ∧ w'.cell? ⟨wr.heap.size, 2, none⟩ = some (.string lp) ∧ w'.cell? ⟨wr.heap.size, 3, none⟩ = some (.string val) ∧ w'.cell? ⟨wr.heap.size, 4, none⟩ = some (.slice A recs.length q) ∧ Below W0.heap.size W0 w') (by kernel_rfl) ?_ (fun hHeld => ?_)
     ·exact boxS k0 k1 k2 k3 k4 (below_drew (Below.refl _ _))
     refine tq 0 ?_
     (refine cop 1 (h := fun K hK => ?_); go_simp)
     refine (check_bad key lp val ls A recs recs.length q _ rfl (HRI.out.l.upto (below_drew (Below.refl _ _))) HRI.out.k HRI.out.p HRI.out.v t1).mono ?_
     rintro e w1 ⟨rfl, hb1⟩
     have hq1 : Below W0.heap.size W0 w1 := below_next (below_drew (Below.refl _ _)) hb1
     (refine hK.out _ _ ?_ (fun hHeld => ?_); exact boxS k0 k1 k2 k3 k4 hq1; clear hK K; (try simp only [Act.put, List.setIfInBounds_toArray, List.set_cons_zero, List.set_cons_succ]))
     refine tq 2 ?_
     refine tq 3 ?_
     refine tq 4 ?_
     refine tq 5 ?_
     refine tq 6 ?_
     refine tq 7 ?_
     refine tq 8 ?_
     refine tq 9 ?_
     refine tq 10 ?_
     refine tq 11 ?_
     refine tq 12 ?_
     refine tq 13 ?_
     refine tq 14 ?_
     refine tq 15 ?_
     refine tq 16 ?_
     refine tq 17 ?_
     refine tq 18 ?_
     refine tq 19 ?_
     refine tq 20 ?_
     refine tq 21 ?_
     refine tq 22 ?_
     refine tq 23 ?_
     refine wpAnyH_done (by kernel_rfl) ?_ _
     go_wp2
     go_ret
     exact ⟨ret_bool (by simp [rowsB, all_range_false hm HT.out]), below_next (below_next HB.out HBW.out) hq1⟩
   ·have hke : k = l.length := by omega
    subst hke
    clear hb
    go_wp2
    go_ret
    exact ⟨ret_bool (by simp only [rowsB, HX.out]; simp; omega), HB.out⟩
 ·have d6 : decide (40 < (l.length : Int)) = true := by simp; omega
  go_enter Tryz.func44, Tryz.ntmps44
  go_wp2
  go_ret
  exact ⟨ret_bool (by simp [rowsB, h6]), Below.refl _ _⟩
end Go.Proofs.YtambkjnhfejfaaaGreat
