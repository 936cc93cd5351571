/-
  Contract of rickyardref.ReadOf. Conditions: the row comes in as it should ('RowIn').
-/
import Derived.Test.YtambkjnhfejfaaaRefHeld
import Derived.Test.YtambkjnhfejfaaaReadPure
import Derived.Lib.SmallJoins
namespace Go.Proofs.Ytambkjnhfejfaaa
open Go.RowKit

theorem ret_readOf {v v' : ByteArray} {b b' : Bool} {k : Int} (h : v = v') (h' : b = b') : Ending.returned (.tuple #[.string v, .bool b, .int .i64 k]) = .returned (.tuple #[.string v', .bool b', .int .i64 k]) := by rw [h, h']

section
variable (key lp val : ByteArray) (ls : Int) (A : Option Addr) (n c : Nat) (l : List RecM) (st : Int) (w : World)
theorem refRead_state (hi : RowIn w key lp val A n l) (t : rowB key ls lp val l = false) :
    Calls Try.prog 20 #[rowV key ls lp val A n c, .int .i64 st] w fun e w' => e = .returned (.tuple #[.string ⟨#[]⟩, .bool false, .int .i64 6]) ∧ Below w.heap.size w w' := by
  obtain ⟨W0, hW, k0, k1, k2, k3, k4, hbW, hsW⟩ := box_new w (.string key) (.int .i64 ls) (.string lp) (.string val) (.slice A n c) 27; have HW := Lib.hid hW; have HI := Lib.hid (hi.upto hbW); have hsz : w.heap.size < W0.heap.size := (by omega); clear hW hi hsW
  go_enter Try.func20, Try.ntmps20
  go_wp2_with fail
  rw [← HW.out]
  refine (rowMay_any key lp val ls A l n c W0 HI.out.n HI.out.l HI.out.k HI.out.p HI.out.v).mono ?_
  rintro e w1 ⟨rfl, hb1⟩
  go_wp2
  go_ret3
  exact ⟨rfl, by repeat (first | with_reducible exact Below.refl _ _ | assumption | with_reducible apply below_alloc | with_reducible apply below_drew | with_reducible apply below_drewN | (with_reducible apply below_next; rotate_left; assumption))⟩
theorem refRead_range (hi : RowIn w key lp val A n l) (t : rowB key ls lp val l = true) (t2 : inB st 1 1099511627776 = false) :
    Calls Try.prog 20 #[rowV key ls lp val A n c, .int .i64 st] w fun e w' => e = .returned (.tuple #[.string ⟨#[]⟩, .bool false, .int .i64 2]) ∧ Below w.heap.size w w' := by
  obtain ⟨W0, hW, k0, k1, k2, k3, k4, hbW, hsW⟩ := box_new w (.string key) (.int .i64 ls) (.string lp) (.string val) (.slice A n c) 27; have HW := Lib.hid hW; have HI := Lib.hid (hi.upto hbW); have hsz : w.heap.size < W0.heap.size := (by omega); clear hW hi hsW
  go_enter Try.func20, Try.ntmps20
  go_wp2_with fail
  rw [← HW.out]
  refine (rowMay_any key lp val ls A l n c W0 HI.out.n HI.out.l HI.out.k HI.out.p HI.out.v).mono ?_
  rintro e w1 ⟨rfl, hb1⟩
  go_wp2_with (go_at_call 39; refine (refTime_any _ _).mono ?_; rintro e w' ⟨rfl, rfl⟩)
  go_ret3
  exact ⟨rfl, by repeat (first | with_reducible exact Below.refl _ _ | assumption | with_reducible apply below_alloc | with_reducible apply below_drew | with_reducible apply below_drewN | (with_reducible apply below_next; rotate_left; assumption))⟩
theorem refRead_busy (hi : RowIn w key lp val A n l) (t : rowB key ls lp val l = true) (t2 : inB st 1 1099511627776 = true) (t3 : inB ls 1 st = true) :
    Calls Try.prog 20 #[rowV key ls lp val A n c, .int .i64 st] w fun e w' => e = .returned (.tuple #[.string ⟨#[]⟩, .bool false, .int .i64 7]) ∧ Below w.heap.size w w' := by
  obtain ⟨W0, hW, k0, k1, k2, k3, k4, hbW, hsW⟩ := box_new w (.string key) (.int .i64 ls) (.string lp) (.string val) (.slice A n c) 27; have HW := Lib.hid hW; have HI := Lib.hid (hi.upto hbW); have hsz : w.heap.size < W0.heap.size := (by omega); clear hW hi hsW
  go_enter Try.func20, Try.ntmps20
  go_wp2_with fail
  rw [← HW.out]
  refine (rowMay_any key lp val ls A l n c W0 HI.out.n HI.out.l HI.out.k HI.out.p HI.out.v).mono ?_
  rintro e w1 ⟨rfl, hb1⟩
  obtain ⟨g0, g1, g2, g3, g4, _⟩ := boxS k0 k1 k2 k3 k4 hb1
  go_wp2_with (first | (go_at_call 39; refine (refTime_any _ _).mono ?_; rintro e w' ⟨rfl, rfl⟩) | (go_at_call 34; refine (in_any _ _ _ _).mono ?_; rintro e w' ⟨rfl, rfl⟩))
  go_ret3
  exact ⟨rfl, by repeat (first | with_reducible exact Below.refl _ _ | assumption | with_reducible apply below_alloc | with_reducible apply below_drew | with_reducible apply below_drewN | (with_reducible apply below_next; rotate_left; assumption))⟩

set_option maxHeartbeats 4000000 in
theorem refRead_ok (hi : RowIn w key lp val A n l) (t : rowB key ls lp val l = true) (t2 : inB st 1 1099511627776 = true) (t3 : inB ls 1 st = false) :
    Calls Try.prog 20 #[rowV key ls lp val A n c, .int .i64 st] w fun e w' => e = .returned (.tuple #[.string (bestOf st l).v, .bool (decide (0 < (bestOf st l).c)), .int .i64 0]) ∧ Below w.heap.size w w' := by
  have hlen := hi.l.len
  have hn := hi.n
  subst hn
  have HV := Lib.hid (recs_ok t)
  obtain ⟨W0, hW, k0, k1, k2, k3, k4, hbW, hsW⟩ := box_new w (.string key) (.int .i64 ls) (.string lp) (.string val) (.slice A l.length c) 27
  have HW := Lib.hid hW
  have HI := Lib.hid (hi.upto hbW)
  have hsz : w.heap.size < W0.heap.size := by omega
  clear hW hi hsW
  go_enter Try.func20, Try.ntmps20
  go_wp2_with fail
  rw [← HW.out]
  refine (rowMay_any key lp val ls A l l.length c W0 rfl HI.out.l HI.out.k HI.out.p HI.out.v).mono ?_
  rintro e w1 ⟨rfl, hb1⟩
  obtain ⟨g0, g1, g2, g3, g4, _⟩ := boxS k0 k1 k2 k3 k4 hb1
  have hs1 := hb1.size
  have hs0 : w.heap.size < w1.heap.size := by omega
  go_wp2_with (first | (go_at_call 39; refine (refTime_any _ _).mono ?_; rintro e w' ⟨rfl, rfl⟩) | (go_at_call 34; refine (in_any _ _ _ _).mono ?_; rintro e w' ⟨rfl, rfl⟩))
  go_loopw [8] (fun i wr => ∃ k : Nat, k ≤ l.length ∧ i = .int .i64 k ∧ Below w1.heap.size w1 wr ∧ wr.heap[w1.heap.size]? = some (.cells #[.int .i64 (bestUpto st l k).s, .int .i64 (bestUpto st l k).c, .string (bestUpto st l k).v] 56 (0, 0))) (fun i _ => l.length - (intOf i).toNat)
  case atStart => exact ⟨0, Nat.zero_le _, rfl, below_alloc (Below.refl _ _) _, heap_alloc_new _ _⟩
  case round =>
    obtain ⟨k, hk, rfl, hb, hB⟩ := hrel
    have HB := Lib.hid hb
    have HBB := Lib.hid hB
    have hwr : Below w.heap.size w wr := by repeat (first | with_reducible exact Below.refl _ _ | assumption | with_reducible apply below_alloc | with_reducible apply below_drew | with_reducible apply below_drewN | (with_reducible apply below_next; rotate_left; assumption))
    have HWR := Lib.hid hwr
    have r4 : wr.cell? ⟨w.heap.size, 4, none⟩ = some (.slice A l.length c) := (hb.cell (p := ⟨w.heap.size, 4, none⟩) hs0).trans g4
    obtain ⟨bs, hbs⟩ : ∃ x, x = (bestUpto st l k).s := ⟨_, rfl⟩
    obtain ⟨bc, hbc⟩ : ∃ x, x = (bestUpto st l k).c := ⟨_, rfl⟩
    obtain ⟨bv, hbv⟩ : ∃ x, x = (bestUpto st l k).v := ⟨_, rfl⟩
    rw [← hbs, ← hbc, ← hbv] at hB
    have b0 : wr.cell? ⟨w1.heap.size, 0, none⟩ = some (.int .i64 bs) := by rw [Joins.cell_of_block hB]; rfl
    have b1 : wr.cell? ⟨w1.heap.size, 1, none⟩ = some (.int .i64 bc) := by rw [Joins.cell_of_block hB]; rfl
    have b2 : wr.cell? ⟨w1.heap.size, 2, none⟩ = some (.string bv) := by rw [Joins.cell_of_block hB]; rfl
    have f0 : wr.frozen? ⟨w1.heap.size, 0, none⟩ = false := Joins.unfrozen_of_block hB _
    have f1 : wr.frozen? ⟨w1.heap.size, 1, none⟩ = false := Joins.unfrozen_of_block hB _
    have f2 : wr.frozen? ⟨w1.heap.size, 2, none⟩ = false := Joins.unfrozen_of_block hB _
    have HS := Lib.hid hbs
    have HC := Lib.hid hbc
    have HVV := Lib.hid hbv
    have hsr : w1.heap.size < wr.heap.size := World.block_lt_of_cell? wr _ b0
    have HB1 := Lib.hid hB
    clear hb hB hbs hbc hbv hwr k0 k1 k2 k3 k4 g0 g1 g2 g3
    by_cases hm : k < l.length
    · have hu := best_step HV.out st hm
      have HU := Lib.hid hu
      obtain ⟨b, o, rfl, hbb, hr⟩ := (HI.out.l.upto (below_next hb1 HB.out)).at_ (getD_of hm)
      obtain ⟨r, hr0⟩ : ∃ r, r = l.getD k default := ⟨_, rfl⟩
      rw [← hr0] at hr
      obtain ⟨c0, c1, c2⟩ := hr
      have HR := Lib.hid hr0
      obtain ⟨rs, rc, rv⟩ := r
      rw [← hr0, ← HC.out] at hu
      simp only at hu
      clear hr0
      have j0 : (0 : Int) ≤ (k : Int) := by omega
      by_cases q1 : rc ≤ st
      · have q1' : decide (rc ≤ st) = true := by simpa using q1
        by_cases q2 : bc < rc
        · have q2' : decide (bc < rc) = true := by simpa using q2
          have hup : upTo st (l.getD k default) = true := by rw [← HR.out, ← hu, q1', q2']; rfl
          have HUP := Lib.hid hup
          clear hu hup
          go_wp2
          go_quiet (fail)
          go_wp2
          go_roundw
          case rel => exact ⟨k + 1, by omega, by go_num, (((below_drewN HB.out _).setCell (Nat.le_refl _) _).setCell (Nat.le_refl _) _).setCell (Nat.le_refl _) _, by
            have e : bestUpto st l (k + 1) = ⟨rs, rc, rv⟩ := by rw [HR.out]; simp only [bestUpto, HUP.out, if_true]
            rw [e]
            exact Joins.block_setCell (Joins.block_setCell (Joins.block_setCell (w := wr.drewN nq) HB1.out _) _) _⟩
          case measure => simp [intOf]; omega
        · have q2' : decide (bc < rc) = false := by simpa using q2
          have hup : upTo st (l.getD k default) = false := by rw [← HR.out, ← hu, q2', Bool.and_false]
          have HUP := Lib.hid hup
          clear hu hup
          go_wp2
          go_quiet (fail)
          go_wp2
          go_roundw
          case rel => exact ⟨k + 1, by omega, by go_num, below_drewN HB.out _, by
            have e : bestUpto st l (k + 1) = bestUpto st l k := by simp only [bestUpto, HUP.out]; rfl
            rw [e]; exact HBB.out⟩
          case measure => simp [intOf]; omega
      · have q1' : decide (rc ≤ st) = false := by simpa using q1
        have hup : upTo st (l.getD k default) = false := by rw [← HR.out, ← hu, q1', Bool.false_and]
        have HUP := Lib.hid hup
        clear hu hup
        go_wp2
        go_quiet (fail)
        go_wp2
        go_roundw
        case rel => exact ⟨k + 1, by omega, by go_num, below_drewN HB.out _, by
          have e : bestUpto st l (k + 1) = bestUpto st l k := by simp only [bestUpto, HUP.out]; rfl
          rw [e]; exact HBB.out⟩
        case measure => simp [intOf]; omega
    · have HK := Lib.hid (show k = l.length by omega)
      go_wp2
      go_quiet (fail)
      go_wp2
      go_ret3
      exact ⟨ret_readOf (by rw [bestOf, ← HK.out, HVV.out]) (by rw [bestOf, ← HK.out, HC.out]), below_drewN HWR.out _⟩
end
end Go.Proofs.Ytambkjnhfejfaaa
