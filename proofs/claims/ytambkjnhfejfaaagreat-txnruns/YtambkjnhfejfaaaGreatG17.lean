/-
  Contracts of functions of the program and words for memory, several texts in one: RefHeld. Conditions: those stated with each.
-/
import Derived.Test.YtambkjnhfejfaaaGreatG16
namespace Go.Proofs.YtambkjnhfejfaaaGreat
open Go.RowKit
set_option maxRecDepth 100000 in
set_option maxHeartbeats 8000000 in
theorem rowMay_held (key lp val : ByteArray) (ls : Int) (A : Option Addr) (l : List RecM) (n c : Nat) (w : World) (hn : n = l.length) (hl : RecsAt w w.heap.size A l) (h0 : key.size ≤ maxLen) (h1 : lp.size ≤ maxLen) (h2 : val.size ≤ maxLen) (hne : ls ≠ 0) :
 Calls Tryz.prog 35 #[.agg #[.string key, .int .i64 ls, .string lp, .string val, .slice A n c]] w fun e w' => e = .returned (.bool (rowB key ls lp val l)) ∧ Below w.heap.size w w' := by
 subst hn
 have hlen := hl.len
 obtain ⟨W0, hW, k0, k1, k2, k3, k4, hbW, hsW⟩ := box_new w (.string key) (.int .i64 ls) (.string lp) (.string val) (.slice A l.length c) 45
 have HW := Lib.hid hW
 have HL := Lib.hid hl
 have HL0 := Lib.hid (hl.upto hbW)
 have HS := Lib.hid hsW
 have H0 := Lib.hid h0
 have H1 := Lib.hid h1
 unfold maxLen at h2
 clear hl h0 h1 hW hsW
 by_cases t1 : keyB key = true
 ·by_cases t2 : val.size ≤ 20
  ·have d20 : decide (20 < (val.size : Int)) = false := by simp; omega
   have H00 := Lib.hid hne
   have hne' : (ls == 0) = false := by simpa using hne
   have hne'' : (ls != 0) = true := by simpa using hne
   clear hne
   have hroom : roomOf ls = 99 := if_neg H00.out
   have HRM := Lib.hid hroom
   clear hroom
   by_cases t3 : hasRec ls l = true
   ·go_enter Tryz.func35, Tryz.ntmps35
    go_wp2_with (first | (go_at_call 18; refine (keyMay_any _ _ H0.out).mono ?_; rintro e w' ⟨rfl, rfl⟩))
    rw [← HW.out]
    refine (recordOf_any key lp val ls ls A l l.length c W0 rfl HL0.out).mono ?_
    rintro e w1 ⟨rfl, hb1⟩
    obtain ⟨g0, g1, g2, g3, g4, _⟩ := boxS k0 k1 k2 k3 k4 hb1
    have hs1 := hb1.size
    have hs2 : w.heap.size < w1.heap.size := by have := HS.out; omega
    go_wp2_with (first | (go_at_call 18; refine (keyMay_any _ _ H1.out).mono ?_; rintro e w' ⟨rfl, rfl⟩) | (go_at_call 37; refine (refTime_any _ _).mono ?_; rintro e w' ⟨rfl, rfl⟩))
    go_ret
    exact ⟨ret_bool (rowB_no fun h => by rw [(h.held H00.out).1] at t3; cases t3).symm, by repeat (first | with_reducible exact Below.refl _ _ | assumption | with_reducible apply below_alloc | with_reducible apply below_drew | with_reducible apply below_drewN | (with_reducible apply below_next; rotate_left; assumption))⟩
   ·have t3' : hasRec ls l = false := by simpa using t3
    clear t3
    by_cases t4 : inB ls 1 1099511627776 = true
    ·by_cases t5 : keyB lp = true
     ·by_cases t6 : l.length ≤ 99
      ·have d5 : decide (99 < (l.length : Int)) = false := by simp; omega
       go_enter Tryz.func35, Tryz.ntmps35
       go_wp2_with (first | (go_at_call 18; refine (keyMay_any _ _ H0.out).mono ?_; rintro e w' ⟨rfl, rfl⟩))
       rw [← HW.out]
       refine (recordOf_any key lp val ls ls A l l.length c W0 rfl HL0.out).mono ?_
       rintro e w1 ⟨rfl, hb1⟩
       obtain ⟨g0, g1, g2, g3, g4, _⟩ := boxS k0 k1 k2 k3 k4 hb1
       have hs1 := hb1.size
       have hs2 : w.heap.size < w1.heap.size := by have := HS.out; omega
       go_wp2_with (first | (go_at_call 18; refine (keyMay_any _ _ H1.out).mono ?_; rintro e w' ⟨rfl, rfl⟩) | (go_at_call 37; refine (refTime_any _ _).mono ?_; rintro e w' ⟨rfl, rfl⟩))
       go_loopw [6] (fun i wr => ∃ k : Nat, k ≤ l.length ∧ i = .int .i64 k ∧ (∀ j, j < k → RecMay l ls j) ∧ Below W0.heap.size W0 wr) (fun i _ => l.length - (intOf i).toNat)
       case atStart => exact ⟨0, Nat.zero_le _, rfl, fun _ h => absurd h (by omega), below_alloc hb1 _⟩
       case round =>
        obtain ⟨k, hk, rfl, hx, hb⟩ := hrel
        have HX := Lib.hid hx
        have HB := Lib.hid hb
        have HWR := Lib.hid (below_next hbW hb)
        have hsz := hb.size
        have hsz2 : w.heap.size < wr.heap.size := by have := HS.out; omega
        obtain ⟨e0, e1, e2, e3, e4, _⟩ := boxS k0 k1 k2 k3 k4 hb
        clear hx hb e0 e2 e3 k0 k1 k2 k3 k4
        by_cases hm : k < l.length
        ·obtain ⟨b, o, rfl, hbb, hr⟩ := (HL0.out.below HB.out).at_ (getD_of hm)
         obtain ⟨r, hr0⟩ : ∃ r, r = l.getD k default := ⟨_, rfl⟩
         rw [← hr0] at hr
         obtain ⟨c0, c1, c2⟩ := hr
         have hok := HL0.out.ok (hr0 ▸ mem_getD hm : r ∈ l)
         have HR := Lib.hid hr0
         clear hr0
         obtain ⟨rs, rc, rv⟩ := r
         have hv : rv.size ≤ 9223372036854775807 := hok.v
         clear hok
         have hbr : b < wr.heap.size := by omega
         have hbn : b ≠ wr.heap.size := by omega
         by_cases q1 : inB rs 1 1099511627776 = true
         ·obtain ⟨q1a, q1b⟩ := inB_true.1 q1
          by_cases q2 : rv.size ≤ 20
          ·have d2 : decide (20 < (rv.size : Int)) = false := by simp; omega
           by_cases z : k = 0
           ·have z1 : decide (0 < k) = false := by simp; omega
            have HP := Lib.hid (show 0 < k → (l.getD (k - 1) default).s < rs from fun h => by omega)
            clear z
            by_cases q4 : rc = 0
            ·subst q4
             by_cases q5 : rv.toList.isEmpty = true
             ·go_wp2
              go_quiet ((go_at_call 37; exact quiet_left (refTime_any _ _)))
              go_wp2
              go_loopw [8] (fun j wr2 => ∃ (jj q : Nat), jj ≤ k ∧ j = .int .i64 jj ∧ (∀ t, t < jj → (0 : Int) ≠ 0 → (l.getD t default).c ≤ rs) ∧ wr2 = (wr.alloc (.cells #[.int .i64 rs, .int .i64 0, .string rv] 80)).drewN q) (fun j _ => k - (intOf j).toNat)
              case atStart => exact ⟨0, _, Nat.zero_le _, rfl, fun _ h => absurd h (by omega), rfl⟩
              case round =>
               obtain ⟨jj, q, hjk, rfl, hy, rfl⟩ := hrel
               have HY := Lib.hid hy
               clear hy
               by_cases hj : jj < k
               ·obtain ⟨b', o', hA', hbb', hr'⟩ := (HL0.out.below HB.out).at_ (getD_of (by omega : jj < l.length))
                obtain ⟨rfl, rfl⟩ : b = b' ∧ o = o' := by injection hA' with hA'; injection hA' with h1 h2; exact ⟨h1, h2⟩
                have c1' := hr'.c
                clear hA' hr' hbb'
                obtain ⟨tc, htc⟩ : ∃ tc, tc = (l.getD jj default).c := ⟨_, rfl⟩
                rw [← htc] at c1'
                have HT := Lib.hid htc
                clear htc
                have j0 : (0 : Int) ≤ (jj : Int) := by omega
                have j1 : (jj : Int) < (l.length : Int) := by omega
                have j2 : jj < l.length := by omega
                go_wp2
                go_quiet (fail)
                go_wp2
                go_roundw
                case rel => exact ⟨jj + 1, _, by omega, by go_num, fun _ _ h => absurd rfl h, rfl⟩
                case measure => simp [intOf]; omega
               ·have hjk' : jj = k := by omega
                have HJ := Lib.hid hjk'
                clear hjk'
                by_cases q8 : ls < 0
                ·have q8' : decide (ls < 0) = true := by simpa using q8
                 go_wp2
                 go_ret
                 exact ⟨ret_bool (no_lock hm HR.out H00.out q8).symm, by have hwr := HWR.out; repeat (first | with_reducible exact Below.refl _ _ | assumption | with_reducible apply below_alloc | with_reducible apply below_drew | with_reducible apply below_drewN | (with_reducible apply below_next; rotate_left; assumption))⟩
                ·have q8' : decide (ls < 0) = false := by simpa using q8
                 go_wp2
                 go_roundw
                 case rel => exact ⟨k + 1, by omega, by go_num, fun i hi => by
                  by_cases e : i = k
                  ·subst e; exact recMay_mk HR.out q1 q2 HP.out (fun _ => q5) (fun h => absurd rfl h) (fun t ht hc => HY.out t (by have := HJ.out; omega) hc) (fun _ => by omega)
                  ·exact HX.out i (by omega), below_drewN (below_alloc HB.out _) _⟩
                 case measure => simp [intOf]; omega
             ·have q5' : rv.toList.isEmpty = false := by simpa using q5
              clear q5
              go_wp2
              go_quiet ((go_at_call 37; exact quiet_left (refTime_any _ _)))
              go_wp2
              go_ret
              exact ⟨ret_bool (no_undone hm HR.out rfl q5').symm, by have hwr := HWR.out; repeat (first | with_reducible exact Below.refl _ _ | assumption | with_reducible apply below_alloc | with_reducible apply below_drew | with_reducible apply below_drewN | (with_reducible apply below_next; rotate_left; assumption))⟩
            ·have q4' : (rc == 0) = false := by simpa using q4
             have q4'' : (rc != 0) = true := by simpa using q4
             have HC := Lib.hid q4
             clear q4
             by_cases q6 : inB rc (rs + 1) 1099511627776 = true
             ·go_wp2
              go_quiet ((go_at_call 37; exact quiet_left (refTime_any _ _)))
              go_wp2_with (go_at_call 16; refine (in_any _ _ _ _).mono ?_; rintro e w' ⟨rfl, rfl⟩)
              go_loopw [8] (fun j wr2 => ∃ (jj q : Nat), jj ≤ k ∧ j = .int .i64 jj ∧ (∀ t, t < jj → (rc : Int) ≠ 0 → (l.getD t default).c ≤ rs) ∧ wr2 = (wr.alloc (.cells #[.int .i64 rs, .int .i64 rc, .string rv] 80)).drewN q) (fun j _ => k - (intOf j).toNat)
              case atStart => exact ⟨0, _, Nat.zero_le _, rfl, fun _ h => absurd h (by omega), rfl⟩
              case round =>
               obtain ⟨jj, q, hjk, rfl, hy, rfl⟩ := hrel
               have HY := Lib.hid hy
               clear hy
               by_cases hj : jj < k
               ·obtain ⟨b', o', hA', hbb', hr'⟩ := (HL0.out.below HB.out).at_ (getD_of (by omega : jj < l.length))
                obtain ⟨rfl, rfl⟩ : b = b' ∧ o = o' := by injection hA' with hA'; injection hA' with h1 h2; exact ⟨h1, h2⟩
                have c1' := hr'.c
                clear hA' hr' hbb'
                obtain ⟨tc, htc⟩ : ∃ tc, tc = (l.getD jj default).c := ⟨_, rfl⟩
                rw [← htc] at c1'
                have HT := Lib.hid htc
                clear htc
                have j0 : (0 : Int) ≤ (jj : Int) := by omega
                have j1 : (jj : Int) < (l.length : Int) := by omega
                have j2 : jj < l.length := by omega
                by_cases q7 : rs < tc
                ·have q7' : decide (rs < tc) = true := by simpa using q7
                 go_wp2
                 go_quiet (fail)
                 go_wp2
                 go_ret
                 exact ⟨ret_bool (no_before hm HR.out hj HC.out (HT.out ▸ q7)).symm, by have hwr := HWR.out; repeat (first | with_reducible exact Below.refl _ _ | assumption | with_reducible apply below_alloc | with_reducible apply below_drew | with_reducible apply below_drewN | (with_reducible apply below_next; rotate_left; assumption))⟩
                ·have q7' : decide (rs < tc) = false := by simpa using q7
                 go_wp2
                 go_quiet (fail)
                 go_wp2
                 go_roundw
                 case rel => exact ⟨jj + 1, _, by omega, by go_num, fun t ht hc => by
                  by_cases e : t = jj
                  ·subst e; rw [← HT.out]; omega
                  ·exact HY.out t (by omega) hc, rfl⟩
                 case measure => simp [intOf]; omega
               ·have hjk' : jj = k := by omega
                have HJ := Lib.hid hjk'
                clear hjk'
                by_cases q8 : ls < rc
                ·have q8' : decide (ls < rc) = true := by simpa using q8
                 go_wp2
                 go_ret
                 exact ⟨ret_bool (no_lock hm HR.out H00.out q8).symm, by have hwr := HWR.out; repeat (first | with_reducible exact Below.refl _ _ | assumption | with_reducible apply below_alloc | with_reducible apply below_drew | with_reducible apply below_drewN | (with_reducible apply below_next; rotate_left; assumption))⟩
                ·have q8' : decide (ls < rc) = false := by simpa using q8
                 go_wp2
                 go_roundw
                 case rel => exact ⟨k + 1, by omega, by go_num, fun i hi => by
                  by_cases e : i = k
                  ·subst e; exact recMay_mk HR.out q1 q2 HP.out (fun h => absurd h HC.out) (fun _ => q6) (fun t ht hc => HY.out t (by have := HJ.out; omega) hc) (fun _ => by omega)
                  ·exact HX.out i (by omega), below_drewN (below_alloc HB.out _) _⟩
                 case measure => simp [intOf]; omega
             ·have q6' : inB rc (rs + 1) 1099511627776 = false := by simpa using q6
              clear q6
              go_wp2
              go_quiet ((go_at_call 37; exact quiet_left (refTime_any _ _)))
              go_wp2_with (go_at_call 16; refine (in_any _ _ _ _).mono ?_; rintro e w' ⟨rfl, rfl⟩)
              go_ret
              exact ⟨ret_bool (no_done hm HR.out HC.out q6').symm, by have hwr := HWR.out; repeat (first | with_reducible exact Below.refl _ _ | assumption | with_reducible apply below_alloc | with_reducible apply below_drew | with_reducible apply below_drewN | (with_reducible apply below_next; rotate_left; assumption))⟩
           ·have z1 : decide (0 < k) = true := by simp; omega
            obtain ⟨b', o', hA', hbb', hr'⟩ := (HL0.out.below HB.out).at_ (getD_of (by omega : k - 1 < l.length))
            obtain ⟨rfl, rfl⟩ : b = b' ∧ o = o' := by injection hA' with hA'; injection hA' with h1 h2; exact ⟨h1, h2⟩
            have c0' := hr'.s
            clear hA' hr' hbb'
            obtain ⟨ps, hps⟩ : ∃ ps, ps = (l.getD (k - 1) default).s := ⟨_, rfl⟩
            rw [← hps] at c0'
            have i0 : (0 : Int) ≤ ((k - 1 : Nat) : Int) := by omega
            have i1 : ((k - 1 : Nat) : Int) < (l.length : Int) := by omega
            have i3 : k - 1 < l.length := by omega
            have i2 : IntKind.i64.wrap ((k : Int) - 1) = ((k - 1 : Nat) : Int) := by rw [IntWalk.i64_in _ (by omega)]; omega
            clear z
            by_cases q3 : rs ≤ ps
            ·have q3' : decide (rs ≤ ps) = true := by simpa using q3
             have HP := Lib.hid (show rs ≤ (l.getD (k - 1) default).s from hps ▸ q3)
             clear hps
             go_wp2
             go_quiet ((go_at_call 37; exact quiet_left (refTime_any _ _)))
             go_wp2
             go_ret
             exact ⟨ret_bool (no_prev hm HR.out (by simpa using z1) HP.out).symm, by have hwr := HWR.out; repeat (first | with_reducible exact Below.refl _ _ | assumption | with_reducible apply below_alloc | with_reducible apply below_drew | with_reducible apply below_drewN | (with_reducible apply below_next; rotate_left; assumption))⟩
            ·have q3' : decide (rs ≤ ps) = false := by simpa using q3
             have HP := Lib.hid (show 0 < k → (l.getD (k - 1) default).s < rs from fun _ => hps ▸ (by omega))
             clear hps
             by_cases q4 : rc = 0
             ·subst q4
              by_cases q5 : rv.toList.isEmpty = true
              ·go_wp2
               go_quiet ((go_at_call 37; exact quiet_left (refTime_any _ _)))
               go_wp2
               go_loopw [8] (fun j wr2 => ∃ (jj q : Nat), jj ≤ k ∧ j = .int .i64 jj ∧ (∀ t, t < jj → (0 : Int) ≠ 0 → (l.getD t default).c ≤ rs) ∧ wr2 = (wr.alloc (.cells #[.int .i64 rs, .int .i64 0, .string rv] 80)).drewN q) (fun j _ => k - (intOf j).toNat)
               case atStart => exact ⟨0, _, Nat.zero_le _, rfl, fun _ h => absurd h (by omega), rfl⟩
               case round =>
                obtain ⟨jj, q, hjk, rfl, hy, rfl⟩ := hrel
                have HY := Lib.hid hy
                clear hy
                by_cases hj : jj < k
                ·obtain ⟨b', o', hA', hbb', hr'⟩ := (HL0.out.below HB.out).at_ (getD_of (by omega : jj < l.length))
                 obtain ⟨rfl, rfl⟩ : b = b' ∧ o = o' := by injection hA' with hA'; injection hA' with h1 h2; exact ⟨h1, h2⟩
                 have c1' := hr'.c
                 clear hA' hr' hbb'
                 obtain ⟨tc, htc⟩ : ∃ tc, tc = (l.getD jj default).c := ⟨_, rfl⟩
                 rw [← htc] at c1'
                 have HT := Lib.hid htc
                 clear htc
                 have j0 : (0 : Int) ≤ (jj : Int) := by omega
                 have j1 : (jj : Int) < (l.length : Int) := by omega
                 have j2 : jj < l.length := by omega
                 go_wp2
                 go_quiet (fail)
                 go_wp2
                 go_roundw
                 case rel => exact ⟨jj + 1, _, by omega, by go_num, fun _ _ h => absurd rfl h, rfl⟩
                 case measure => simp [intOf]; omega
                ·have hjk' : jj = k := by omega
                 have HJ := Lib.hid hjk'
                 clear hjk'
                 by_cases q8 : ls < 0
                 ·have q8' : decide (ls < 0) = true := by simpa using q8
                  go_wp2
                  go_ret
                  exact ⟨ret_bool (no_lock hm HR.out H00.out q8).symm, by have hwr := HWR.out; repeat (first | with_reducible exact Below.refl _ _ | assumption | with_reducible apply below_alloc | with_reducible apply below_drew | with_reducible apply below_drewN | (with_reducible apply below_next; rotate_left; assumption))⟩
                 ·have q8' : decide (ls < 0) = false := by simpa using q8
                  go_wp2
                  go_roundw
                  case rel => exact ⟨k + 1, by omega, by go_num, fun i hi => by
                   by_cases e : i = k
                   ·subst e; exact recMay_mk HR.out q1 q2 HP.out (fun _ => q5) (fun h => absurd rfl h) (fun t ht hc => HY.out t (by have := HJ.out; omega) hc) (fun _ => by omega)
                   ·exact HX.out i (by omega), below_drewN (below_alloc HB.out _) _⟩
                  case measure => simp [intOf]; omega
              ·have q5' : rv.toList.isEmpty = false := by simpa using q5
               clear q5
               go_wp2
               go_quiet ((go_at_call 37; exact quiet_left (refTime_any _ _)))
               go_wp2
               go_ret
               exact ⟨ret_bool (no_undone hm HR.out rfl q5').symm, by have hwr := HWR.out; repeat (first | with_reducible exact Below.refl _ _ | assumption | with_reducible apply below_alloc | with_reducible apply below_drew | with_reducible apply below_drewN | (with_reducible apply below_next; rotate_left; assumption))⟩
             ·have q4' : (rc == 0) = false := by simpa using q4
              have q4'' : (rc != 0) = true := by simpa using q4
              have HC := Lib.hid q4
              clear q4
              by_cases q6 : inB rc (rs + 1) 1099511627776 = true
              ·go_wp2
               go_quiet ((go_at_call 37; exact quiet_left (refTime_any _ _)))
               go_wp2_with (go_at_call 16; refine (in_any _ _ _ _).mono ?_; rintro e w' ⟨rfl, rfl⟩)
               go_loopw [8] (fun j wr2 => ∃ (jj q : Nat), jj ≤ k ∧ j = .int .i64 jj ∧ (∀ t, t < jj → (rc : Int) ≠ 0 → (l.getD t default).c ≤ rs) ∧ wr2 = (wr.alloc (.cells #[.int .i64 rs, .int .i64 rc, .string rv] 80)).drewN q) (fun j _ => k - (intOf j).toNat)
               case atStart => exact ⟨0, _, Nat.zero_le _, rfl, fun _ h => absurd h (by omega), rfl⟩
               case round =>
                obtain ⟨jj, q, hjk, rfl, hy, rfl⟩ := hrel
                have HY := Lib.hid hy
                clear hy
                by_cases hj : jj < k
                ·obtain ⟨b', o', hA', hbb', hr'⟩ := (HL0.out.below HB.out).at_ (getD_of (by omega : jj < l.length))
                 obtain ⟨rfl, rfl⟩ : b = b' ∧ o = o' := by injection hA' with hA'; injection hA' with h1 h2; exact ⟨h1, h2⟩
                 have c1' := hr'.c
                 clear hA' hr' hbb'
                 obtain ⟨tc, htc⟩ : ∃ tc, tc = (l.getD jj default).c := ⟨_, rfl⟩
                 rw [← htc] at c1'
                 have HT := Lib.hid htc
                 clear htc
                 have j0 : (0 : Int) ≤ (jj : Int) := by omega
                 have j1 : (jj : Int) < (l.length : Int) := by omega
                 have j2 : jj < l.length := by omega
                 by_cases q7 : rs < tc
                 ·have q7' : decide (rs < tc) = true := by simpa using q7
                  go_wp2
                  go_quiet (fail)
                  go_wp2
                  go_ret
                  exact ⟨ret_bool (no_before hm HR.out hj HC.out (HT.out ▸ q7)).symm, by have hwr := HWR.out; repeat (first | with_reducible exact Below.refl _ _ | assumption | with_reducible apply below_alloc | with_reducible apply below_drew | with_reducible apply below_drewN | (with_reducible apply below_next; rotate_left; assumption))⟩
                 ·have q7' : decide (rs < tc) = false := by simpa using q7
                  go_wp2
                  go_quiet (fail)
                  go_wp2
                  go_roundw
                  case rel => exact ⟨jj + 1, _, by omega, by go_num, fun t ht hc => by
                   by_cases e : t = jj
                   ·subst e; rw [← HT.out]; omega
                   ·exact HY.out t (by omega) hc, rfl⟩
                  case measure => simp [intOf]; omega
                ·have hjk' : jj = k := by omega
                 have HJ := Lib.hid hjk'
                 clear hjk'
                 by_cases q8 : ls < rc
                 ·have q8' : decide (ls < rc) = true := by simpa using q8
                  go_wp2
                  go_ret
                  exact ⟨ret_bool (no_lock hm HR.out H00.out q8).symm, by have hwr := HWR.out; repeat (first | with_reducible exact Below.refl _ _ | assumption | with_reducible apply below_alloc | with_reducible apply below_drew | with_reducible apply below_drewN | (with_reducible apply below_next; rotate_left; assumption))⟩
                 ·have q8' : decide (ls < rc) = false := by simpa using q8
                  go_wp2
                  go_roundw
                  case rel => exact ⟨k + 1, by omega, by go_num, fun i hi => by
                   by_cases e : i = k
                   ·subst e; exact recMay_mk HR.out q1 q2 HP.out (fun h => absurd h HC.out) (fun _ => q6) (fun t ht hc => HY.out t (by have := HJ.out; omega) hc) (fun _ => by omega)
                   ·exact HX.out i (by omega), below_drewN (below_alloc HB.out _) _⟩
                  case measure => simp [intOf]; omega
              ·have q6' : inB rc (rs + 1) 1099511627776 = false := by simpa using q6
               clear q6
               go_wp2
               go_quiet ((go_at_call 37; exact quiet_left (refTime_any _ _)))
               go_wp2_with (go_at_call 16; refine (in_any _ _ _ _).mono ?_; rintro e w' ⟨rfl, rfl⟩)
               go_ret
               exact ⟨ret_bool (no_done hm HR.out HC.out q6').symm, by have hwr := HWR.out; repeat (first | with_reducible exact Below.refl _ _ | assumption | with_reducible apply below_alloc | with_reducible apply below_drew | with_reducible apply below_drewN | (with_reducible apply below_next; rotate_left; assumption))⟩
          ·have d2 : decide (20 < (rv.size : Int)) = true := by simp; omega
           go_wp2
           go_quiet ((go_at_call 37; exact quiet_left (refTime_any _ _)))
           go_wp2
           go_ret
           exact ⟨ret_bool (no_value hm HR.out (by omega)).symm, by have hwr := HWR.out; repeat (first | with_reducible exact Below.refl _ _ | assumption | with_reducible apply below_alloc | with_reducible apply below_drew | with_reducible apply below_drewN | (with_reducible apply below_next; rotate_left; assumption))⟩
         ·have q1' : inB rs 1 1099511627776 = false := by simpa using q1
          clear q1
          go_wp2
          go_quiet ((go_at_call 37; exact quiet_left (refTime_any _ _)))
          go_wp2
          go_ret
          exact ⟨ret_bool (no_time hm HR.out q1').symm, by have hwr := HWR.out; repeat (first | with_reducible exact Below.refl _ _ | assumption | with_reducible apply below_alloc | with_reducible apply below_drew | with_reducible apply below_drewN | (with_reducible apply below_next; rotate_left; assumption))⟩
        ·have HK := Lib.hid (show k = l.length by omega)
         go_wp2
         go_ret
         exact ⟨ret_bool (yes_of t1 t2 (fun h => absurd h H00.out) (fun _ => ⟨t3', t4, t5⟩) (by have := HRM.out; omega) (fun i hi => HX.out i (by have := HK.out; omega))).symm, by have hwr := HWR.out; repeat (first | with_reducible exact Below.refl _ _ | assumption | with_reducible apply below_alloc | with_reducible apply below_drew | with_reducible apply below_drewN | (with_reducible apply below_next; rotate_left; assumption))⟩
      ·have d5 : decide (99 < (l.length : Int)) = true := by simp; omega
       go_enter Tryz.func35, Tryz.ntmps35
       go_wp2_with (first | (go_at_call 18; refine (keyMay_any _ _ H0.out).mono ?_; rintro e w' ⟨rfl, rfl⟩))
       rw [← HW.out]
       refine (recordOf_any key lp val ls ls A l l.length c W0 rfl HL0.out).mono ?_
       rintro e w1 ⟨rfl, hb1⟩
       obtain ⟨g0, g1, g2, g3, g4, _⟩ := boxS k0 k1 k2 k3 k4 hb1
       have hs1 := hb1.size
       have hs2 : w.heap.size < w1.heap.size := by have := HS.out; omega
       go_wp2_with (first | (go_at_call 18; refine (keyMay_any _ _ H1.out).mono ?_; rintro e w' ⟨rfl, rfl⟩) | (go_at_call 37; refine (refTime_any _ _).mono ?_; rintro e w' ⟨rfl, rfl⟩))
       go_ret
       exact ⟨ret_bool (rowB_no fun h => by have := h.room; have := HRM.out; omega).symm, by repeat (first | with_reducible exact Below.refl _ _ | assumption | with_reducible apply below_alloc | with_reducible apply below_drew | with_reducible apply below_drewN | (with_reducible apply below_next; rotate_left; assumption))⟩
     ·have t5' : keyB lp = false := by simpa using t5
      clear t5
      go_enter Tryz.func35, Tryz.ntmps35
      go_wp2_with (first | (go_at_call 18; refine (keyMay_any _ _ H0.out).mono ?_; rintro e w' ⟨rfl, rfl⟩))
      rw [← HW.out]
      refine (recordOf_any key lp val ls ls A l l.length c W0 rfl HL0.out).mono ?_
      rintro e w1 ⟨rfl, hb1⟩
      obtain ⟨g0, g1, g2, g3, g4, _⟩ := boxS k0 k1 k2 k3 k4 hb1
      have hs1 := hb1.size
      have hs2 : w.heap.size < w1.heap.size := by have := HS.out; omega
      go_wp2_with (first | (go_at_call 18; refine (keyMay_any _ _ H1.out).mono ?_; rintro e w' ⟨rfl, rfl⟩) | (go_at_call 37; refine (refTime_any _ _).mono ?_; rintro e w' ⟨rfl, rfl⟩))
      go_ret
      exact ⟨ret_bool (rowB_no fun h => by rw [(h.held H00.out).2.2] at t5'; cases t5').symm, by repeat (first | with_reducible exact Below.refl _ _ | assumption | with_reducible apply below_alloc | with_reducible apply below_drew | with_reducible apply below_drewN | (with_reducible apply below_next; rotate_left; assumption))⟩
    ·have t4' : inB ls 1 1099511627776 = false := by simpa using t4
     clear t4
     go_enter Tryz.func35, Tryz.ntmps35
     go_wp2_with (first | (go_at_call 18; refine (keyMay_any _ _ H0.out).mono ?_; rintro e w' ⟨rfl, rfl⟩))
     rw [← HW.out]
     refine (recordOf_any key lp val ls ls A l l.length c W0 rfl HL0.out).mono ?_
     rintro e w1 ⟨rfl, hb1⟩
     obtain ⟨g0, g1, g2, g3, g4, _⟩ := boxS k0 k1 k2 k3 k4 hb1
     have hs1 := hb1.size
     have hs2 : w.heap.size < w1.heap.size := by have := HS.out; omega
     go_wp2_with (first | (go_at_call 18; refine (keyMay_any _ _ H1.out).mono ?_; rintro e w' ⟨rfl, rfl⟩) | (go_at_call 37; refine (refTime_any _ _).mono ?_; rintro e w' ⟨rfl, rfl⟩))
     go_ret
     exact ⟨ret_bool (rowB_no fun h => by rw [(h.held H00.out).2.1] at t4'; cases t4').symm, by repeat (first | with_reducible exact Below.refl _ _ | assumption | with_reducible apply below_alloc | with_reducible apply below_drew | with_reducible apply below_drewN | (with_reducible apply below_next; rotate_left; assumption))⟩
  ·have d20 : decide (20 < (val.size : Int)) = true := by simp; omega
   go_enter Tryz.func35, Tryz.ntmps35
   go_wp2_with (first | (go_at_call 18; refine (keyMay_any _ _ H0.out).mono ?_; rintro e w' ⟨rfl, rfl⟩) | (go_at_call 37; refine (refTime_any _ _).mono ?_; rintro e w' ⟨rfl, rfl⟩))
   go_ret
   exact ⟨ret_bool (rowB_no fun h => t2 h.value).symm, by repeat (first | with_reducible exact Below.refl _ _ | assumption | with_reducible apply below_alloc | with_reducible apply below_drew | with_reducible apply below_drewN | (with_reducible apply below_next; rotate_left; assumption))⟩
 ·have t1' : keyB key = false := by simpa using t1
  clear t1
  go_enter Tryz.func35, Tryz.ntmps35
  go_wp2_with (first | (go_at_call 18; refine (keyMay_any _ _ H0.out).mono ?_; rintro e w' ⟨rfl, rfl⟩) | (go_at_call 37; refine (refTime_any _ _).mono ?_; rintro e w' ⟨rfl, rfl⟩))
  go_ret
  exact ⟨ret_bool (rowB_no fun h => by rw [h.key] at t1'; cases t1').symm, by repeat (first | with_reducible exact Below.refl _ _ | assumption | with_reducible apply below_alloc | with_reducible apply below_drew | with_reducible apply below_drewN | (with_reducible apply below_next; rotate_left; assumption))⟩
theorem rowMay_any (key lp val : ByteArray) (ls : Int) (A : Option Addr) (l : List RecM) (n c : Nat) (w : World) (hn : n = l.length) (hl : RecsAt w w.heap.size A l) (h0 : key.size ≤ maxLen) (h1 : lp.size ≤ maxLen) (h2 : val.size ≤ maxLen) :
 Calls Tryz.prog 35 #[.agg #[.string key, .int .i64 ls, .string lp, .string val, .slice A n c]] w fun e w' => e = .returned (.bool (rowB key ls lp val l)) ∧ Below w.heap.size w w' := by
 by_cases h : ls = 0
 ·subst h; exact rowMay_free key lp val A l n c w hn hl h0 h1 h2
 ·exact rowMay_held key lp val ls A l n c w hn hl h0 h1 h2 h
end Go.Proofs.YtambkjnhfejfaaaGreat
