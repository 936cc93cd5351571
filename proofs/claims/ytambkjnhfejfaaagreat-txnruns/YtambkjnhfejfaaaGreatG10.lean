/-
  Contracts of functions of the program and words for memory, several texts in one: TCheck2, TRefMay1. Conditions: those stated with each.
-/
import Derived.Test.YtambkjnhfejfaaaGreatG09
namespace Go.Proofs.YtambkjnhfejfaaaGreat
open Go.RowKit
theorem wrAtB_eq (l : List WrM) (k : Nat) (rk rv : ByteArray) (h : (⟨rk, rv⟩ : WrM) = l.getD k default) : wrAtB l k = (keyB rk && (k == 0 || ltS (l.getD (k - 1) default).k rk) && decide (rv.size ≤ 20)) := by
 unfold wrAtB; rw [← h]
set_option maxHeartbeats 2000000 in
theorem validWrites_any (l : List WrM) (A : Option Addr) (n c : Nat) (w : World) (hn : n = l.length) (hl : WrsAt w (· < w.heap.size) A l) :
 Calls Tryz.prog 65 #[.slice A n c] w fun e w' => e = .returned (.bool (wrsB l)) ∧ Below w.heap.size w w' := by
 subst hn
 have hlen := hl.1
 have HL := Lib.hid hl
 clear hl
 by_cases h6 : l.length ≤ 6
 ·have d6 : decide (6 < (l.length : Int)) = false := by simp; omega
  go_enter Tryz.func65, Tryz.ntmps65
  go_wp2
  go_loopw [10] (fun i wr => ∃ k : Nat, k ≤ l.length ∧ i = .int .i64 k ∧ (List.range k).all (wrAtB l) = true ∧ Below w.heap.size w wr) (fun i _ => l.length - (intOf i).toNat)
  case atStart => exact ⟨0, Nat.zero_le _, rfl, rfl, Below.refl _ _⟩
  case round =>
   obtain ⟨k, hk, rfl, hx, hb⟩ := hrel
   have HX := Lib.hid hx
   have HB := Lib.hid hb
   clear hx
   by_cases hm : k < l.length
   ·have hl' := SeqAt.wrs HL.out (below_mem hb).1 (below_mem hb).2
    have hok := SeqAt.wrOk hl' _ (getD_mem (d := default) hm)
    obtain ⟨r, hr0⟩ : ∃ r, r = l.getD k default := ⟨_, rfl⟩
    obtain ⟨b, o, hA, hbb, hr⟩ := SeqAt.at_ hl' (getD_some (d := default) hm)
    rw [← hr0] at hr hok
    have j0 : (0 : Int) ≤ (k : Int) := by omega
    obtain ⟨rk, rv⟩ := r
    obtain ⟨c0, c1, _⟩ := hr
    dsimp only at c0 c1 hok
    have HK := Lib.hid hok.1
    have hv := hok.2
    have hv' : rv.size ≤ 9223372036854775807 := by unfold maxLen at hv; omega
    have HR := Lib.hid (wrAtB_eq l k rk rv hr0)
    clear hv hr0
    subst hA
    by_cases t1 : keyB rk = true
    ·by_cases hk0 : k = 0
     ·have z0 : decide (0 < (k : Int)) = false := by simp; omega
      have z0' : decide (0 < k) = false := by simp; omega
      have HK0 := Lib.hid hk0
      clear hk0
      by_cases t3 : rv.size ≤ 20
      ·have d3 : decide (20 < (rv.size : Int)) = false := by simp; omega
       have HT := Lib.hid (show wrAtB l k = true by rw [HR.out]; simp [t1, t3, HK0.out])
       clear hb hl' hok
       go_wp2
       go_quiet ((go_at_call 55; exact quiet_left (key_any _ _ HK.out)))
       go_wp2
       go_roundw
       case rel => exact ⟨k + 1, by omega, by go_num, all_range_succ HX.out HT.out, below_drewN (below_alloc HB.out _) _⟩
       case measure => simp [intOf]; omega
      ·have d3 : decide (20 < (rv.size : Int)) = true := by simp; omega
       have HT := Lib.hid (show wrAtB l k = false by rw [HR.out]; simp [t3])
       clear hb hl' hok
       go_wp2
       go_quiet ((go_at_call 55; exact quiet_left (key_any _ _ HK.out)))
       go_wp2
       go_ret
       exact ⟨ret_bool (by simp [wrsB, all_range_false hm HT.out]), below_drewN (below_alloc HB.out _) _⟩
     ·obtain ⟨m, rfl⟩ : ∃ m, k = m + 1 := ⟨k - 1, by omega⟩
      obtain ⟨b', o', hA', _, hp⟩ := SeqAt.at_ hl' (getD_some (d := default) (show m < l.length by omega))
      obtain ⟨rfl, rfl⟩ : b = b' ∧ o = o' := by injection hA' with e; injection e with e1 e2; exact ⟨e1, e2⟩
      obtain ⟨p, hp0⟩ : ∃ p, p = l.getD m default := ⟨_, rfl⟩
      rw [← hp0] at hp
      obtain ⟨pk, pv⟩ := p
      have p0 := hp.k
      dsimp only at p0
      have HP := Lib.hid hp0
      clear hp hp0 hA'
      by_cases t2 : ltS pk rk = true
      ·have t2'' : Op.bytesLess pk.toList rk.toList = true := t2
       by_cases t3 : rv.size ≤ 20
       ·have d3 : decide (20 < (rv.size : Int)) = false := by simp; omega
        have HT := Lib.hid (show wrAtB l (m + 1) = true by rw [HR.out]; simp only [Nat.add_sub_cancel, ← HP.out]; simp [t1, t2, t3])
        clear hb hl' hok t2
        go_wp2
        go_quiet ((go_at_call 55; exact quiet_left (key_any _ _ HK.out)))
        go_wp2
        go_roundw
        case rel => exact ⟨m + 1 + 1, by omega, by go_num, all_range_succ HX.out HT.out, below_drewN (below_alloc HB.out _) _⟩
        case measure => simp [intOf]; omega
       ·have d3 : decide (20 < (rv.size : Int)) = true := by simp; omega
        have HT := Lib.hid (show wrAtB l (m + 1) = false by rw [HR.out]; simp [t3])
        clear hb hl' hok t2
        go_wp2
        go_quiet ((go_at_call 55; exact quiet_left (key_any _ _ HK.out)))
        go_wp2
        go_ret
        exact ⟨ret_bool (by simp [wrsB, all_range_false hm HT.out]), below_drewN (below_alloc HB.out _) _⟩
      ·have t2' : ltS pk rk = false := by simpa using t2
       clear t2
       have t2'' : Op.bytesLess pk.toList rk.toList = false := t2'
       have HT := Lib.hid (show wrAtB l (m + 1) = false by rw [HR.out]; simp only [Nat.add_sub_cancel, ← HP.out]; simp [t2'])
       clear hb hl' hok
       go_wp2
       go_quiet ((go_at_call 55; exact quiet_left (key_any _ _ HK.out)))
       go_wp2
       go_ret
       exact ⟨ret_bool (by simp [wrsB, all_range_false hm HT.out]), below_drewN (below_alloc HB.out _) _⟩
    ·have t1' : keyB rk = false := by simpa using t1
     clear t1
     have HT := Lib.hid (show wrAtB l k = false by rw [HR.out]; simp [t1'])
     clear hb hl' hok
     go_wp2
     go_quiet ((go_at_call 55; exact quiet_left (key_any _ _ HK.out)))
     go_wp2
     go_ret
     exact ⟨ret_bool (by simp [wrsB, all_range_false hm HT.out]), below_drewN (below_alloc HB.out _) _⟩
   ·have hke : k = l.length := by omega
    subst hke
    clear hb
    go_wp2
    go_ret
    exact ⟨ret_bool (by simp only [wrsB, HX.out]; simp; omega), HB.out⟩
 ·have d6 : decide (6 < (l.length : Int)) = true := by simp; omega
  go_enter Tryz.func65, Tryz.ntmps65
  go_wp2
  go_ret
  exact ⟨ret_bool (by simp [wrsB, h6]), Below.refl _ _⟩
set_option maxHeartbeats 2000000 in
theorem validClients_any (l : List ClM) (clock : Int) (A : Option Addr) (n c : Nat) (w : World) (hn : n = l.length) (hl : ClsAt w (· < w.heap.size) A l) :
 Calls Tryz.prog 45 #[.slice A n c, .int .i64 clock] w fun e w' => e = .returned (.bool (clsB clock l)) ∧ Below w.heap.size w w' := by
 subst hn
 have hlen := hl.1
 have HL := Lib.hid hl
 clear hl
 by_cases h6 : l.length ≤ 5
 ·have d6 : decide (5 < (l.length : Int)) = false := by simp; omega
  go_enter Tryz.func45, Tryz.ntmps45
  go_wp2
  go_loopw [12] (fun i wr => ∃ k : Nat, k ≤ l.length ∧ i = .int .i64 k ∧ (List.range k).all (fun i => clB clock (l.getD i default)) = true ∧ Below w.heap.size w wr) (fun i _ => l.length - (intOf i).toNat)
  case atStart => exact ⟨0, Nat.zero_le _, rfl, rfl, Below.refl _ _⟩
  case round =>
   obtain ⟨k, hk, rfl, hx, hb⟩ := hrel
   have HX := Lib.hid hx
   have HB := Lib.hid hb
   clear hx
   by_cases hm : k < l.length
   ·obtain ⟨b, o, rfl, hbb, hr⟩ := SeqAt.at_ (SeqAt.cls HL.out (below_mem hb).1 (below_mem hb).2) (getD_some (d := default) hm)
    obtain ⟨r, hr0⟩ : ∃ r, r = l.getD k default := ⟨_, rfl⟩
    rw [← hr0] at hr
    have c0 := hr.cp
    have c1 := hr.cs
    have c2 := hr.cm
    obtain ⟨A, q, c3, _, hri⟩ := hr.cw
    have c4 := hr.ca
    have j0 : (0 : Int) ≤ (k : Int) := by omega
    have HR := Lib.hid hr0
    obtain ⟨ph, st, cm, ws, at_⟩ := r
    dsimp only at c0 c1 c2 c3 c4 hri
    have HRI := Lib.hid hri
    have hwl : ws.length ≤ 4398046511104 := hri.1
    obtain ⟨W0, hW, k0, k1, k2, k3, k4, hbW, hsW⟩ := box_new wr (.int .i64 ph) (.int .i64 st) (.int .i64 cm) (.slice A ws.length q) (.int .i64 at_) 49
    have HW := Lib.hid hW
    have HBW := Lib.hid hbW
    clear hr0 hr hri hb hW hbW hsW
    by_cases t1 : wrsB ws = true
    ·by_cases t2 : timesB ⟨ph, st, cm, ws, at_⟩ clock = true
     ·by_cases t3 : atB ⟨ph, st, cm, ws, at_⟩ = true
      ·have HT := Lib.hid (show clB clock (l.getD k default) = true by rw [← HR.out]; simp [clB, t1, t2, t3])
       go_wp2_with fail
       rw [← HW.out]
       refine (validWrites_any ws A ws.length q _ rfl (SeqAt.wrs HRI.out (below_mem HBW.out).1 (below_mem HBW.out).2)).mono ?_
       rw [t1]
       rintro e w1 ⟨rfl, hb1⟩
       obtain ⟨g0, g1, g2, g3, g4, _⟩ := boxS k0 k1 k2 k3 k4 hb1
       go_wp2_with fail
       refine (validTimes_any ⟨ph, st, cm, ws, at_⟩ clock A ws.length q w1).mono ?_
       rw [t2]
       rintro e w2 ⟨rfl, hb2⟩
       obtain ⟨g0, g1, g2, g3, g4, _⟩ := boxS g0 g1 g2 g3 g4 hb2
       go_wp2_with fail
       refine (validAt_any ⟨ph, st, cm, ws, at_⟩ A ws.length q w2 rfl hwl).mono ?_
       rw [t3]
       rintro e w3 ⟨rfl, hb3⟩
       go_wp2
       go_roundw
       case rel => exact ⟨k + 1, by omega, by go_num, all_range_succ HX.out HT.out, below_next (below_next (below_next (below_next HB.out HBW.out) hb1) hb2) hb3⟩
       case measure => simp [intOf]; omega
      ·have t3 : atB ⟨ph, st, cm, ws, at_⟩ = false := by simpa using t3
       have HT := Lib.hid (show clB clock (l.getD k default) = false by rw [← HR.out]; simp [clB, t3])
       go_wp2_with fail
       rw [← HW.out]
       refine (validWrites_any ws A ws.length q _ rfl (SeqAt.wrs HRI.out (below_mem HBW.out).1 (below_mem HBW.out).2)).mono ?_
       rw [t1]
       rintro e w1 ⟨rfl, hb1⟩
       obtain ⟨g0, g1, g2, g3, g4, _⟩ := boxS k0 k1 k2 k3 k4 hb1
       go_wp2_with fail
       refine (validTimes_any ⟨ph, st, cm, ws, at_⟩ clock A ws.length q w1).mono ?_
       rw [t2]
       rintro e w2 ⟨rfl, hb2⟩
       obtain ⟨g0, g1, g2, g3, g4, _⟩ := boxS g0 g1 g2 g3 g4 hb2
       go_wp2_with fail
       refine (validAt_any ⟨ph, st, cm, ws, at_⟩ A ws.length q w2 rfl hwl).mono ?_
       rw [t3]
       rintro e w3 ⟨rfl, hb3⟩
       go_wp2
       go_ret
       exact ⟨ret_bool (by rw [clsB, all_range_false (f := fun i => clB clock (l.getD i default)) hm HT.out]; simp), below_next (below_next (below_next (below_next HB.out HBW.out) hb1) hb2) hb3⟩
     ·have t2 : timesB ⟨ph, st, cm, ws, at_⟩ clock = false := by simpa using t2
      have HT := Lib.hid (show clB clock (l.getD k default) = false by rw [← HR.out]; simp [clB, t2])
      go_wp2_with fail
      rw [← HW.out]
      refine (validWrites_any ws A ws.length q _ rfl (SeqAt.wrs HRI.out (below_mem HBW.out).1 (below_mem HBW.out).2)).mono ?_
      rw [t1]
      rintro e w1 ⟨rfl, hb1⟩
      obtain ⟨g0, g1, g2, g3, g4, _⟩ := boxS k0 k1 k2 k3 k4 hb1
      go_wp2_with fail
      refine (validTimes_any ⟨ph, st, cm, ws, at_⟩ clock A ws.length q w1).mono ?_
      rw [t2]
      rintro e w2 ⟨rfl, hb2⟩
      obtain ⟨g0, g1, g2, g3, g4, _⟩ := boxS g0 g1 g2 g3 g4 hb2
      go_wp2
      go_ret
      exact ⟨ret_bool (by rw [clsB, all_range_false (f := fun i => clB clock (l.getD i default)) hm HT.out]; simp), below_next (below_next (below_next HB.out HBW.out) hb1) hb2⟩
    ·have t1 : wrsB ws = false := by simpa using t1
     have HT := Lib.hid (show clB clock (l.getD k default) = false by rw [← HR.out]; simp [clB, t1])
     go_wp2_with fail
     rw [← HW.out]
     refine (validWrites_any ws A ws.length q _ rfl (SeqAt.wrs HRI.out (below_mem HBW.out).1 (below_mem HBW.out).2)).mono ?_
     rw [t1]
     rintro e w1 ⟨rfl, hb1⟩
     obtain ⟨g0, g1, g2, g3, g4, _⟩ := boxS k0 k1 k2 k3 k4 hb1
     go_wp2
     go_ret
     exact ⟨ret_bool (by rw [clsB, all_range_false (f := fun i => clB clock (l.getD i default)) hm HT.out]; simp), below_next (below_next HB.out HBW.out) hb1⟩
   ·have hke : k = l.length := by omega
    subst hke
    clear hb
    go_wp2
    go_ret
    exact ⟨ret_bool (by simp only [clsB, HX.out]; simp; omega), HB.out⟩
 ·have d6 : decide (5 < (l.length : Int)) = true := by simp; omega
  go_enter Tryz.func45, Tryz.ntmps45
  go_wp2
  go_ret
  exact ⟨ret_bool (by simp [clsB, h6]), Below.refl _ _⟩
theorem leS_eq (a b : ByteArray) : (Op.bytesLess a.toList b.toList || a.toList == b.toList) = !ltS b a := by
 cases h : ltS b a
 ·have : Op.bytesLess a.toList b.toList = true ∨ a = b := by
   cases h' : ltS a b
   ·exact .inr (ltS_total h' h)
   ·exact .inl h'
  rcases this with h' | h'
  ·simp [h']
  ·simp [h']
 ·have h1 := ltS_asymm h
  have h2 : a.toList ≠ b.toList := fun e => ltS_ne h (ba_ext e.symm)
  unfold ltS at h1
  simp [h1, h2]
set_option maxHeartbeats 4000000 in
theorem writesMay_any (l : List WrM) (A : Option Addr) (n c : Nat) (w : World) (hn : n = l.length) (hl : WrsAt w (· < w.heap.size) A l) :
 Calls Tryz.prog 60 #[.slice A n c] w fun e w' => e = .returned (.bool (wrsB l)) ∧ Below w.heap.size w w' := by
 subst hn
 have hlen := hl.1
 have HL := Lib.hid hl
 clear hl
 go_enter Tryz.func60, Tryz.ntmps60
 go_wp2
 go_loopw [3] (fun i wr => ∃ k : Nat, k ≤ l.length ∧ i = .int .i64 k ∧ (List.range k).all (wrAtB l) = true ∧ Below w.heap.size w wr) (fun i _ => l.length - (intOf i).toNat)
 case atStart => exact ⟨0, Nat.zero_le _, rfl, rfl, Below.refl _ _⟩
 case round =>
  obtain ⟨k, hk, rfl, hx, hb⟩ := hrel
  have HX := Lib.hid hx
  have HB := Lib.hid hb
  clear hx
  by_cases hm : k < l.length
  ·have hl' := SeqAt.wrs HL.out (below_mem hb).1 (below_mem hb).2
   have hok := SeqAt.wrOk hl' _ (getD_mem (d := default) hm)
   obtain ⟨r, hr0⟩ : ∃ r, r = l.getD k default := ⟨_, rfl⟩
   obtain ⟨b, o, hA, hbb, hr⟩ := SeqAt.at_ hl' (getD_some (d := default) hm)
   rw [← hr0] at hr hok
   have j0 : (0 : Int) ≤ (k : Int) := by omega
   obtain ⟨rk, rv⟩ := r
   obtain ⟨c0, c1, _⟩ := hr
   dsimp only at c0 c1 hok
   have HK := Lib.hid hok.1
   have hv := hok.2
   have hv' : rv.size ≤ 9223372036854775807 := by unfold maxLen at hv; omega
   have HR := Lib.hid (wrAtB_eq l k rk rv hr0)
   clear hv hr0
   subst hA
   by_cases t1 : keyB rk = true
   ·by_cases t3 : rv.size ≤ 20
    ·have d3 : decide (20 < (rv.size : Int)) = false := by simp; omega
     by_cases hk0 : k = 0
     ·have z0 : decide (0 < (k : Int)) = false := by simp; omega
      have z0' : decide (0 < k) = false := by simp; omega
      have HK0 := Lib.hid hk0
      clear hk0
      have HT := Lib.hid (show wrAtB l k = true by rw [HR.out]; simp [t1, t3, HK0.out])
      clear hb hl' hok
      go_wp2
      go_quiet ((go_at_call 18; exact quiet_left (keyMay_any _ _ HK.out)))
      go_wp2
      go_roundw
      case rel => exact ⟨k + 1, by omega, by go_num, all_range_succ HX.out HT.out, below_drewN HB.out _⟩
      case measure => simp [intOf]; omega
     ·obtain ⟨m, rfl⟩ : ∃ m, k = m + 1 := ⟨k - 1, by omega⟩
      obtain ⟨b', o', hA', _, hp⟩ := SeqAt.at_ hl' (getD_some (d := default) (show m < l.length by omega))
      obtain ⟨rfl, rfl⟩ : b = b' ∧ o = o' := by injection hA' with e; injection e with e1 e2; exact ⟨e1, e2⟩
      obtain ⟨p, hp0⟩ : ∃ p, p = l.getD m default := ⟨_, rfl⟩
      rw [← hp0] at hp
      obtain ⟨pk, pv⟩ := p
      have p0 := hp.k
      dsimp only at p0
      have HP := Lib.hid hp0
      have hle := leS_eq rk pk
      clear hp hp0 hA'
      by_cases t2 : ltS pk rk = true
      ·rw [t2] at hle
       have HT := Lib.hid (show wrAtB l (m + 1) = true by rw [HR.out]; simp only [Nat.add_sub_cancel, ← HP.out]; simp [t1, t2, t3])
       clear hb hl' hok t2
       go_wp2
       go_quiet ((go_at_call 18; exact quiet_left (keyMay_any _ _ HK.out)))
       go_wp2
       go_roundw
       case rel => exact ⟨m + 1 + 1, by omega, by go_num, all_range_succ HX.out HT.out, below_drewN HB.out _⟩
       case measure => simp [intOf]; omega
      ·have t2' : ltS pk rk = false := by simpa using t2
       rw [t2'] at hle
       have HT := Lib.hid (show wrAtB l (m + 1) = false by rw [HR.out]; simp only [Nat.add_sub_cancel, ← HP.out]; simp [t2'])
       clear hb hl' hok t2 t2'
       go_wp2
       go_quiet ((go_at_call 18; exact quiet_left (keyMay_any _ _ HK.out)))
       go_wp2
       go_ret
       exact ⟨ret_bool (by simp [wrsB, all_range_false hm HT.out]), below_drewN HB.out _⟩
    ·have d3 : decide (20 < (rv.size : Int)) = true := by simp; omega
     have HT := Lib.hid (show wrAtB l k = false by rw [HR.out]; simp [t3])
     clear hb hl' hok
     go_wp2
     go_quiet ((go_at_call 18; exact quiet_left (keyMay_any _ _ HK.out)))
     go_wp2
     go_ret
     exact ⟨ret_bool (by simp [wrsB, all_range_false hm HT.out]), below_drewN HB.out _⟩
   ·have t1' : keyB rk = false := by simpa using t1
    clear t1
    have HT := Lib.hid (show wrAtB l k = false by rw [HR.out]; simp [t1'])
    clear hb hl' hok
    go_wp2
    go_quiet ((go_at_call 18; exact quiet_left (keyMay_any _ _ HK.out)))
    go_wp2
    go_ret
    exact ⟨ret_bool (by simp [wrsB, all_range_false hm HT.out]), below_drewN HB.out _⟩
  ·have hke : k = l.length := by omega
   subst hke
   clear hb
   go_wp2
   go_ret
   exact ⟨ret_bool (by simp only [wrsB, HX.out]; simp; omega), HB.out⟩
end Go.Proofs.YtambkjnhfejfaaaGreat
