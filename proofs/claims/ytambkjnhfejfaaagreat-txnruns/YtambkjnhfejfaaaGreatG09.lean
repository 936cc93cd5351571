/-
  Contracts of functions of the program and words for memory, several texts in one: TCheck1. Conditions: those stated with each.
-/
import Derived.Test.YtambkjnhfejfaaaGreatG02
namespace Go.Proofs.YtambkjnhfejfaaaGreat
open Go.RowKit
def notAfter (clock : Int) (x : RecM) : Bool := decide (x.s ≤ clock) && decide (x.c ≤ clock)
theorem upTo_def (r : RowM) (clock : Int) : r.upTo clock = (r.recs.all (notAfter clock) && decide (r.ls ≤ clock)) := rfl
theorem take_all_snoc {α : Type} {d : α} {p : α → Bool} {l : List α} {k : Nat} (hk : k < l.length) (h : (l.take k).all p = true) (h' : p (l.getD k d) = true) : (l.take (k + 1)).all p = true := by
 rw [List.take_succ_eq_append_getElem hk, List.all_append, h]
 have : l.getD k d = l[k] := by simp [List.getD, hk]
 rw [this] at h'
 simp [h']
theorem all_false_at {α : Type} {d : α} {p : α → Bool} {l : List α} {k : Nat} (hk : k < l.length) (h' : p (l.getD k d) = false) : l.all p = false := by
 rw [List.all_eq_false]
 exact ⟨l.getD k d, getD_mem hk, by rw [h']; decide⟩
set_option maxHeartbeats 1000000 in
theorem upTo_any (r : RowM) (clock : Int) (A : Option Addr) (n c : Nat) (w : World) (hn : n = r.recs.length) (hl : RecsAt w w.heap.size A r.recs) :
 Calls Tryz.prog 64 #[rowV r.key r.ls r.lp r.val A n c, .int .i64 clock] w fun e w' => e = .returned (.bool (r.upTo clock)) ∧ Below w.heap.size w w' := by
 subst hn
 obtain ⟨key, ls, lp, val, l⟩ := r
 dsimp only at hl ⊢
 have hlen := hl.len
 obtain ⟨W0, hW, k0, k1, k2, k3, k4, hbW, hsW⟩ := box_new w (.string key) (.int .i64 ls) (.string lp) (.string val) (.slice A l.length c) 45
 have HW := Lib.hid hW
 have HL := Lib.hid hl
 have K1 := Lib.hid k1
 have hsz : w.heap.size < W0.heap.size := by omega
 have HBW := Lib.hid hbW
 clear hW hl k1 hsW hbW
 go_enter Tryz.func64, Tryz.ntmps64
 go_wp2
 rw [← HW.out]
 go_loopw [10] (fun i wr => ∃ k : Nat, k ≤ l.length ∧ i = .int .i64 k ∧ (l.take k).all (notAfter clock) = true ∧ Below W0.heap.size W0 wr) (fun i _ => l.length - (intOf i).toNat)
 case atStart => exact ⟨0, Nat.zero_le _, rfl, rfl, Below.refl _ _⟩
 case round =>
  obtain ⟨k, hk, rfl, hx, hb⟩ := hrel
  have HX := Lib.hid hx
  have HB := Lib.hid hb
  have q1 : wr.cell? ⟨w.heap.size, 1, none⟩ = some (.int .i64 ls) := (hb.cell (p := ⟨w.heap.size, 1, none⟩) hsz).trans K1.out
  clear hx
  by_cases hm : k < l.length
  ·obtain ⟨b, o, rfl, hbb, hr⟩ := (HL.out.upto (below_next HBW.out hb)).at_ (getD_of hm)
   obtain ⟨r, hr0⟩ : ∃ r, r = l.getD k default := ⟨_, rfl⟩
   rw [← hr0] at hr
   obtain ⟨c0, c1, c2⟩ := hr
   have HR := Lib.hid hr0
   clear hr0 hb
   obtain ⟨rs, rc, rv⟩ := r
   have j0 : (0 : Int) ≤ (k : Int) := by omega
   dsimp only at c0 c1 c2
   by_cases h1 : clock < rs
   ·go_wp2
    go_ret
    refine ⟨ret_bool ?_, ?_⟩
    ·rw [upTo_def, all_false_at (d := default) hm]
     ·rfl
     ·rw [← HR.out]; simp [notAfter]; omega
    ·exact below_alloc (below_next HBW.out HB.out) _
   ·by_cases h2 : clock < rc
    ·go_wp2
     go_ret
     refine ⟨ret_bool ?_, ?_⟩
     ·rw [upTo_def, all_false_at (d := default) hm]
      ·rfl
      ·rw [← HR.out]; simp [notAfter]; omega
     ·exact below_alloc (below_next HBW.out HB.out) _
    ·go_wp2
     go_roundw
     case rel => exact ⟨k + 1, by omega, by go_num, take_all_snoc (d := default) hm HX.out (by rw [← HR.out]; simp [notAfter]; omega), below_alloc HB.out _⟩
     case measure => simp [intOf]; omega
  ·have hke : k = l.length := by omega
   subst hke
   clear hb
   go_wp2
   go_ret
   refine ⟨ret_bool ?_, below_next HBW.out HB.out⟩
   have := HX.out
   rw [List.take_length] at this
   rw [upTo_def, this]; rfl
set_option maxHeartbeats 1000000 in
theorem validTimes_any (c : ClM) (clock : Int) (A : Option Addr) (n k : Nat) (w : World) :
 Calls Tryz.prog 66 #[clV c A n k, .int .i64 clock] w fun e w' => e = .returned (.bool (timesB c clock)) ∧ Below w.heap.size w w' := by
 obtain ⟨ph, st, cm, l, a⟩ := c
 by_cases h0 : ph = 0
 ·subst h0
  by_cases h1 : (st == 0) = true
  all_goals
   try (have h1' : (st == 0) = false := by simpa using h1)
   go_enter Tryz.func66, Tryz.ntmps66
   go_wp2
   go_ret
   exact ⟨ret_bool (by simp_all [timesB]), by repeat (first | with_reducible exact Below.refl _ _ | assumption | with_reducible apply below_alloc | with_reducible apply below_drew | with_reducible apply below_drewN | (with_reducible apply below_next; rotate_left; assumption))⟩
 ·have h0' : (ph == 0) = false := by simpa using h0
  by_cases h3 : ph = 3
  ·subst h3
   by_cases h1 : 1 ≤ st
   all_goals by_cases h2 : st < cm
   all_goals
    go_enter Tryz.func66, Tryz.ntmps66
    go_wp2
    go_ret
    exact ⟨ret_bool (by simp [timesB] <;> omega), by repeat (first | with_reducible exact Below.refl _ _ | assumption | with_reducible apply below_alloc | with_reducible apply below_drew | with_reducible apply below_drewN | (with_reducible apply below_next; rotate_left; assumption))⟩
  ·have h3' : (ph == 3) = false := by simpa using h3
   by_cases h4 : ph = 4
   ·subst h4
    by_cases h1 : 1 ≤ st
    all_goals by_cases h2 : st < cm
    all_goals
     go_enter Tryz.func66, Tryz.ntmps66
     go_wp2
     go_ret
     exact ⟨ret_bool (by simp [timesB] <;> omega), by repeat (first | with_reducible exact Below.refl _ _ | assumption | with_reducible apply below_alloc | with_reducible apply below_drew | with_reducible apply below_drewN | (with_reducible apply below_next; rotate_left; assumption))⟩
   ·have h4' : (ph == 4) = false := by simpa using h4
    have H0 := Lib.hid h0
    have H3 := Lib.hid h3
    have H4 := Lib.hid h4
    clear h0 h3 h4
    by_cases h1 : 1 ≤ st
    all_goals by_cases h2 : st ≤ clock
    all_goals
     go_enter Tryz.func66, Tryz.ntmps66
     go_wp2
     go_ret
     exact ⟨ret_bool (by simp [timesB, H0.out, H3.out, H4.out] <;> omega), by repeat (first | with_reducible exact Below.refl _ _ | assumption | with_reducible apply below_alloc | with_reducible apply below_drew | with_reducible apply below_drewN | (with_reducible apply below_next; rotate_left; assumption))⟩
set_option maxHeartbeats 1000000 in
theorem validAt_any (c : ClM) (A : Option Addr) (n k : Nat) (w : World) (hn : n = c.ws.length) (hl : c.ws.length ≤ 4398046511104) :
 Calls Tryz.prog 67 #[clV c A n k] w fun e w' => e = .returned (.bool (atB c)) ∧ Below w.heap.size w w' := by
 subst hn
 obtain ⟨ph, st, cm, l, a⟩ := c
 dsimp only at hl ⊢
 by_cases h0 : ph = 0
 ·subst h0
  by_cases h1 : l.length = 0
  ·have h1' : ((l.length : Int) == 0) = true := by simpa using h1
   have hE : l = [] := List.eq_nil_of_length_eq_zero h1
   subst hE
   go_enter Tryz.func67, Tryz.ntmps67
   go_wp2
   go_ret
   exact ⟨ret_bool (by simp [atB]), by repeat (first | with_reducible exact Below.refl _ _ | assumption | with_reducible apply below_alloc | with_reducible apply below_drew | with_reducible apply below_drewN | (with_reducible apply below_next; rotate_left; assumption))⟩
  ·have h1' : ((l.length : Int) == 0) = false := by simpa using h1
   have H1 := Lib.hid h1
   have hp : 0 < l.length := by omega
   clear h1
   go_enter Tryz.func67, Tryz.ntmps67
   go_wp2
   go_ret
   refine ⟨ret_bool ?_, by repeat (first | with_reducible exact Below.refl _ _ | assumption | with_reducible apply below_alloc | with_reducible apply below_drew | with_reducible apply below_drewN | (with_reducible apply below_next; rotate_left; assumption))⟩
   cases l with
   | nil => exact absurd rfl H1.out
   | cons x l => simp [atB]
 ·have h0' : (ph == 0) = false := by simpa using h0
  have H0 := Lib.hid h0
  clear h0
  by_cases h1 : ph = 1
  ·subst h1
   go_enter Tryz.func67, Tryz.ntmps67
   go_wp2
   go_ret
   exact ⟨ret_bool (by simp [atB]), by repeat (first | with_reducible exact Below.refl _ _ | assumption | with_reducible apply below_alloc | with_reducible apply below_drew | with_reducible apply below_drewN | (with_reducible apply below_next; rotate_left; assumption))⟩
  ·have h1' : (ph == 1) = false := by simpa using h1
   have H1 := Lib.hid h1
   clear h1
   by_cases h2 : ph = 2
   ·subst h2
    by_cases q1 : 1 ≤ (l.length : Int)
    all_goals by_cases q2 : 0 ≤ a
    all_goals
     go_enter Tryz.func67, Tryz.ntmps67
     go_wp2
     go_ret
     exact ⟨ret_bool (by simp [atB] <;> omega), by repeat (first | with_reducible exact Below.refl _ _ | assumption | with_reducible apply below_alloc | with_reducible apply below_drew | with_reducible apply below_drewN | (with_reducible apply below_next; rotate_left; assumption))⟩
   ·have h2' : (ph == 2) = false := by simpa using h2
    have H2 := Lib.hid h2
    clear h2
    by_cases h3 : ph = 3
    ·subst h3
     by_cases q1 : 1 ≤ (l.length : Int)
     all_goals
      go_enter Tryz.func67, Tryz.ntmps67
      go_wp2
      go_ret
      exact ⟨ret_bool (by simp [atB] <;> omega), by repeat (first | with_reducible exact Below.refl _ _ | assumption | with_reducible apply below_alloc | with_reducible apply below_drew | with_reducible apply below_drewN | (with_reducible apply below_next; rotate_left; assumption))⟩
    ·have h3' : (ph == 3) = false := by simpa using h3
     have H3 := Lib.hid h3
     clear h3
     by_cases h4 : ph = 4
     ·subst h4
      by_cases q1 : 1 ≤ a
      all_goals
       go_enter Tryz.func67, Tryz.ntmps67
       go_wp2
       go_ret
       exact ⟨ret_bool (by simp [atB] <;> omega), by repeat (first | with_reducible exact Below.refl _ _ | assumption | with_reducible apply below_alloc | with_reducible apply below_drew | with_reducible apply below_drewN | (with_reducible apply below_next; rotate_left; assumption))⟩
     ·have h4' : (ph == 4) = false := by simpa using h4
      have H4 := Lib.hid h4
      clear h4
      go_enter Tryz.func67, Tryz.ntmps67
      go_wp2
      go_ret
      exact ⟨ret_bool (by simp [atB, H0.out, H1.out, H2.out, H3.out, H4.out]), by repeat (first | with_reducible exact Below.refl _ _ | assumption | with_reducible apply below_alloc | with_reducible apply below_drew | with_reducible apply below_drewN | (with_reducible apply below_next; rotate_left; assumption))⟩
end Go.Proofs.YtambkjnhfejfaaaGreat
