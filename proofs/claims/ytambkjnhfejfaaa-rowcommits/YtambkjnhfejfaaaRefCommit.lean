/-
  Contract of rickyardref.CommittedOf. Conditions: the row comes in as it should ('RowIn').
-/
import Derived.Test.YtambkjnhfejfaaaCommit
import Derived.Test.YtambkjnhfejfaaaEnded
import Derived.Test.YtambkjnhfejfaaaRefStatus
namespace Go.Proofs.Ytambkjnhfejfaaa
open Go.RowKit
set_option linter.unusedVariables false

section
variable (key lp val : ByteArray) (ls : Int) (A : Option Addr) (n c : Nat) (l : List RecM) (st cm : Int) (w : World)

set_option maxHeartbeats 2000000 in
theorem committed_state (hi : RowIn w key lp val A n l) (t : rowB key ls lp val l = false) :
    Calls Try.prog 27 #[rowV key ls lp val A n c, .int .i64 st, .int .i64 cm] w (RowOut2 ⟨#[]⟩ 0 ⟨#[]⟩ ⟨#[]⟩ [] 6 w) := by
  obtain ⟨W0, hW, k0, k1, k2, k3, k4, hz, hbW, hsW⟩ := box2_new w (.string key) (.int .i64 ls) (.string lp) (.string val) (.slice A n c)
  have HW := Lib.hid hW
  have HI0 := Lib.hid hi
  have HI := Lib.hid (hi.upto hbW)
  have HZ := Lib.hid hz
  have hlen := hi.l.len
  have hsz : w.heap.size + 1 < W0.heap.size := by omega
  clear hW hi hz hsW
  go_enter Try.func27, Try.ntmps27
  go_wp2_with fail
  rw [← HW.out]
  refine (refStatus_state key lp val ls A n c l st W0 HI.out t).mono ?_
  rintro e w1 ⟨rfl, hb1⟩
  obtain ⟨g0, g1, g2, g3, g4, _⟩ := boxS k0 k1 k2 k3 k4 hb1
  obtain ⟨z0, z1, z2, z3, z4, u0, u1, u2, u3, u4⟩ := zero_facts (HZ.out.keep (hb1.block _ hsz))
  go_wp2
  refine bodyPost_ret (v := .tuple #[rowV ⟨#[]⟩ 0 ⟨#[]⟩ ⟨#[]⟩ none 0 0, .int .i64 6]) (by simp [results, Try.results27, go_sem, z0, z1, z2, z3, z4]) rfl ⟨none, 0, rfl, RecsAt.nil_ _ _ _, ⟨newAt_none _, Nat.le_refl _⟩, ?_⟩
  have hbw : Below w.heap.size w w1 := below_next hbW hb1
  repeat (refine below_set ?_ (by simp) _)
  exact hbw

set_option maxHeartbeats 2000000 in
theorem committed_range (hi : RowIn w key lp val A n l) (t : rowB key ls lp val l = true) (t2 : inB st 1 1099511627776 = false) :
    Calls Try.prog 27 #[rowV key ls lp val A n c, .int .i64 st, .int .i64 cm] w (RowOut2 ⟨#[]⟩ 0 ⟨#[]⟩ ⟨#[]⟩ [] 2 w) := by
  obtain ⟨W0, hW, k0, k1, k2, k3, k4, hz, hbW, hsW⟩ := box2_new w (.string key) (.int .i64 ls) (.string lp) (.string val) (.slice A n c)
  have HW := Lib.hid hW
  have HI0 := Lib.hid hi
  have HI := Lib.hid (hi.upto hbW)
  have HZ := Lib.hid hz
  have hlen := hi.l.len
  have hsz : w.heap.size + 1 < W0.heap.size := by omega
  clear hW hi hz hsW
  go_enter Try.func27, Try.ntmps27
  go_wp2_with fail
  rw [← HW.out]
  refine (refStatus_range key lp val ls A n c l st W0 HI.out t t2).mono ?_
  rintro e w1 ⟨rfl, hb1⟩
  obtain ⟨g0, g1, g2, g3, g4, _⟩ := boxS k0 k1 k2 k3 k4 hb1
  obtain ⟨z0, z1, z2, z3, z4, u0, u1, u2, u3, u4⟩ := zero_facts (HZ.out.keep (hb1.block _ hsz))
  go_wp2
  refine bodyPost_ret (v := .tuple #[rowV ⟨#[]⟩ 0 ⟨#[]⟩ ⟨#[]⟩ none 0 0, .int .i64 2]) (by simp [results, Try.results27, go_sem, z0, z1, z2, z3, z4]) rfl ⟨none, 0, rfl, RecsAt.nil_ _ _ _, ⟨newAt_none _, Nat.le_refl _⟩, ?_⟩
  have hbw : Below w.heap.size w w1 := below_next hbW hb1
  repeat (refine below_set ?_ (by simp) _)
  exact hbw

set_option maxHeartbeats 2000000 in
theorem committed_when (hi : RowIn w key lp val A n l) (t : rowB key ls lp val l = true) (t2 : inB st 1 1099511627776 = true) (t3 : inB cm (st + 1) 1099511627776 = false) :
    Calls Try.prog 27 #[rowV key ls lp val A n c, .int .i64 st, .int .i64 cm] w (RowOut2 ⟨#[]⟩ 0 ⟨#[]⟩ ⟨#[]⟩ [] 2 w) := by
  obtain ⟨W0, hW, k0, k1, k2, k3, k4, hz, hbW, hsW⟩ := box2_new w (.string key) (.int .i64 ls) (.string lp) (.string val) (.slice A n c)
  have HW := Lib.hid hW
  have HI0 := Lib.hid hi
  have HI := Lib.hid (hi.upto hbW)
  have HZ := Lib.hid hz
  have hlen := hi.l.len
  have hsz : w.heap.size + 1 < W0.heap.size := by omega
  clear hW hi hz hsW
  obtain ⟨h1, h2⟩ := inB_true.1 t2
  go_enter Try.func27, Try.ntmps27
  go_wp2_with fail
  rw [← HW.out]
  refine (refStatus_ok key lp val ls A n c l st W0 HI.out t t2).mono ?_
  rintro e w1 ⟨rfl, hb1⟩
  obtain ⟨g0, g1, g2, g3, g4, _⟩ := boxS k0 k1 k2 k3 k4 hb1
  obtain ⟨z0, z1, z2, z3, z4, u0, u1, u2, u3, u4⟩ := zero_facts (HZ.out.keep (hb1.block _ hsz))
  go_wp2_with (go_at_call 34; refine (in_any _ _ _ _).mono ?_; rintro e w' ⟨rfl, rfl⟩)
  refine bodyPost_ret (v := .tuple #[rowV ⟨#[]⟩ 0 ⟨#[]⟩ ⟨#[]⟩ none 0 0, .int .i64 2]) (by simp [results, Try.results27, go_sem, z0, z1, z2, z3, z4]) rfl ⟨none, 0, rfl, RecsAt.nil_ _ _ _, ⟨newAt_none _, Nat.le_refl _⟩, ?_⟩
  have hbw : Below w.heap.size w w1 := below_next hbW hb1
  repeat (refine below_set ?_ (by simp) _)
  exact hbw

set_option maxHeartbeats 2000000 in
theorem committed_gone (hi : RowIn w key lp val A n l) (t : rowB key ls lp val l = true) (t2 : inB st 1 1099511627776 = true) (t3 : inB cm (st + 1) 1099511627776 = true) (t4 : (stOf ls st l == 3) = true) :
    Calls Try.prog 27 #[rowV key ls lp val A n c, .int .i64 st, .int .i64 cm] w (RowOut2 ⟨#[]⟩ 0 ⟨#[]⟩ ⟨#[]⟩ [] 9 w) := by
  obtain ⟨W0, hW, k0, k1, k2, k3, k4, hz, hbW, hsW⟩ := box2_new w (.string key) (.int .i64 ls) (.string lp) (.string val) (.slice A n c)
  have HW := Lib.hid hW
  have HI0 := Lib.hid hi
  have HI := Lib.hid (hi.upto hbW)
  have HZ := Lib.hid hz
  have hlen := hi.l.len
  have hsz : w.heap.size + 1 < W0.heap.size := by omega
  clear hW hi hz hsW
  obtain ⟨h1, h2⟩ := inB_true.1 t2
  go_enter Try.func27, Try.ntmps27
  go_wp2_with fail
  rw [← HW.out]
  refine (refStatus_ok key lp val ls A n c l st W0 HI.out t t2).mono ?_
  rintro e w1 ⟨rfl, hb1⟩
  obtain ⟨g0, g1, g2, g3, g4, _⟩ := boxS k0 k1 k2 k3 k4 hb1
  obtain ⟨z0, z1, z2, z3, z4, u0, u1, u2, u3, u4⟩ := zero_facts (HZ.out.keep (hb1.block _ hsz))
  go_wp2_with (go_at_call 34; refine (in_any _ _ _ _).mono ?_; rintro e w' ⟨rfl, rfl⟩)
  refine bodyPost_ret (v := .tuple #[rowV ⟨#[]⟩ 0 ⟨#[]⟩ ⟨#[]⟩ none 0 0, .int .i64 9]) (by simp [results, Try.results27, go_sem, z0, z1, z2, z3, z4]) rfl ⟨none, 0, rfl, RecsAt.nil_ _ _ _, ⟨newAt_none _, Nat.le_refl _⟩, ?_⟩
  have hbw : Below w.heap.size w w1 := below_next hbW hb1
  repeat (refine below_set ?_ (by simp) _)
  exact hbw

set_option maxHeartbeats 2000000 in
theorem committed_none (hi : RowIn w key lp val A n l) (t : rowB key ls lp val l = true) (t2 : inB st 1 1099511627776 = true) (t3 : inB cm (st + 1) 1099511627776 = true) (t4 : (stOf ls st l == 3) = false) (t5 : (stOf ls st l != 1) = true) :
    Calls Try.prog 27 #[rowV key ls lp val A n c, .int .i64 st, .int .i64 cm] w (RowOut2 ⟨#[]⟩ 0 ⟨#[]⟩ ⟨#[]⟩ [] 5 w) := by
  obtain ⟨W0, hW, k0, k1, k2, k3, k4, hz, hbW, hsW⟩ := box2_new w (.string key) (.int .i64 ls) (.string lp) (.string val) (.slice A n c)
  have HW := Lib.hid hW
  have HI0 := Lib.hid hi
  have HI := Lib.hid (hi.upto hbW)
  have HZ := Lib.hid hz
  have hlen := hi.l.len
  have hsz : w.heap.size + 1 < W0.heap.size := by omega
  clear hW hi hz hsW
  obtain ⟨h1, h2⟩ := inB_true.1 t2
  go_enter Try.func27, Try.ntmps27
  go_wp2_with fail
  rw [← HW.out]
  refine (refStatus_ok key lp val ls A n c l st W0 HI.out t t2).mono ?_
  rintro e w1 ⟨rfl, hb1⟩
  obtain ⟨g0, g1, g2, g3, g4, _⟩ := boxS k0 k1 k2 k3 k4 hb1
  obtain ⟨z0, z1, z2, z3, z4, u0, u1, u2, u3, u4⟩ := zero_facts (HZ.out.keep (hb1.block _ hsz))
  go_wp2_with (go_at_call 34; refine (in_any _ _ _ _).mono ?_; rintro e w' ⟨rfl, rfl⟩)
  refine bodyPost_ret (v := .tuple #[rowV ⟨#[]⟩ 0 ⟨#[]⟩ ⟨#[]⟩ none 0 0, .int .i64 5]) (by simp [results, Try.results27, go_sem, z0, z1, z2, z3, z4]) rfl ⟨none, 0, rfl, RecsAt.nil_ _ _ _, ⟨newAt_none _, Nat.le_refl _⟩, ?_⟩
  have hbw : Below w.heap.size w w1 := below_next hbW hb1
  repeat (refine below_set ?_ (by simp) _)
  exact hbw

set_option maxHeartbeats 4000000 in
theorem committed_ok (hi : RowIn w key lp val A n l) (t : rowB key ls lp val l = true) (t2 : inB st 1 1099511627776 = true) (t3 : inB cm (st + 1) 1099511627776 = true) (t4 : (stOf ls st l == 3) = false) (t5 : (stOf ls st l != 1) = false) (t6 : ls = st) (h99 : n ≤ 100) :
    Calls Try.prog 27 #[rowV key ls lp val A n c, .int .i64 st, .int .i64 cm] w (RowOut2 key 0 ⟨#[]⟩ ⟨#[]⟩ (endRec l ⟨st, cm, val⟩) 0 w) := by
  subst t6
  obtain ⟨W0, hW, k0, k1, k2, k3, k4, hz, hbW, hsW⟩ := box2_new w (.string key) (.int .i64 ls) (.string lp) (.string val) (.slice A n c)
  have HW := Lib.hid hW
  have HI0 := Lib.hid hi
  have HI := Lib.hid (hi.upto hbW)
  have HZ := Lib.hid hz
  have hlen := hi.l.len
  have hsz : w.heap.size + 1 < W0.heap.size := by omega
  clear hW hi hz hsW
  have HRK := Lib.hid (show RecOk ⟨ls, cm, val⟩ from ⟨by have := inB_true.1 t2; unfold i64; dsimp only; omega, by have := inB_true.1 t3; have := inB_true.1 t2; unfold i64; dsimp only; omega, HI0.out.v⟩)
  obtain ⟨h1, h2⟩ := inB_true.1 t2
  go_enter Try.func27, Try.ntmps27
  go_wp2_with fail
  rw [← HW.out]
  refine (refStatus_ok key lp val ls A n c l ls W0 HI.out t t2).mono ?_
  rintro e w1 ⟨rfl, hb1⟩
  obtain ⟨g0, g1, g2, g3, g4, _⟩ := boxS k0 k1 k2 k3 k4 hb1
  obtain ⟨z0, z1, z2, z3, z4, u0, u1, u2, u3, u4⟩ := zero_facts (HZ.out.keep (hb1.block _ hsz))
  clear z0 z1 z2 z3 z4 u0 u1 u2 u3 u4
  have hs1 : w.heap.size + 1 < w1.heap.size := by have := hb1.size; omega
  go_wp2_with (go_at_call 34; refine (in_any _ _ _ _).mono ?_; rintro e w' ⟨rfl, rfl⟩)
  refine (ended_own key lp val A n c l ls cm val w1 HI.out.n h99 (HI.out.l.upto hb1) HRK.out).mono ?_
  rintro e w2 ⟨A2, c2, rfl, hr2, hnew, hb2⟩
  have HR2 := Lib.hid hr2
  have HN2 := Lib.hid hnew
  have hb12 : Below W0.heap.size W0 w2 := below_next hb1 hb2
  obtain ⟨z0, z1, z2, z3, z4, u0, u1, u2, u3, u4⟩ := zero_facts (HZ.out.keep (hb12.block _ hsz))
  clear hr2 hnew
  go_wp2
  refine bodyPost_ret (v := .tuple #[rowV key 0 ⟨#[]⟩ ⟨#[]⟩ A2 (endRec l ⟨ls, cm, val⟩).length c2, .int .i64 0]) (by simp [results, Try.results27, go_sem, z0, z1, z2, z3, z4]) rfl ⟨A2, c2, rfl, ?_, ⟨fun ad h => by have := HN2.out.1 ad h; omega, HN2.out.2⟩, ?_⟩
  · have e : ∀ (W : World) (p : Addr) (u : Value), (W.setCell p u).heap.size = W.heap.size := fun W p u => by simp [World.setCell]
    rw [e, e, e, e, e]
    repeat (refine RecsAt.setLow ?_ HN2.out.1 hs1 _)
    exact HR2.out
  · have hbw : Below w.heap.size w w2 := below_next hbW hb12
    repeat (refine below_set ?_ (by simp) _)
    exact hbw

theorem commitFn_err (hi : RowIn w key lp val A n l) (h : commitE key ls lp val l st cm ≠ 0) : Calls Try.prog 26 #[rowV key ls lp val A n c, .int .i64 st, .int .i64 cm] w (RowOut2 ⟨#[]⟩ 0 ⟨#[]⟩ ⟨#[]⟩ [] (commitE key ls lp val l st cm) w) := by
  unfold commitE at h ⊢
  split
  · exact commit_state key lp val ls A n c l st cm w hi ‹_›
  rename_i t
  rw [if_neg t] at h
  have t' : rowB key ls lp val l = true := by simpa using t
  split
  · exact commit_range key lp val ls A n c l st cm w hi t' ‹_›
  rename_i t2
  rw [if_neg t2] at h
  have t2' : inB st 1 1099511627776 = true := by simpa using t2
  split
  · exact commit_when key lp val ls A n c l st cm w hi t' t2' ‹_›
  rename_i t3
  rw [if_neg t3] at h
  have t3' : inB cm (st + 1) 1099511627776 = true := by simpa using t3
  split
  · rename_i t4
    exact commit_gone key lp val ls A n c l st cm w hi t' t2' t3' (by simpa using t4)
  rename_i t4
  rw [if_neg t4] at h
  split
  · rename_i t5
    exact commit_none key lp val ls A n c l st cm w hi t' t2' t3' (by simpa using t4) (by rw [beq_eq_false_iff_ne]; exact fun h => t5 (stOf_one.1 h))
  · rename_i t5
    rw [if_neg t5] at h
    exact absurd rfl h
theorem commitFn_ok (hi : RowIn w key lp val A n l) (hcap : n ≤ c) (h : commitE key ls lp val l st cm = 0) : Calls Try.prog 26 #[rowV key ls lp val A n c, .int .i64 st, .int .i64 cm] w (RowOut2 key 0 ⟨#[]⟩ ⟨#[]⟩ (endRec l ⟨st, cm, val⟩) 0 w) := by
  unfold commitE at h
  split at h
  · omega
  rename_i t
  split at h
  · omega
  rename_i t2
  split at h
  · omega
  rename_i t3
  split at h
  · omega
  rename_i t4
  split at h
  · omega
  rename_i t5
  have t' : rowB key ls lp val l = true := by simpa using t
  have t2' : inB st 1 1099511627776 = true := by simpa using t2
  have t5' : ls = st := by simpa using t5
  have h1 : 1 ≤ st := (inB_true.1 t2').1
  have hf := lock_free t' (by omega)
  rw [t5'] at hf
  have h99 : n ≤ 100 := by have := hi.n; omega
  rw [← ins_eq_end (recs_ok t') ⟨st, cm, val⟩ hf.1]
  exact commit_ok key lp val ls A n c l st cm w hi t' t2' (by simpa using t3) (by simpa using t4) (by rw [stOf_one.2 t5']; rfl) hcap h99

theorem commitRef_err (hi : RowIn w key lp val A n l) (h : commitE key ls lp val l st cm ≠ 0) : Calls Try.prog 27 #[rowV key ls lp val A n c, .int .i64 st, .int .i64 cm] w (RowOut2 ⟨#[]⟩ 0 ⟨#[]⟩ ⟨#[]⟩ [] (commitE key ls lp val l st cm) w) := by
  unfold commitE at h ⊢
  split
  · exact committed_state key lp val ls A n c l st cm w hi ‹_›
  rename_i t
  rw [if_neg t] at h
  have t' : rowB key ls lp val l = true := by simpa using t
  split
  · exact committed_range key lp val ls A n c l st cm w hi t' ‹_›
  rename_i t2
  rw [if_neg t2] at h
  have t2' : inB st 1 1099511627776 = true := by simpa using t2
  split
  · exact committed_when key lp val ls A n c l st cm w hi t' t2' ‹_›
  rename_i t3
  rw [if_neg t3] at h
  have t3' : inB cm (st + 1) 1099511627776 = true := by simpa using t3
  split
  · rename_i t4
    exact committed_gone key lp val ls A n c l st cm w hi t' t2' t3' (by simpa using t4)
  rename_i t4
  rw [if_neg t4] at h
  split
  · rename_i t5
    exact committed_none key lp val ls A n c l st cm w hi t' t2' t3' (by simpa using t4) (by rw [bne_iff_ne]; exact fun h => t5 (stOf_one.1 h))
  · rename_i t5
    rw [if_neg t5] at h
    exact absurd rfl h
theorem commitRef_ok (hi : RowIn w key lp val A n l) (hcap : n ≤ c) (h : commitE key ls lp val l st cm = 0) : Calls Try.prog 27 #[rowV key ls lp val A n c, .int .i64 st, .int .i64 cm] w (RowOut2 key 0 ⟨#[]⟩ ⟨#[]⟩ (endRec l ⟨st, cm, val⟩) 0 w) := by
  unfold commitE at h
  split at h
  · omega
  rename_i t
  split at h
  · omega
  rename_i t2
  split at h
  · omega
  rename_i t3
  split at h
  · omega
  rename_i t4
  split at h
  · omega
  rename_i t5
  have t' : rowB key ls lp val l = true := by simpa using t
  have t2' : inB st 1 1099511627776 = true := by simpa using t2
  have t5' : ls = st := by simpa using t5
  have h1 : 1 ≤ st := (inB_true.1 t2').1
  have hf := lock_free t' (by omega)
  rw [t5'] at hf
  have h99 : n ≤ 100 := by have := hi.n; omega
  skip
  exact committed_ok key lp val ls A n c l st cm w hi t' t2' (by simpa using t3) (by simpa using t4) (by rw [stOf_one.2 t5']; rfl) t5' h99
end
end Go.Proofs.Ytambkjnhfejfaaa
