/-
  Contracts of functions of the program and words for memory, several texts in one: RefCommit. Conditions: those stated with each.
-/
import Derived.Test.YtambkjnhfejfaacGreatDoorG02
import Derived.Test.YtambkjnhfejfaacGreatDoorG13
import Derived.Test.YtambkjnhfejfaacGreatDoorG17
namespace Go.Proofs.YtambkjnhfejfaacGreatDoor
open Go.RowKit
set_option linter.unusedVariables false

section
variable (key lp val : ByteArray) (ls : Int) (A : Option Addr) (n c : Nat) (l : List RecM) (st cm : Int) (w : World)

theorem commitFn_err (hi : RowIn w key lp val A n l) (h : commitE key ls lp val l st cm ≠ 0) : Calls Tryz.prog 78 #[rowV key ls lp val A n c, .int .i64 st, .int .i64 cm] w (RowOut2 ⟨#[]⟩ 0 ⟨#[]⟩ ⟨#[]⟩ [] (commitE key ls lp val l st cm) w) := by
  unfold commitE at h ⊢
  split
  · exact commit_state key lp val ls A n c l st cm w hi ‹_›
  rename_i t
  rw [if_neg t] at h
  have t' : rowB key ls lp val l = true := by simpa using t
  split
  · exact commit_range key lp val ls A n c l st cm w hi t' ‹_›
  rename_i t2
  rw [if_neg t2] at h
  have t2' : inB st 1 1099511627776 = true := by simpa using t2
  split
  · exact commit_when key lp val ls A n c l st cm w hi t' t2' ‹_›
  rename_i t3
  rw [if_neg t3] at h
  have t3' : inB cm (st + 1) 1099511627776 = true := by simpa using t3
  split
  · rename_i t4
    exact commit_gone key lp val ls A n c l st cm w hi t' t2' t3' (by simpa using t4)
  rename_i t4
  rw [if_neg t4] at h
  split
  · rename_i t5
    exact commit_none key lp val ls A n c l st cm w hi t' t2' t3' (by simpa using t4) (by rw [beq_eq_false_iff_ne]; exact fun h => t5 (stOf_one.1 h))
  · rename_i t5
    rw [if_neg t5] at h
    exact absurd rfl h
theorem commitFn_ok (hi : RowIn w key lp val A n l) (hcap : n ≤ c) (h : commitE key ls lp val l st cm = 0) : Calls Tryz.prog 78 #[rowV key ls lp val A n c, .int .i64 st, .int .i64 cm] w (RowOut2 key 0 ⟨#[]⟩ ⟨#[]⟩ (endRec l ⟨st, cm, val⟩) 0 w) := by
  unfold commitE at h
  split at h
  · omega
  rename_i t
  split at h
  · omega
  rename_i t2
  split at h
  · omega
  rename_i t3
  split at h
  · omega
  rename_i t4
  split at h
  · omega
  rename_i t5
  have t' : rowB key ls lp val l = true := by simpa using t
  have t2' : inB st 1 1099511627776 = true := by simpa using t2
  have t5' : ls = st := by simpa using t5
  have h1 : 1 ≤ st := (inB_true.1 t2').1
  have hf := lock_free t' (by omega)
  rw [t5'] at hf
  have h99 : n ≤ 100 := by have := hi.n; omega
  rw [← ins_eq_end (recs_ok t') ⟨st, cm, val⟩ hf.1]
  exact commit_ok key lp val ls A n c l st cm w hi t' t2' (by simpa using t3) (by simpa using t4) (by rw [stOf_one.2 t5']; rfl) hcap h99

end
end Go.Proofs.YtambkjnhfejfaacGreatDoor
