/-
  Undo's two functions, case by case. Conditions: the row comes in as it should ('RowIn'), its slice no longer than its capacity.
-/
import Derived.Test.YtambkjnhfejfaaaRefUndo
namespace Go.Proofs.Ytambkjnhfejfaaa
open Go.RowKit
set_option linter.unusedVariables false

/-- The transaction is undone already. -/
structure UGone (key : ByteArray) (ls : Int) (lp val : ByteArray) (l : List RecM) (st : Int) : Prop where
  t : rowB key ls lp val l = true
  t2 : inB st 1 1099511627776 = true
  t4 : stOf ls st l = 3
/-- It has the lock. -/
structure UHeld (key : ByteArray) (ls : Int) (lp val : ByteArray) (l : List RecM) (st : Int) : Prop where
  t : rowB key ls lp val l = true
  t2 : inB st 1 1099511627776 = true
  t6 : ls = st
/-- It is unknown, and there is room. -/
structure UNew (key : ByteArray) (ls : Int) (lp val : ByteArray) (l : List RecM) (st : Int) : Prop where
  t : rowB key ls lp val l = true
  t2 : inB st 1 1099511627776 = true
  t3 : stOf ls st l = 0
  t6 : ¬ ls = st
  t7 : ¬ roomOf ls ≤ (l.length : Int)

theorem undo_cases {key : ByteArray} {ls : Int} {lp val : ByteArray} {l : List RecM} {st : Int} (h : undoE key ls lp val l st = 0) : UGone key ls lp val l st ∨ UHeld key ls lp val l st ∨ UNew key ls lp val l st := by
  unfold undoE at h
  split at h
  · omega
  rename_i t
  split at h
  · omega
  rename_i t2
  have t' : rowB key ls lp val l = true := by simpa using t
  have t2' : inB st 1 1099511627776 = true := by simpa using t2
  split at h
  · omega
  rename_i t3
  split at h
  · rename_i t4; exact .inl ⟨t', t2', t4⟩
  rename_i t4
  split at h
  · rename_i t5; exact .inr (.inl ⟨t', t2', t5⟩)
  rename_i t5
  split at h
  · omega
  rename_i t6
  refine .inr (.inr ⟨t', t2', ?_, t5, t6⟩)
  rcases stOf_cases ls st l with h | h | h | h
  · exact h
  · exact absurd (stOf_one.1 h) t5
  · exact absurd h t3
  · exact absurd h t4

section
variable (key lp val : ByteArray) (ls : Int) (A : Option Addr) (n c : Nat) (l : List RecM) (st : Int) (w : World)

theorem undoFn_gone (hi : RowIn w key lp val A n l) (hcap : n ≤ c) (h : UGone key ls lp val l st) : Calls Try.prog 28 #[rowV key ls lp val A n c, .int .i64 st] w (RowOut2 key ls lp val l 0 w) :=
  undo_gone key lp val ls A n c l st w hi h.t h.t2 (by rw [h.t4]; rfl) (by rw [h.t4]; rfl)
theorem undoRef_gone (hi : RowIn w key lp val A n l) (hcap : n ≤ c) (h : UGone key ls lp val l st) : Calls Try.prog 29 #[rowV key ls lp val A n c, .int .i64 st] w (RowOut2 key ls lp val l 0 w) :=
  undone_gone key lp val ls A n c l st w hi h.t h.t2 (by rw [h.t4]; rfl) (by rw [h.t4]; rfl)
theorem undoFn_held (hi : RowIn w key lp val A n l) (hcap : n ≤ c) (h : UHeld key ls lp val l st) : Calls Try.prog 28 #[rowV key ls lp val A n c, .int .i64 st] w (RowOut2 key 0 ⟨#[]⟩ ⟨#[]⟩ (endRec l ⟨st, 0, ⟨#[]⟩⟩) 0 w) := by
  have h1 : 1 ≤ st := (inB_true.1 h.t2).1
  have hf := lock_free h.t (by have := h.t6; omega)
  have h6 : stOf ls st l = 1 := stOf_one.2 h.t6
  rw [h.t6] at hf
  rw [← ins_eq_end (recs_ok h.t) ⟨st, 0, ⟨#[]⟩⟩ hf.1]
  exact undo_held key lp val ls A n c l st w hi h.t h.t2 (by rw [h6]; rfl) (by rw [h6]; rfl) (by rw [h6]; rfl) hcap (by have := hi.n; omega)
theorem undoRef_held (hi : RowIn w key lp val A n l) (hcap : n ≤ c) (h : UHeld key ls lp val l st) : Calls Try.prog 29 #[rowV key ls lp val A n c, .int .i64 st] w (RowOut2 key 0 ⟨#[]⟩ ⟨#[]⟩ (endRec l ⟨st, 0, ⟨#[]⟩⟩) 0 w) := by
  have h1 : 1 ≤ st := (inB_true.1 h.t2).1
  have hf := lock_free h.t (by have := h.t6; omega)
  have h6 : stOf ls st l = 1 := stOf_one.2 h.t6
  exact undone_held key lp val ls A n c l st w hi h.t h.t2 (by rw [h6]; rfl) (by rw [h6]; rfl) (by rw [h6]; rfl) h.t6 (by have := hi.n; omega)
theorem undoFn_new (hi : RowIn w key lp val A n l) (hcap : n ≤ c) (h : UNew key ls lp val l st) : Calls Try.prog 28 #[rowV key ls lp val A n c, .int .i64 st] w (RowOut2 key ls lp val (endRec l ⟨st, 0, ⟨#[]⟩⟩) 0 w) := by
  have hl := row_len h.t
  rw [← ins_eq_end (recs_ok h.t) ⟨st, 0, ⟨#[]⟩⟩ ((stOf_zero h.t6).1 h.t3)]
  exact undo_new key lp val ls A n c l st w hi h.t h.t2 (by rw [h.t3]; rfl) (by rw [h.t3]; rfl) (by rw [h.t3]; rfl) (decide_eq_false h.t7) hcap (by have := hi.n; omega)
theorem undoRef_new (hi : RowIn w key lp val A n l) (hcap : n ≤ c) (h : UNew key ls lp val l st) : Calls Try.prog 29 #[rowV key ls lp val A n c, .int .i64 st] w (RowOut2 key ls lp val (endRec l ⟨st, 0, ⟨#[]⟩⟩) 0 w) := by
  have hl := row_len h.t
  exact undone_new key lp val ls A n c l st w hi h.t h.t2 (by rw [h.t3]; rfl) (by rw [h.t3]; rfl) (by rw [h.t3]; rfl) (decide_eq_false h.t7) (by simpa using h.t6) (by have := hi.n; omega)
end
end Go.Proofs.Ytambkjnhfejfaaa
