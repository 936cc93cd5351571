/-
  Plain mathematics: which error LockFor returns (P1.5). Conditions: none.
-/
import Derived.Test.YtambkjnhfejfaaaStatusPure
namespace Go.Proofs.Ytambkjnhfejfaaa
open Go.RowKit

/-- Is there a record that was committed behind the start? -/
def lateB (st : Int) (l : List RecM) : Bool := decide (0 ≤ lastIx (fun r => decide (st < r.c)) l)
/-- P1.5: the error. -/
def lockE (key : ByteArray) (ls : Int) (lp val : ByteArray) (l : List RecM) (st : Int) (pk pv : ByteArray) : Int :=
  if rowB key ls lp val l = false then 6 else if inB st 1 1099511627776 = false then 2 else if keyB pk = false then 4 else if 20 < pv.size then 1 else if stOf ls st l = 3 then 9
  else if lateB st l = true then 8 else if ls ≠ 0 then 7 else if 100 ≤ l.length then 1 else 0

theorem lateB_false {st : Int} {l : List RecM} : lateB st l = false ↔ ∀ r ∈ l, r.c ≤ st := by
  unfold lateB
  rw [decide_eq_false_iff_not]
  have h := lastIx_neg (fun r => decide (st < r.c)) l
  constructor
  · intro h0 r hr
    have := h.1 (by omega) r hr
    simpa using this
  · intro h0 h1
    have := h.2 (fun r hr => by have := h0 r hr; simpa using this)
    omega
theorem late_at {st : Int} {l : List RecM} {k : Nat} (hk : k < l.length) (h : st < (l.getD k default).c) : lateB st l = true := by
  cases e : lateB st l
  · have := lateB_false.1 e (l.getD k default) (by simp [List.getD, hk])
    omega
  · rfl
theorem late_none {st : Int} {l : List RecM} (h : ∀ j, j < l.length → (l.getD j default).c ≤ st) : lateB st l = false := by
  refine lateB_false.2 fun r hr => ?_
  obtain ⟨i, hi, rfl⟩ := List.getElem_of_mem hr
  have := h i hi
  rwa [getD_get hi] at this
end Go.Proofs.Ytambkjnhfejfaaa
