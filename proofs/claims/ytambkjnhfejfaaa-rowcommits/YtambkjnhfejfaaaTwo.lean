/-
  What a row's box and a record's box hold while calls are made and a result is stored; the errors of Commit and Undo. Conditions: none beyond those stated.
-/
import Derived.Test.YtambkjnhfejfaaaWithRec
namespace Go.Proofs.Ytambkjnhfejfaaa
open Go.RowKit

section
variable {w Wc w' : World} {g r : Nat} {v0 v1 v2 v3 v4 x0 x1 x2 : Value}
/-- Behind a call that turns no old memory. -/
theorem nextS (hb : Below Wc.heap.size Wc w')
    (h : Wc.cell? ⟨g, 0, none⟩ = some v0 ∧ Wc.cell? ⟨g, 1, none⟩ = some v1 ∧ Wc.cell? ⟨g, 2, none⟩ = some v2 ∧ Wc.cell? ⟨g, 3, none⟩ = some v3 ∧ Wc.cell? ⟨g, 4, none⟩ = some v4 ∧ Wc.cell? ⟨r, 0, none⟩ = some x0 ∧ Wc.cell? ⟨r, 1, none⟩ = some x1 ∧ Wc.cell? ⟨r, 2, none⟩ = some x2 ∧ Below w.heap.size w Wc) :
    w'.cell? ⟨g, 0, none⟩ = some v0 ∧ w'.cell? ⟨g, 1, none⟩ = some v1 ∧ w'.cell? ⟨g, 2, none⟩ = some v2 ∧ w'.cell? ⟨g, 3, none⟩ = some v3 ∧ w'.cell? ⟨g, 4, none⟩ = some v4 ∧ w'.cell? ⟨r, 0, none⟩ = some x0 ∧ w'.cell? ⟨r, 1, none⟩ = some x1 ∧ w'.cell? ⟨r, 2, none⟩ = some x2 ∧ Below w.heap.size w w' := by
  obtain ⟨h0, h1, h2, h3, h4, h5, h6, h7, h8⟩ := h
  have hg : g < Wc.heap.size := World.block_lt_of_cell? Wc _ h0
  have hr : r < Wc.heap.size := World.block_lt_of_cell? Wc _ h5
  exact ⟨(hb.cell (p := ⟨g, 0, none⟩) hg).trans h0, (hb.cell (p := ⟨g, 1, none⟩) hg).trans h1, (hb.cell (p := ⟨g, 2, none⟩) hg).trans h2, (hb.cell (p := ⟨g, 3, none⟩) hg).trans h3, (hb.cell (p := ⟨g, 4, none⟩) hg).trans h4,
    (hb.cell (p := ⟨r, 0, none⟩) hr).trans h5, (hb.cell (p := ⟨r, 1, none⟩) hr).trans h6, (hb.cell (p := ⟨r, 2, none⟩) hr).trans h7, below_next h8 hb⟩
/-- Behind a store elsewhere, into memory of the call's own. -/
theorem setS {p : Addr} (hg : p.block ≠ g) (hr : p.block ≠ r) (hw : w.heap.size ≤ p.block) (u : Value)
    (h : Wc.cell? ⟨g, 0, none⟩ = some v0 ∧ Wc.cell? ⟨g, 1, none⟩ = some v1 ∧ Wc.cell? ⟨g, 2, none⟩ = some v2 ∧ Wc.cell? ⟨g, 3, none⟩ = some v3 ∧ Wc.cell? ⟨g, 4, none⟩ = some v4 ∧ Wc.cell? ⟨r, 0, none⟩ = some x0 ∧ Wc.cell? ⟨r, 1, none⟩ = some x1 ∧ Wc.cell? ⟨r, 2, none⟩ = some x2 ∧ Below w.heap.size w Wc) :
    (Wc.setCell p u).cell? ⟨g, 0, none⟩ = some v0 ∧ (Wc.setCell p u).cell? ⟨g, 1, none⟩ = some v1 ∧ (Wc.setCell p u).cell? ⟨g, 2, none⟩ = some v2 ∧ (Wc.setCell p u).cell? ⟨g, 3, none⟩ = some v3 ∧ (Wc.setCell p u).cell? ⟨g, 4, none⟩ = some v4 ∧
      (Wc.setCell p u).cell? ⟨r, 0, none⟩ = some x0 ∧ (Wc.setCell p u).cell? ⟨r, 1, none⟩ = some x1 ∧ (Wc.setCell p u).cell? ⟨r, 2, none⟩ = some x2 ∧ Below w.heap.size w (Wc.setCell p u) := by
  obtain ⟨h0, h1, h2, h3, h4, h5, h6, h7, h8⟩ := h
  have kg : ∀ k, (Wc.setCell p u).cell? ⟨g, k, none⟩ = Wc.cell? ⟨g, k, none⟩ := fun k => World.cell?_setCell_other Wc p ⟨g, k, none⟩ u (fun e => hg (congrArg Addr.block e))
  have kr : ∀ k, (Wc.setCell p u).cell? ⟨r, k, none⟩ = Wc.cell? ⟨r, k, none⟩ := fun k => World.cell?_setCell_other Wc p ⟨r, k, none⟩ u (fun e => hr (congrArg Addr.block e))
  exact ⟨(kg _).trans h0, (kg _).trans h1, (kg _).trans h2, (kg _).trans h3, (kg _).trans h4, (kr _).trans h5, (kr _).trans h6, (kr _).trans h7, below_set h8 hw u⟩
end

/-- P1.6: the error. -/
def commitE (key : ByteArray) (ls : Int) (lp val : ByteArray) (l : List RecM) (st cm : Int) : Int :=
  if rowB key ls lp val l = false then 6 else if inB st 1 1099511627776 = false then 2 else if inB cm (st + 1) 1099511627776 = false then 2 else if stOf ls st l = 3 then 9 else if ¬ ls = st then 5 else 0
/-- P1.7: the error. -/
def undoE (key : ByteArray) (ls : Int) (lp val : ByteArray) (l : List RecM) (st : Int) : Int :=
  if rowB key ls lp val l = false then 6 else if inB st 1 1099511627776 = false then 2 else if stOf ls st l = 2 then 6 else if stOf ls st l = 3 then 0 else if ls = st then 0 else if roomOf ls ≤ (l.length : Int) then 1 else 0

theorem stOf_one {ls st : Int} {l : List RecM} : stOf ls st l = 1 ↔ ls = st := by
  unfold stOf
  split
  · simp [*]
  · split
    · split <;> simp [*]
    · simp [*]
theorem stOf_zero {ls st : Int} {l : List RecM} (h : ¬ ls = st) : stOf ls st l = 0 ↔ hasRec st l = false := by
  unfold stOf
  rw [if_neg h]
  split
  · split <;> simp [*]
  · simp [*]
/-- In a valid row the lock's transaction has no record. -/
theorem lock_free {key : ByteArray} {ls : Int} {lp val : ByteArray} {l : List RecM} (h : rowB key ls lp val l = true) (h0 : ls ≠ 0) : hasRec ls l = false ∧ l.length ≤ 99 := by
  have M := (rowB_iff ..).1 h
  have h2 : roomOf ls = 99 := if_neg h0
  have := M.room
  exact ⟨(M.held h0).1, by omega⟩
theorem row_len {key : ByteArray} {ls : Int} {lp val : ByteArray} {l : List RecM} (h : rowB key ls lp val l = true) : l.length ≤ 100 := by
  have M := (rowB_iff ..).1 h
  have := M.room
  have := roomOf_bd ls
  omega
end Go.Proofs.Ytambkjnhfejfaaa
