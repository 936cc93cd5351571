/-
  Plain mathematics: a record laid into its place. Conditions: none.
-/
import Derived.Test.YtambkjnhfejfaaaReadPure
namespace Go.Proofs.Ytambkjnhfejfaaa
open Go.RowKit

/-- The place of a record with this Start. -/
def placeOf (st : Int) (l : List RecM) : Nat := (lastIx (fun x => decide (x.s < st)) l + 1).toNat
/-- The records with one more, as the program lays it. -/
def insRec (l : List RecM) (r : RecM) : List RecM := l.take (placeOf r.s l) ++ [r] ++ l.drop (placeOf r.s l)
/-- The records with one more, as the reference lays it. -/
def endRec (l : List RecM) (r : RecM) : List RecM := l.filter (fun x => decide (x.s < r.s)) ++ [r] ++ l.filter (fun x => decide (r.s < x.s))

theorem placeOf_le (st : Int) (l : List RecM) : placeOf st l ≤ l.length := by
  have := lastIx_bd (fun x => decide (x.s < st)) l
  unfold placeOf; omega
theorem placeOf_eq (st : Int) (l : List RecM) : lastIx (fun x => decide (x.s < st)) l + 1 = (placeOf st l : Int) := by
  have := lastIx_bd (fun x => decide (x.s < st)) l
  unfold placeOf; omega

theorem lastIx_fit (p : RecM → Bool) (l : List RecM) (i : Nat) (h : lastIx p l = (i : Int)) : p (l.getD i default) = true ∧ ∀ j, i < j → j < l.length → p (l.getD j default) = false := by
  have key : ∀ k, lastUpto p l k = (i : Int) → p (l.getD i default) = true ∧ ∀ j, i < j → j < k → p (l.getD j default) = false := by
    intro k
    induction k with
    | zero => intro e; simp [lastUpto] at e
    | succ k ih =>
      intro e
      simp only [lastUpto] at e
      split at e
      · rename_i hq
        have : k = i := by omega
        subst this
        exact ⟨hq, fun j h1 h2 => by omega⟩
      · rename_i hq
        obtain ⟨a, b⟩ := ih e
        refine ⟨a, fun j h1 h2 => ?_⟩
        by_cases ej : j = k
        · subst ej; simpa using hq
        · exact b j h1 (by omega)
  exact key _ h

/-- Where the Starts increase, the place parts the smaller ones from the others. -/
theorem place_parts {l : List RecM} (h : recsFrom 0 0 l = true) (st : Int) : (∀ j, j < placeOf st l → (l.getD j default).s < st) ∧ (∀ j, placeOf st l ≤ j → j < l.length → ¬ (l.getD j default).s < st) := by
  obtain ⟨_, hp⟩ := (recsFrom_iff l 0 0).1 h
  rw [List.pairwise_iff_getElem] at hp
  by_cases h0 : lastIx (fun x => decide (x.s < st)) l < 0
  · have e : placeOf st l = 0 := by have := lastIx_bd (fun x => decide (x.s < st)) l; unfold placeOf; omega
    rw [e]
    refine ⟨fun j hj => by omega, fun j _ hj => ?_⟩
    have := (lastIx_neg _ _).1 h0 (l.getD j default) (by simp [List.getD, hj])
    simpa using this
  · obtain ⟨i, hi⟩ : ∃ i : Nat, lastIx (fun x => decide (x.s < st)) l = (i : Int) := ⟨(lastIx (fun x => decide (x.s < st)) l).toNat, by omega⟩
    have hil : i < l.length := by have := (lastIx_bd (fun x => decide (x.s < st)) l).2; omega
    have e : placeOf st l = i + 1 := by unfold placeOf; omega
    obtain ⟨a, b⟩ := lastIx_fit _ l i hi
    rw [e]
    have a' : (l.getD i default).s < st := by simpa using a
    refine ⟨fun j hj => ?_, fun j hj hjl => by have := b j (by omega) hjl; simpa using this⟩
    by_cases ej : j = i
    · subst ej; exact a'
    · have := (hp j i (by omega) hil (by omega)).1
      rw [getD_get hil] at a'
      rw [getD_get (by omega)]
      omega

theorem filter_take_drop {l : List RecM} {k : Nat} (hk : k ≤ l.length) (p : RecM → Bool) (h1 : ∀ j, j < k → p (l.getD j default) = true) (h2 : ∀ j, k ≤ j → j < l.length → p (l.getD j default) = false) : l.filter p = l.take k := by
  have e : l = l.take k ++ l.drop k := (List.take_append_drop k l).symm
  have f1 : (l.take k).filter p = l.take k := by
    rw [List.filter_eq_self]
    intro x hx
    obtain ⟨i, hi, rfl⟩ := List.getElem_of_mem hx
    have hi' : i < k := by simp at hi; omega
    have := h1 i hi'
    rw [getD_get (by omega)] at this
    simpa using this
  have f2 : (l.drop k).filter p = [] := by
    rw [List.filter_eq_nil_iff]
    intro x hx
    obtain ⟨i, hi, rfl⟩ := List.getElem_of_mem hx
    have hi' : k + i < l.length := by simp at hi; omega
    have := h2 (k + i) (by omega) hi'
    rw [getD_get hi'] at this
    simpa using this
  conv => lhs; rw [e]
  rw [List.filter_append, f1, f2, List.append_nil]
theorem filter_drop {l : List RecM} {k : Nat} (p : RecM → Bool) (h1 : ∀ j, j < k → j < l.length → p (l.getD j default) = false) (h2 : ∀ j, k ≤ j → j < l.length → p (l.getD j default) = true) : l.filter p = l.drop k := by
  have e : l = l.take k ++ l.drop k := (List.take_append_drop k l).symm
  have f1 : (l.take k).filter p = [] := by
    rw [List.filter_eq_nil_iff]
    intro x hx
    obtain ⟨i, hi, rfl⟩ := List.getElem_of_mem hx
    have hi' : i < k ∧ i < l.length := by simp at hi; omega
    have := h1 i hi'.1 hi'.2
    rw [getD_get hi'.2] at this
    simpa using this
  have f2 : (l.drop k).filter p = l.drop k := by
    rw [List.filter_eq_self]
    intro x hx
    obtain ⟨i, hi, rfl⟩ := List.getElem_of_mem hx
    have hi' : k + i < l.length := by simp at hi; omega
    have := h2 (k + i) (by omega) hi'
    rw [getD_get hi'] at this
    simpa using this
  conv => lhs; rw [e]
  rw [List.filter_append, f1, f2, List.nil_append]

theorem ins_eq_end {l : List RecM} (h : recsFrom 0 0 l = true) (r : RecM) (hn : hasRec r.s l = false) : insRec l r = endRec l r := by
  obtain ⟨a, b⟩ := place_parts h r.s
  have hne : ∀ j, j < l.length → (l.getD j default).s ≠ r.s := fun j hj => hasRec_false.1 hn _ (by simp [List.getD, hj])
  unfold insRec endRec
  rw [filter_take_drop (placeOf_le r.s l) (fun x => decide (x.s < r.s)) (fun j hj => by simpa using a j hj) (fun j h1 h2 => by simpa using b j h1 h2),
    filter_drop (k := placeOf r.s l) (fun x => decide (r.s < x.s)) (fun j h1 h2 => decide_eq_false (by have := a j h1; omega)) (fun j h1 h2 => decide_eq_true (by have := b j h1 h2; have := hne j h2; omega))]
end Go.Proofs.Ytambkjnhfejfaaa
