/-
  Plain mathematics: what is read at a time (P1.3). Conditions: none.
-/
import Derived.Test.YtambkjnhfejfaaaStatusPure
namespace Go.Proofs.Ytambkjnhfejfaaa
open Go.RowKit

/-- Committed up to a time. -/
def upTo (at_ : Int) (r : RecM) : Bool := r.c != 0 && decide (r.c ≤ at_)
/-- The last of the first k records that was committed up to a time; a zero record, if there is none. -/
def bestUpto (at_ : Int) (l : List RecM) : Nat → RecM
  | 0 => ⟨0, 0, ⟨#[]⟩⟩
  | k + 1 => if upTo at_ (l.getD k default) then l.getD k default else bestUpto at_ l k
def bestOf (at_ : Int) (l : List RecM) : RecM := bestUpto at_ l l.length

theorem best_last (at_ : Int) (l : List RecM) (k : Nat) :
    (lastUpto (upTo at_) l k < 0 → bestUpto at_ l k = ⟨0, 0, ⟨#[]⟩⟩) ∧ (∀ i : Nat, lastUpto (upTo at_) l k = (i : Int) → bestUpto at_ l k = l.getD i default ∧ upTo at_ (l.getD i default) = true) := by
  induction k with
  | zero => exact ⟨fun _ => rfl, fun i h => by simp [lastUpto] at h⟩
  | succ k ih =>
    simp only [lastUpto, bestUpto]
    by_cases h : upTo at_ (l.getD k default) = true
    · rw [if_pos h, if_pos h]
      refine ⟨fun h' => by omega, fun i hi => ?_⟩
      have : k = i := by omega
      subst this
      exact ⟨rfl, h⟩
    · rw [if_neg h, if_neg h]; exact ih

theorem commit_pos {l : List RecM} (h : recsFrom 0 0 l = true) {k : Nat} (hk : k < l.length) (hc : (l.getD k default).c ≠ 0) : (l.getD k default).s < (l.getD k default).c ∧ 1 ≤ (l.getD k default).s := by
  have M := recMay_of (ls := 0) h (fun h => absurd rfl h) hk
  have d := inB_true.1 (M.done hc)
  have t := inB_true.1 M.time
  omega

theorem best_lt {l : List RecM} (h : recsFrom 0 0 l = true) (at_ : Int) {k : Nat} (hk : k ≤ l.length) :
    0 ≤ (bestUpto at_ l k).c ∧ ∀ j, k ≤ j → j < l.length → (l.getD j default).c ≠ 0 → (bestUpto at_ l k).c < (l.getD j default).c := by
  induction k with
  | zero =>
    refine ⟨Int.le_refl _, fun j _ hj hc => ?_⟩
    have := commit_pos h hj hc
    show (0 : Int) < _
    omega
  | succ k ih =>
    simp only [bestUpto]
    by_cases hu : upTo at_ (l.getD k default) = true
    · rw [if_pos hu]
      have hc0 : (l.getD k default).c ≠ 0 := by simp only [upTo, Bool.and_eq_true, bne_iff_ne] at hu; exact hu.1
      have h1 := commit_pos h (by omega) hc0
      refine ⟨by omega, fun j hj hjl hc => ?_⟩
      have M := recMay_of (ls := 0) h (fun h => absurd rfl h) hjl
      have := M.before k (by omega) hc
      have := commit_pos h hjl hc
      omega
    · rw [if_neg hu]
      obtain ⟨a, b⟩ := ih (by omega)
      exact ⟨a, fun j hj hjl hc => b j (by omega) hjl hc⟩

/-- The reference's test finds the next best one. -/
theorem best_step {l : List RecM} (h : recsFrom 0 0 l = true) (at_ : Int) {k : Nat} (hk : k < l.length) :
    (decide ((l.getD k default).c ≤ at_) && decide ((bestUpto at_ l k).c < (l.getD k default).c)) = upTo at_ (l.getD k default) := by
  obtain ⟨h0, h1⟩ := best_lt h at_ (Nat.le_of_lt hk)
  unfold upTo
  by_cases hc : (l.getD k default).c = 0
  · rw [hc]; simp; intro _; omega
  · have h2 := h1 k (Nat.le_refl _) hk hc
    rw [decide_eq_true h2, show ((l.getD k default).c != 0) = true from by simpa using hc, Bool.and_true, Bool.true_and]

theorem held_pos {key : ByteArray} {ls : Int} {lp val : ByteArray} {l : List RecM} (h : rowB key ls lp val l = true) : ls = 0 ∨ (1 ≤ ls ∧ ls ≤ 1099511627776) := by
  by_cases h0 : ls = 0
  · exact .inl h0
  · exact .inr (inB_true.1 (((rowB_iff ..).1 h).held h0).2.1)
end Go.Proofs.Ytambkjnhfejfaaa
