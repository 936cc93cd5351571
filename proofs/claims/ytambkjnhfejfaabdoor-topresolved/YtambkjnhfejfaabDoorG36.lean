/-
  Contracts of functions of the program and words for memory, several texts in one: GWorlds. Conditions: those stated with each.
-/
import Derived.Test.YtambkjnhfejfaabDoorG33
namespace Go.Proofs.YtambkjnhfejfaabDoor
open Go.RowKit

theorem runA_len (wo : WoM) (a : ActM) : (runA wo a).1.cls.length = wo.cls.length := by
  unfold runA
  split
  · exact perform_len wo a
  · rfl
theorem runWo_len : ∀ (l : List ActM) (wo : WoM), (runWo wo l).cls.length = wo.cls.length
  | [], _ => rfl
  | a :: l, wo => by rw [runWo, runWo_len l, runA_len]
theorem runWo_app (l l' : List ActM) : ∀ wo, runWo wo (l ++ l') = runWo (runWo wo l) l' := by
  induction l with
  | nil => intro wo; rfl
  | cons a l ih => intro wo; exact ih _
theorem runAns_app (l l' : List ActM) : ∀ wo, runAns wo (l ++ l') = runAns wo l ++ runAns (runWo wo l) l' := by
  induction l with
  | nil => intro wo; rfl
  | cons a l ih => intro wo; simp only [List.cons_append, runAns, runWo, ih]
/-- WorldsGood, in these words. -/
theorem worlds_good {n : Nat} (h5 : n ≤ 5) (l : List ActM) (k : Int) (hk : 7 ≤ k) :
    (runWo (startW n) l).ok = true ∧ runWo (startW n) (l ++ [⟨k, 0, emptyS, emptyS⟩, ⟨2, n, emptyS, emptyS⟩]) = runWo (startW n) l ∧
      runAns (startW n) (l ++ [⟨k, 0, emptyS, emptyS⟩, ⟨2, n, emptyS, emptyS⟩]) = runAns (startW n) l ++ [ansCode 3, ansCode 2] := by
  have hg : Good (runWo (startW n) l) := run_good (start_good h5)
  have hl : (runWo (startW n) l).cls.length = n := by rw [runWo_len]; simp [startW]
  have hok := good_iff.2 hg
  obtain ⟨wo, hwo⟩ : ∃ wo, wo = runWo (startW n) l := ⟨_, rfl⟩
  rw [← hwo] at hg hl hok
  have e1 : actE wo ⟨k, 0, emptyS, emptyS⟩ = 3 := by
    unfold actE
    rw [if_neg (by rw [hok]; decide), if_pos (.inr (by show 6 < k; omega))]
  have e2 : actE wo ⟨2, n, emptyS, emptyS⟩ = 2 := by
    unfold actE
    rw [if_neg (by rw [hok]; decide), if_neg (by show ¬ ((2 : Int) < 1 ∨ (6 : Int) < 2); omega), if_pos (.inr (by show (wo.cls.length : Int) ≤ (n : Int); omega))]
  have r1 : runA wo ⟨k, 0, emptyS, emptyS⟩ = (wo, ansCode 3) := by unfold runA; rw [e1, if_neg (by decide)]
  have r2 : runA wo ⟨2, n, emptyS, emptyS⟩ = (wo, ansCode 2) := by unfold runA; rw [e2, if_neg (by decide)]
  refine ⟨by rw [← hwo]; exact hok, ?_, ?_⟩
  · rw [runWo_app, ← hwo]; simp only [runWo, r1, r2]
  · rw [runAns_app, ← hwo]; simp only [runAns, r1, r2]
end Go.Proofs.YtambkjnhfejfaabDoor
