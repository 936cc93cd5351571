/-
  Contracts of functions of the program and words for memory, several texts in one: RStepAll. Conditions: those stated with each.
-/
import Derived.Test.YtambkjnhfejfaaaGreatG33
import Derived.Test.YtambkjnhfejfaaaGreatG36
import Derived.Test.YtambkjnhfejfaaaGreatG37
namespace Go.Proofs.YtambkjnhfejfaaaGreat
open Go.RowKit
set_option linter.unusedVariables false
section
variable {w : World} {X : Nat → Prop} {gC B : Nat} {RA : Option Addr} {n rc m cc C : Nat} {wo : WoM} {c : ClM}
theorem stepped_any (h : RefW w X gC RA n rc m cc wo) (hX : ∀ b,X b → b < w.heap.size) (hB : B ≤ gC) (hc : wo.cls[C]? = some c) (hv : wo.ok = true) :
 Calls Tryz.prog 22 #[woV RA n rc wo.clock (some ⟨gC,0,none⟩) m cc,.int .i64 C] w (StepOut X gC m cc B (stepW wo C c) w) := by
 have hr := ok_rows hv
 obtain ⟨k0,k1⟩ := ok_clock hv
 have hcl := ok_client hv hc
 have hat : atB c = true := by simp only [clB,Bool.and_eq_true] at hcl; exact hcl.2
 have hwv : wrsB c.ws = true := by simp only [clB,Bool.and_eq_true] at hcl; exact hcl.1.1
 by_cases p0 : c.ph = 0
 ·exact stepped_idle h hX hB hc p0
 have hst := cl_time hcl k1 p0
 unfold atB at hat
 rw [if_neg p0] at hat
 by_cases p1 : c.ph = 1
 ·rw [if_pos p1] at hat
  have ha : c.at_ = 0 := by simpa using hat
  rcases Nat.eq_zero_or_pos c.ws.length with hl | hl
  ·exact stepped_empty h hX hB hc p1 hl
  ·exact stepped_lock h hX hB hc (.inl p1) hr hst hwv (q := 0) hl (by rw [ha]; rfl)
 rw [if_neg p1] at hat
 by_cases p2 : c.ph = 2
 ·rw [if_pos p2] at hat
  simp only [Bool.and_eq_true,decide_eq_true_eq] at hat
  by_cases ha : c.at_ = c.ws.length
  ·exact stepped_seal h hX hB hc p2 ha (by omega) k0 k1
  ·exact stepped_lock h hX hB hc (.inr p2) hr hst hwv (q := c.at_.toNat) (by omega) (by omega)
 rw [if_neg p2] at hat
 by_cases p3 : c.ph = 3
 ·rw [if_pos p3] at hat
  simp only [Bool.and_eq_true,decide_eq_true_eq,beq_iff_eq] at hat
  exact stepped_close h hX hB hc (.inl p3) hr hst hwv (q := 0) (by omega) (by omega) ⟨fun _ => rfl,fun _ => p3⟩
 rw [if_neg p3] at hat
 by_cases p4 : c.ph = 4
 ·rw [if_pos p4] at hat
  simp only [Bool.and_eq_true,decide_eq_true_eq] at hat
  exact stepped_close h hX hB hc (.inr p4) hr hst hwv (q := c.at_.toNat) (by omega) (by omega) ⟨fun e => absurd e p3,fun e => by omega⟩
 rw [if_neg p4] at hat
 cases hat
end
end Go.Proofs.YtambkjnhfejfaaaGreat
