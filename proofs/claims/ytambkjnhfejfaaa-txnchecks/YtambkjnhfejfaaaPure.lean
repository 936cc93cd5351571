/-
  Plain mathematics of the rows: keys, times, records; no program text. Conditions: none.
-/
import Derived.WalkKit
namespace Go.Proofs.Ytambkjnhfejfaaa
open Go.RowKit

theorem ret_bool {a b : Bool} (h : a = b) : Ending.returned (.bool a) = .returned (.bool b) := by rw [h]
theorem ret_int {k : IntKind} {a b : Int} (h : a = b) : Ending.returned (.int k a) = .returned (.int k b) := by rw [h]

/-- n lies from lo to hi. -/
def inB (n lo hi : Int) : Bool := decide (lo ≤ n) && decide (n ≤ hi)
theorem inB_true {n lo hi : Int} : inB n lo hi = true ↔ lo ≤ n ∧ n ≤ hi := by simp [inB]
theorem inB_false {n lo hi : Int} : inB n lo hi = false ↔ n < lo ∨ hi < n := by
  simp only [inB, Bool.and_eq_false_iff, decide_eq_false_iff_not]; omega

def letter (c : UInt8) : Bool := inB (c.toNat : Int) 97 122
def letters (l : List UInt8) : Bool := l.all letter
theorem letters_snoc (l : List UInt8) (c : UInt8) : letters (l ++ [c]) = (letters l && letter c) := by simp [letters]
theorem take_snoc (s : ByteArray) (k : Nat) (h : k < s.size) : s.data.toList.take (k + 1) = s.data.toList.take k ++ [s[k]] := by
  rw [List.take_succ_eq_append_getElem (by simpa using h)]; rfl
/-- P1.1: a valid key. -/
def keyB (s : ByteArray) : Bool := inB (s.size : Int) 1 6 && letters s.data.toList
theorem keyB_no {s : ByteArray} {k : Nat} (h : k < s.size) (hc : letter s[k] = false) : keyB s = false := by
  have : letters s.data.toList = false := by
    simp only [letters, List.all_eq_false]
    exact ⟨s[k], by simp [ByteArray.getElem_eq_getElem_data], by simp [hc]⟩
  simp [keyB, this]
end Go.Proofs.Ytambkjnhfejfaaa
