/-
  Contracts of the small functions on rows and records: row.locked, row.maxRecords, row.validRecord, the closures, row.findLast. Conditions: the records lie in memory ('RecsAt').
-/
import Derived.Test.YtambkjnhfejfaaaMem
import Derived.Test.YtambkjnhfejfaaaKeys
import Derived.Outline
import Derived.WalkLawsBesides
import Derived.Shelf.Abstract
namespace Go.Proofs.Ytambkjnhfejfaaa
open Go.RowKit

theorem locked_any (key lp val : ByteArray) (ls : Int) (A : Option Addr) (n c : Nat) (w : World) :
    Calls Try.prog 41 #[.agg #[.string key, .int .i64 ls, .string lp, .string val, .slice A n c]] w fun e w' => e = .returned (.bool (ls != 0)) ∧ Below w.heap.size w w' := by
  go_enter Try.func41, Try.ntmps41
  go_wp2
  go_ret
  exact ⟨rfl, (Below.refl _ _).alloc (Nat.le_refl _) _⟩

theorem maxRecords_any (key lp val : ByteArray) (ls : Int) (A : Option Addr) (n c : Nat) (w : World) :
    Calls Try.prog 35 #[.agg #[.string key, .int .i64 ls, .string lp, .string val, .slice A n c]] w fun e w' => e = .returned (.int .i64 (roomOf ls)) ∧ Below w.heap.size w w' := by
  by_cases h : ls = 0
  · subst h
    go_enter Try.func35, Try.ntmps35
    go_wp2
    go_ret
    exact ⟨rfl, by repeat (first | exact Below.refl _ _ | refine Below.alloc ?_ (by simp) _)⟩
  · have hr0 : roomOf ls = 99 := if_neg h
    have hr := Lib.hid hr0
    clear hr0
    have h1 : (ls != 0) = true := by simpa using h
    go_enter Try.func35, Try.ntmps35
    go_wp2
    go_ret
    exact ⟨ret_int hr.out.symm, by repeat (first | exact Below.refl _ _ | refine Below.alloc ?_ (by simp) _)⟩

theorem validRecord_any (r : RecM) (w : World) (hr : RecOk r) :
    Calls Try.prog 54 #[recV r] w fun e w' => e = .returned (.bool (recB r)) ∧ Below w.heap.size w w' := by
  obtain ⟨s, c, v⟩ := r
  have hv : v.size ≤ maxLen := hr.v
  unfold maxLen at hv
  clear hr
  by_cases h1 : inB s 1 1099511627776 = true
  · by_cases h2 : c = 0
    · subst h2
      go_enter Try.func54, Try.ntmps54
      go_wp2_with (go_at_call 55; refine (isTime_any _ _).mono ?_; rintro e w' ⟨rfl, rfl⟩)
      go_ret
      exact ⟨ret_bool (by simp [recB, h1]), by repeat (first | exact Below.refl _ _ | refine Below.alloc ?_ (by simp) _)⟩
    · have h2' : (c == 0) = false := by simpa using h2
      by_cases h3 : s < c <;> by_cases h4 : c ≤ 1099511627776 <;> by_cases h5 : v.size ≤ 20
      all_goals
        go_enter Try.func54, Try.ntmps54
        go_wp2_with (go_at_call 55; refine (isTime_any _ _).mono ?_; rintro e w' ⟨rfl, rfl⟩)
        go_ret
        exact ⟨ret_bool (by simp [recB, h1, h2, h3, h4, h5] <;> omega), by repeat (first | exact Below.refl _ _ | refine Below.alloc ?_ (by simp) _)⟩
  · have h1' : inB s 1 1099511627776 = false := by simpa using h1
    clear h1
    go_enter Try.func54, Try.ntmps54
    go_wp2_with (go_at_call 55; refine (isTime_any _ _).mono ?_; rintro e w' ⟨rfl, rfl⟩)
    go_ret
    exact ⟨ret_bool (by simp [recB, h1']), by repeat (first | exact Below.refl _ _ | refine Below.alloc ?_ (by simp) _)⟩
end Go.Proofs.Ytambkjnhfejfaaa
