/-
  Contracts of the functions on keys and times: row.Key, rickyardref.KeyMay, rickyardref.In, row.isTime, rickyardref.isTime: each returns the plain function's answer and leaves the world as it was. Condition: a string is at most maxLen bytes long.
-/
import Derived.Test.YtambkjnhfejfaaaPure
import Derived.Test.YtambkjnhfejfaaaRows
import Derived.WalkKit
import Derived.Outline
import Derived.Below
import Derived.Lib.Hide
namespace Go.Proofs.Ytambkjnhfejfaaa
open Go.RowKit

theorem in_any (n lo hi : Int) (w : World) :
    Calls Try.prog 34 #[.int .i64 n, .int .i64 lo, .int .i64 hi] w fun e w' => e = .returned (.bool (inB n lo hi)) ∧ w = w' := by
  by_cases h1 : lo ≤ n <;> by_cases h2 : n ≤ hi
  all_goals
    go_enter Try.func34, Try.ntmps34
    go_wp2
    go_ret
    exact ⟨ret_bool (by simp [inB, h1, h2]), rfl⟩

set_option maxHeartbeats 400000 in
theorem key_any (s : ByteArray) (w : World) (hs : s.size ≤ maxLen) :
    Calls Try.prog 13 #[.string s] w fun e w' => e = .returned (.bool (keyB s)) ∧ w = w' := by
  unfold maxLen at hs
  by_cases h1 : 1 ≤ s.size
  · by_cases h2 : s.size ≤ 6
    · have g1 : ¬ s.size < 1 := by omega
      have g2 : ¬ 6 < s.size := by omega
      go_enter Try.func13, Try.ntmps13
      go_wp2
      go_loop [3] (fun i => ∃ k : Nat, k ≤ s.size ∧ i = .int .i64 k ∧ letters (s.data.toList.take k) = true) (fun i => s.size - (intOf i).toNat)
      case atStart => exact ⟨0, Nat.zero_le _, rfl, rfl⟩
      case round =>
        obtain ⟨k, hk, rfl, hl⟩ := hrel
        have HL := Lib.hid hl
        clear hl
        by_cases hlt : k < s.size
        · by_cases c1 : 97 ≤ (s[k].toNat : Int)
          · by_cases c2 : (s[k].toNat : Int) ≤ 122
            · have d1 : ¬ (s[k].toNat : Int) < 97 := by omega
              have d2 : ¬ 122 < (s[k].toNat : Int) := by omega
              go_wp2
              go_round
              case rel => exact ⟨k + 1, by omega, by go_num, by rw [take_snoc s k hlt, letters_snoc, HL.out]; simp [letter, inB, c1, c2]⟩
              case measure => simp [intOf]; omega
            · have d1 : ¬ (s[k].toNat : Int) < 97 := by omega
              have d2 : 122 < (s[k].toNat : Int) := by omega
              go_wp2
              go_ret
              exact ⟨ret_bool (keyB_no hlt (inB_false.2 (.inr d2))).symm, rfl⟩
          · have d1 : (s[k].toNat : Int) < 97 := by omega
            go_wp2
            go_ret
            exact ⟨ret_bool (keyB_no hlt (inB_false.2 (.inl d1))).symm, rfl⟩
        · go_wp2
          go_ret
          have hk' : k = s.size := by omega
          have hl := HL.out
          rw [List.take_of_length_le (by simp; omega)] at hl
          exact ⟨ret_bool (by simp [keyB, hl, inB]; omega), rfl⟩
    · have g1 : ¬ s.size < 1 := by omega
      have g2 : 6 < s.size := by omega
      go_enter Try.func13, Try.ntmps13
      go_wp2
      go_ret
      exact ⟨ret_bool (by simp [keyB, inB]; omega), rfl⟩
  · have g1 : s.size < 1 := by omega
    go_enter Try.func13, Try.ntmps13
    go_wp2
    go_ret
    exact ⟨ret_bool (by simp [keyB, inB]; omega), rfl⟩

set_option maxHeartbeats 400000 in
theorem keyMay_any (s : ByteArray) (w : World) (hs : s.size ≤ maxLen) :
    Calls Try.prog 14 #[.string s] w fun e w' => e = .returned (.bool (keyB s)) ∧ w = w' := by
  unfold maxLen at hs
  go_enter Try.func14, Try.ntmps14
  go_wp2
  go_loop [3] (fun i => ∃ k : Nat, k ≤ s.size ∧ i = .int .i64 k ∧ letters (s.data.toList.take k) = true) (fun i => s.size - (intOf i).toNat)
  case atStart => exact ⟨0, Nat.zero_le _, rfl, rfl⟩
  case round =>
    obtain ⟨k, hk, rfl, hl⟩ := hrel
    have HL := Lib.hid hl
    clear hl
    by_cases hlt : k < s.size
    · by_cases c1 : letter s[k] = true
      · have c1' := inB_true.1 c1
        have HC := Lib.hid c1
        have ht : inB (s[k].toNat : Int) 97 122 = true := c1
        clear c1
        go_wp2_with (go_at_call 34; refine (in_any _ _ _ _).mono ?_; rintro e w' ⟨rfl, rfl⟩)
        go_round
        case rel => exact ⟨k + 1, by omega, by go_num, by rw [take_snoc s k hlt, letters_snoc, HL.out, HC.out]; rfl⟩
        case measure => simp [intOf]; omega
      · have ht : inB (s[k].toNat : Int) 97 122 = false := by simpa [letter] using c1
        have b0 : (0 : Int) ≤ (s[k].toNat : Int) := by omega
        have b1 : (s[k].toNat : Int) ≤ 255 := by have := s[k].toNat_lt; omega
        have HC := Lib.hid ht
        clear c1
        go_wp2_with (go_at_call 34; refine (in_any _ _ _ _).mono ?_; rintro e w' ⟨rfl, rfl⟩)
        go_ret
        exact ⟨ret_bool (keyB_no hlt HC.out).symm, rfl⟩
    · go_wp2_with (go_at_call 34; refine (in_any _ _ _ _).mono ?_; rintro e w' ⟨rfl, rfl⟩)
      go_ret
      have hk' : k = s.size := by omega
      have hl := HL.out
      rw [List.take_of_length_le (by simp; omega)] at hl
      exact ⟨ret_bool (by simp [keyB, hl]), rfl⟩

theorem isTime_any (n : Int) (w : World) :
    Calls Try.prog 55 #[.int .i64 n] w fun e w' => e = .returned (.bool (inB n 1 1099511627776)) ∧ w = w' := by
  by_cases h1 : 1 ≤ n <;> by_cases h2 : n ≤ 1099511627776
  all_goals
    go_enter Try.func55, Try.ntmps55
    go_wp2
    go_ret
    exact ⟨ret_bool (by simp [inB, h1, h2]), rfl⟩
theorem refTime_any (n : Int) (w : World) :
    Calls Try.prog 39 #[.int .i64 n] w fun e w' => e = .returned (.bool (inB n 1 1099511627776)) ∧ w = w' := by
  go_enter Try.func39, Try.ntmps39
  go_wp2_with (go_at_call 34; refine (in_any _ _ _ _).mono ?_; rintro e w' ⟨rfl, rfl⟩)
  go_ret
  exact ⟨rfl, rfl⟩
end Go.Proofs.Ytambkjnhfejfaaa
