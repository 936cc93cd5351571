/-
  Contracts of functions of the program and words for memory, several texts in one: Check. Conditions: those stated with each.
-/
import Derived.Test.YtambkjnhfejfaaaGreatG00
import Derived.RegionTactic
import Derived.ChangeAlike
import Derived.BigQuiet
import Derived.Deep.QuietTactic
import Derived.Deep.RegionHeld3
namespace Go.Proofs.YtambkjnhfejfaaaGreat
open Go.RowKit
set_option maxHeartbeats 2000000 in
theorem validRecords_any (l : List RecM) (A : Option Addr) (n c : Nat) (w : World) (hn : n = l.length) (hl : RecsAt w w.heap.size A l) :
 Calls Tryz.prog 89 #[.slice A n c] w fun e w' => e = .returned (.bool (recsFrom 0 0 l)) ∧ Below w.heap.size w w' := by
 subst hn
 have hlen := hl.len
 have HL := Lib.hid hl
 clear hl
 go_enter Tryz.func89, Tryz.ntmps89
 go_wp2
 go_loopw [3, 4, 9] (fun s c i wr => ∃ (k : Nat) (sn cn : Int), k ≤ l.length ∧ i = .int .i64 k ∧ s = .int .i64 sn ∧ c = .int .i64 cn ∧ recsFrom 0 0 l = recsFrom sn cn (l.drop k) ∧ Below w.heap.size w wr) (fun _ _ i _ => l.length - (intOf i).toNat)
 case atStart => exact ⟨0, 0, 0, Nat.zero_le _, rfl, rfl, rfl, rfl, Below.refl _ _⟩
 case round =>
  obtain ⟨k, sn, cn, hk, rfl, rfl, rfl, hx, hb⟩ := hrel
  have HX := Lib.hid hx
  clear hx
  by_cases hm : k < l.length
  ·obtain ⟨b, o, rfl, hbb, hr⟩ := (HL.out.below hb).at_ (getD_of hm)
   obtain ⟨r, hr0⟩ : ∃ r, r = l.getD k default := ⟨_, rfl⟩
   have hok := HL.out.ok (hr0 ▸ mem_getD hm : r ∈ l)
   rw [← hr0] at hr
   obtain ⟨c0, c1, c2⟩ := hr
   have HD := Lib.hid (drop_cons hm)
   rw [← hr0] at HD
   clear hr0
   have hsz := hb.size
   have HV := Lib.hid (fun W => validRecord_any r W hok)
   obtain ⟨rs, rc, rv⟩ := r
   clear hok
   by_cases q1 : sn < rs
   ·have q1' : ¬ rs ≤ sn := by omega
    by_cases q2 : recB ⟨rs, rc, rv⟩ = true
    ·by_cases q3 : (rc != 0) = true
     ·by_cases q4 : rs < cn
      ·go_wp2_with (go_at_call 99; refine (HV.out _).mono ?_; rintro e w' ⟨rfl, hb'⟩; obtain ⟨hc', hf'⟩ := bcell hb')
       go_ret
       exact ⟨ret_bool (by rw [HX.out, HD.out, recsFrom_no3 q3 q4]), hb.trans ((((Below.refl _ _).alloc (Nat.le_refl _) _).trans (hb'.mono (by simp))).mono hsz)⟩
      ·by_cases q5 : cn < rc
       ·go_wp2_with (go_at_call 99; refine (HV.out _).mono ?_; rintro e w' ⟨rfl, hb'⟩; obtain ⟨hc', hf'⟩ := bcell hb')
        go_region
        all_goals
         go_wp2
         go_roundw
         case rel => exact ⟨k + 1, rs, rc, by omega, by go_num, rfl, (by first | rfl | exact congrArg (Value.int .i64) (by omega)), by rw [HX.out, HD.out, recsFrom_yes q1 q2 (.inr (by omega)), if_pos q5], (hb.trans ((((Below.refl _ _).alloc (Nat.le_refl _) _).trans (hb'.mono (by simp))).mono hsz)).drew⟩
         case measure => simp [intOf]; omega
       ·go_wp2_with (go_at_call 99; refine (HV.out _).mono ?_; rintro e w' ⟨rfl, hb'⟩; obtain ⟨hc', hf'⟩ := bcell hb')
        go_region
        all_goals
         go_wp2
         go_roundw
         case rel => exact ⟨k + 1, rs, cn, by omega, by go_num, rfl, (by first | rfl | exact congrArg (Value.int .i64) (by omega)), by rw [HX.out, HD.out, recsFrom_yes q1 q2 (.inr (by omega)), if_neg (by omega)], (hb.trans ((((Below.refl _ _).alloc (Nat.le_refl _) _).trans (hb'.mono (by simp))).mono hsz)).drew⟩
         case measure => simp [intOf]; omega
     ·have q3' : rc = 0 := by simpa using q3
      subst q3'
      clear q3
      by_cases q5 : cn < 0
      ·go_wp2_with (go_at_call 99; refine (HV.out _).mono ?_; rintro e w' ⟨rfl, hb'⟩; obtain ⟨hc', hf'⟩ := bcell hb')
       go_region
       all_goals
        go_wp2
        go_roundw
        case rel => exact ⟨k + 1, rs, 0, by omega, by go_num, rfl, (by first | rfl | exact congrArg (Value.int .i64) (by omega)), by rw [HX.out, HD.out, recsFrom_yes q1 q2 (.inl rfl), if_pos q5], (hb.trans ((((Below.refl _ _).alloc (Nat.le_refl _) _).trans (hb'.mono (by simp))).mono hsz)).drew⟩
        case measure => simp [intOf]; omega
      ·go_wp2_with (go_at_call 99; refine (HV.out _).mono ?_; rintro e w' ⟨rfl, hb'⟩; obtain ⟨hc', hf'⟩ := bcell hb')
       go_region
       all_goals
        go_wp2
        go_roundw
        case rel => exact ⟨k + 1, rs, cn, by omega, by go_num, rfl, (by first | rfl | exact congrArg (Value.int .i64) (by omega)), by rw [HX.out, HD.out, recsFrom_yes q1 q2 (.inl rfl), if_neg (by omega)], (hb.trans ((((Below.refl _ _).alloc (Nat.le_refl _) _).trans (hb'.mono (by simp))).mono hsz)).drew⟩
        case measure => simp [intOf]; omega
    ·have q2' : recB ⟨rs, rc, rv⟩ = false := by simpa using q2
     clear q2
     go_wp2_with (go_at_call 99; refine (HV.out _).mono ?_; rintro e w' ⟨rfl, hb'⟩; obtain ⟨hc', hf'⟩ := bcell hb')
     go_ret
     exact ⟨ret_bool (by rw [HX.out, HD.out, recsFrom_no2 q2']), hb.trans ((((Below.refl _ _).alloc (Nat.le_refl _) _).trans (hb'.mono (by simp))).mono hsz)⟩
   ·have q1' : rs ≤ sn := by omega
    go_wp2_with fail
    go_ret
    exact ⟨ret_bool (by rw [HX.out, HD.out, recsFrom_no1 q1']), hb.trans (((Below.refl _ _).alloc (Nat.le_refl _) _).mono hsz)⟩
  ·go_wp2
   go_ret
   exact ⟨ret_bool (by rw [HX.out, List.drop_of_length_le (by omega)]; rfl), hb⟩
end Go.Proofs.YtambkjnhfejfaaaGreat
