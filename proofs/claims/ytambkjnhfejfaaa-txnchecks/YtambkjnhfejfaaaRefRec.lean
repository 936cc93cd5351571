/-
  Contract of rickyardref.recordOf. Conditions: the records lie in memory ('RecsAt').
-/
import Derived.Test.YtambkjnhfejfaaaFind
namespace Go.Proofs.Ytambkjnhfejfaaa
open Go.RowKit

theorem ret_rec {a b : RecM} {p q : Bool} (h : a = b) (h' : p = q) : Ending.returned (.tuple #[recV a, .bool p]) = .returned (.tuple #[recV b, .bool q]) := by rw [h, h']

set_option maxHeartbeats 2000000 in
theorem recordOf_any (key lp val : ByteArray) (ls st : Int) (A : Option Addr) (l : List RecM) (n c : Nat) (w : World) (hn : n = l.length) (hl : RecsAt w w.heap.size A l) :
    Calls Try.prog 38 #[.agg #[.string key, .int .i64 ls, .string lp, .string val, .slice A n c], .int .i64 st] w fun e w' => e = .returned (.tuple #[recV (recOf st l), .bool (hasRec st l)]) ∧ Below w.heap.size w w' := by
  subst hn
  have hlen := hl.len
  have HL := Lib.hid hl
  clear hl
  go_enter Try.func38, Try.ntmps38
  go_wp2
  go_loop [6] (fun i => ∃ k : Nat, k ≤ l.length ∧ i = .int .i64 k ∧ ∀ j, j < k → (l.getD j default).s ≠ st) (fun i => l.length - (intOf i).toNat)
  case atStart => exact ⟨0, Nat.zero_le _, rfl, fun _ h => absurd h (by omega)⟩
  case round =>
    obtain ⟨k, hk, rfl, hx⟩ := hrel
    have HX := Lib.hid hx
    clear hx
    by_cases hm : k < l.length
    · obtain ⟨b, o, rfl, hbb, hr⟩ := HL.out.at_ (getD_of hm)
      obtain ⟨r, hr0⟩ : ∃ r, r = l.getD k default := ⟨_, rfl⟩
      rw [← hr0] at hr
      obtain ⟨c0, c1, c2⟩ := hr
      have HR := Lib.hid hr0
      clear hr0
      obtain ⟨rs, rc, rv⟩ := r
      by_cases q : (rs == st) = true
      · have hf : firstOf st l = some ⟨rs, rc, rv⟩ := by
          rw [HR.out]
          exact firstOf_at hm HX.out (by rw [← HR.out]; simpa using q)
        have HF := Lib.hid hf
        clear hf
        go_wp2
        exact bodyPost_ret (v := .tuple #[.agg #[.int .i64 rs, .int .i64 rc, .string rv], .bool true]) (by simp [results, Try.results38, go_sem]) rfl
          ⟨ret_rec (a := ⟨rs, rc, rv⟩) (by rw [recOf, HF.out]; rfl) (by rw [hasRec, HF.out]; rfl), by repeat (first | with_reducible exact Below.refl _ _ | assumption | with_reducible apply below_alloc | with_reducible apply below_drew | with_reducible apply below_drewN | (with_reducible apply below_next; rotate_left; assumption))⟩
      · have q' : (rs == st) = false := by simpa using q
        have hne : rs ≠ st := by simpa using q
        have HNE := Lib.hid hne
        clear q hne
        go_wp2
        go_round
        case rel => exact ⟨k + 1, by omega, by go_num, fun j hj => by
          by_cases e : j = k
          · subst e; rw [← HR.out]; exact HNE.out
          · exact HX.out j (by omega)⟩
        case measure => simp [intOf]; omega
    · have hf : firstOf st l = none := firstOf_none fun j hj => HX.out j (by omega)
      have HF := Lib.hid hf
      clear hf
      go_wp2
      exact bodyPost_ret (v := .tuple #[.agg #[.int .i64 0, .int .i64 0, .string ⟨#[]⟩], .bool false]) (by simp [results, Try.results38, go_sem]) rfl
        ⟨ret_rec (a := ⟨0, 0, ⟨#[]⟩⟩) (by rw [recOf, HF.out]; rfl) (by rw [hasRec, HF.out]; rfl), by repeat (first | with_reducible exact Below.refl _ _ | assumption | with_reducible apply below_alloc | with_reducible apply below_drew | with_reducible apply below_drewN | (with_reducible apply below_next; rotate_left; assumption))⟩
end Go.Proofs.Ytambkjnhfejfaaa
