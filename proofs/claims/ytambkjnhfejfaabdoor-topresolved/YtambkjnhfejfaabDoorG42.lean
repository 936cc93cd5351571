/-
  Contracts of functions of the program and words for memory, several texts in one: KClone. Conditions: those stated with each.
-/
import Derived.Test.YtambkjnhfejfaabDoorG29
namespace Go.Proofs.YtambkjnhfejfaabDoor
open Go.RowKit

theorem eql_in (d : Nat) (a : Option Addr) (n c : Nat) (w : World) : (Op.equalIn (d + 1) 49 (.slice a n c) (.slice none 0 0)).run Tryd.prog w = .ok a.isNone w := by
  unfold Op.equalIn
  cases a <;> simp [run_underlying Tryd.underlying49]
theorem eql_nil (a : Option Addr) (n c : Nat) (w : World) : (binOp .eql 49 (.slice a n c) (.slice none 0 0)).run Tryd.prog w = .ok (.bool a.isNone) w := by
  have h := eql_in 9999 a n c w
  simp only [binOp, Op.equal, Op.maxDepth]
  simp [h]
set_option maxRecDepth 100000 in
set_option maxHeartbeats 4000000 in
theorem clone_any (A : Option Addr) (q : Nat) (l : List ActM) (w : World) (hact : ActsAt w (· < w.heap.size) A l) (hl : l.length ≤ 900) :
    Calls Tryd.prog 34 #[.slice A l.length q] w (ActsOut l w) := by
  cases A with
  | none =>
    have h0 : l = [] := by
      rcases Nat.eq_zero_or_pos l.length with h0 | h0
      · exact List.eq_nil_of_length_eq_zero h0
      · obtain ⟨b, o, h, _⟩ := hact.2 h0; cases h
    subst h0
    have hnil : ∀ w, (binOp .eql 49 (.slice none 0 q) (.slice none 0 0)).run Tryd.prog w = .ok (.bool true) w := fun w => eql_nil none 0 q w
    clear hact hl
    go_enter Tryd.func34, Tryd.ntmps34
    go_wp2
    go_ret
    exact ⟨none, 0, rfl, Cells.Owns.nil _ _ _, Below.refl _ _⟩
  | some a =>
    obtain ⟨W1, hW1⟩ : ∃ W1, W1 = w.alloc (.cells #[] 52) := ⟨_, rfl⟩
    have hb1 : Below w.heap.size w W1 := by rw [hW1]; exact below_alloc (Below.refl _ _) _
    have hown : OwnsActs W1 w.heap.size (.slice (some ⟨w.heap.size, 0, none⟩) ([] : List ActM).length 0) [] := by
      rw [hW1]
      exact ⟨rfl, .inr ⟨w.heap.size, 0, #[], rfl, Nat.le_refl _, heap_alloc_new w _, Nat.zero_le _, Nat.zero_le _, by simp, by simp [Cells.all]⟩⟩
    have HAP := Lib.hid (show ∀ ty : TypeId, ∃ v' w', (Builtin.append_ #[49, 49] ty #[.slice (some ⟨w.heap.size, 0, none⟩) 0 0, .slice (some a) l.length q]).run Tryd.prog (w.alloc (.cells #[] 52)) = .ok v' w' ∧ ∃ A' c', v' = .slice A' l.length c' ∧ OwnsActs w' w.heap.size (.slice A' l.length c') l ∧ Below w.heap.size w w' from fun ty => by
      have h := app_part (ty := ty) W1 w w.heap.size 0 (some ⟨w.heap.size, 0, none⟩) [] ⟨some a, q, l⟩ hown (SeqAt.acts hact (below_mem hb1).1 (below_mem hb1).2) (by simp; omega) hb1.size hb1
      rw [hW1] at h
      exact h)
    have hnil : ∀ w, (binOp .eql 49 (.slice (some a) l.length q) (.slice none 0 0)).run Tryd.prog w = .ok (.bool false) w := fun w => eql_nil (some a) l.length q w
    clear hact hW1 hown hb1
    go_enter Tryd.func34, Tryd.ntmps34
    go_wp2_with (at_builtin; refine (wpList_append_run _ rfl (.tmp 5) (.tmp 6) 49 rfl (.slice (some ⟨w.heap.size, 0, none⟩) 0 0) (.slice (some a) l.length q) rfl rfl (HAP.out _) ?_); rintro v1 w2 ⟨A2, c2, rfl, hown2, hb2⟩; have HO2 := Lib.hid hown2; have HB2 := Lib.hid hb2; clear hown2 hb2)
    go_ret
    exact ⟨A2, c2, rfl, HO2.out, HB2.out⟩
end Go.Proofs.YtambkjnhfejfaabDoor
