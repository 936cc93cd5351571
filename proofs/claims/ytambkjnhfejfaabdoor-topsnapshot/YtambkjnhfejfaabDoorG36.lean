/-
  Contracts of functions of the program and words for memory, several texts in one: GWorlds, KClone, KEqual. Conditions: those stated with each.
-/
import Derived.Test.YtambkjnhfejfaabDoorG29
import Derived.Test.YtambkjnhfejfaabDoorG32
import Derived.Test.YtambkjnhfejfaabDoorG33
namespace Go.Proofs.YtambkjnhfejfaabDoor
open Go.RowKit

theorem runA_len (wo : WoM) (a : ActM) : (runA wo a).1.cls.length = wo.cls.length := by
  unfold runA
  split
  · exact perform_len wo a
  · rfl
theorem runWo_len : ∀ (l : List ActM) (wo : WoM), (runWo wo l).cls.length = wo.cls.length
  | [], _ => rfl
  | a :: l, wo => by rw [runWo, runWo_len l, runA_len]
theorem runWo_app (l l' : List ActM) : ∀ wo, runWo wo (l ++ l') = runWo (runWo wo l) l' := by
  induction l with
  | nil => intro wo; rfl
  | cons a l ih => intro wo; exact ih _
theorem runAns_app (l l' : List ActM) : ∀ wo, runAns wo (l ++ l') = runAns wo l ++ runAns (runWo wo l) l' := by
  induction l with
  | nil => intro wo; rfl
  | cons a l ih => intro wo; simp only [List.cons_append, runAns, runWo, ih]
/-- WorldsGood, in these words. -/
theorem worlds_good {n : Nat} (h5 : n ≤ 5) (l : List ActM) (k : Int) (hk : 7 ≤ k) :
    (runWo (startW n) l).ok = true ∧ runWo (startW n) (l ++ [⟨k, 0, emptyS, emptyS⟩, ⟨2, n, emptyS, emptyS⟩]) = runWo (startW n) l ∧
      runAns (startW n) (l ++ [⟨k, 0, emptyS, emptyS⟩, ⟨2, n, emptyS, emptyS⟩]) = runAns (startW n) l ++ [ansCode 3, ansCode 2] := by
  have hg : Good (runWo (startW n) l) := run_good (start_good h5)
  have hl : (runWo (startW n) l).cls.length = n := by rw [runWo_len]; simp [startW]
  have hok := good_iff.2 hg
  obtain ⟨wo, hwo⟩ : ∃ wo, wo = runWo (startW n) l := ⟨_, rfl⟩
  rw [← hwo] at hg hl hok
  have e1 : actE wo ⟨k, 0, emptyS, emptyS⟩ = 3 := by
    unfold actE
    rw [if_neg (by rw [hok]; decide), if_pos (.inr (by show 6 < k; omega))]
  have e2 : actE wo ⟨2, n, emptyS, emptyS⟩ = 2 := by
    unfold actE
    rw [if_neg (by rw [hok]; decide), if_neg (by show ¬ ((2 : Int) < 1 ∨ (6 : Int) < 2); omega), if_pos (.inr (by show (wo.cls.length : Int) ≤ (n : Int); omega))]
  have r1 : runA wo ⟨k, 0, emptyS, emptyS⟩ = (wo, ansCode 3) := by unfold runA; rw [e1, if_neg (by decide)]
  have r2 : runA wo ⟨2, n, emptyS, emptyS⟩ = (wo, ansCode 2) := by unfold runA; rw [e2, if_neg (by decide)]
  refine ⟨by rw [← hwo]; exact hok, ?_, ?_⟩
  · rw [runWo_app, ← hwo]; simp only [runWo, r1, r2]
  · rw [runAns_app, ← hwo]; simp only [runAns, r1, r2]
end Go.Proofs.YtambkjnhfejfaabDoor

namespace Go.Proofs.YtambkjnhfejfaabDoor
open Go.RowKit

theorem eql_in (d : Nat) (a : Option Addr) (n c : Nat) (w : World) : (Op.equalIn (d + 1) 49 (.slice a n c) (.slice none 0 0)).run Tryd.prog w = .ok a.isNone w := by
  unfold Op.equalIn
  cases a <;> simp [run_underlying Tryd.underlying49]
theorem eql_nil (a : Option Addr) (n c : Nat) (w : World) : (binOp .eql 49 (.slice a n c) (.slice none 0 0)).run Tryd.prog w = .ok (.bool a.isNone) w := by
  have h := eql_in 9999 a n c w
  simp only [binOp, Op.equal, Op.maxDepth]
  simp [h]
set_option maxRecDepth 100000 in
set_option maxHeartbeats 4000000 in
theorem clone_any (A : Option Addr) (q : Nat) (l : List ActM) (w : World) (hact : ActsAt w (· < w.heap.size) A l) (hl : l.length ≤ 900) :
    Calls Tryd.prog 34 #[.slice A l.length q] w (ActsOut l w) := by
  cases A with
  | none =>
    have h0 : l = [] := by
      rcases Nat.eq_zero_or_pos l.length with h0 | h0
      · exact List.eq_nil_of_length_eq_zero h0
      · obtain ⟨b, o, h, _⟩ := hact.2 h0; cases h
    subst h0
    have hnil : ∀ w, (binOp .eql 49 (.slice none 0 q) (.slice none 0 0)).run Tryd.prog w = .ok (.bool true) w := fun w => eql_nil none 0 q w
    clear hact hl
    go_enter Tryd.func34, Tryd.ntmps34
    go_wp2
    go_ret
    exact ⟨none, 0, rfl, Cells.Owns.nil _ _ _, Below.refl _ _⟩
  | some a =>
    obtain ⟨W1, hW1⟩ : ∃ W1, W1 = w.alloc (.cells #[] 52) := ⟨_, rfl⟩
    have hb1 : Below w.heap.size w W1 := by rw [hW1]; exact below_alloc (Below.refl _ _) _
    have hown : OwnsActs W1 w.heap.size (.slice (some ⟨w.heap.size, 0, none⟩) ([] : List ActM).length 0) [] := by
      rw [hW1]
      exact ⟨rfl, .inr ⟨w.heap.size, 0, #[], rfl, Nat.le_refl _, heap_alloc_new w _, Nat.zero_le _, Nat.zero_le _, by simp, by simp [Cells.all]⟩⟩
    have HAP := Lib.hid (show ∀ ty : TypeId, ∃ v' w', (Builtin.append_ #[49, 49] ty #[.slice (some ⟨w.heap.size, 0, none⟩) 0 0, .slice (some a) l.length q]).run Tryd.prog (w.alloc (.cells #[] 52)) = .ok v' w' ∧ ∃ A' c', v' = .slice A' l.length c' ∧ OwnsActs w' w.heap.size (.slice A' l.length c') l ∧ Below w.heap.size w w' from fun ty => by
      have h := app_part (ty := ty) W1 w w.heap.size 0 (some ⟨w.heap.size, 0, none⟩) [] ⟨some a, q, l⟩ hown (SeqAt.acts hact (below_mem hb1).1 (below_mem hb1).2) (by simp; omega) hb1.size hb1
      rw [hW1] at h
      exact h)
    have hnil : ∀ w, (binOp .eql 49 (.slice (some a) l.length q) (.slice none 0 0)).run Tryd.prog w = .ok (.bool false) w := fun w => eql_nil (some a) l.length q w
    clear hact hW1 hown hb1
    go_enter Tryd.func34, Tryd.ntmps34
    go_wp2_with (at_builtin; refine (wpList_append_run _ rfl (.tmp 5) (.tmp 6) 49 rfl (.slice (some ⟨w.heap.size, 0, none⟩) 0 0) (.slice (some a) l.length q) rfl rfl (HAP.out _) ?_); rintro v1 w2 ⟨A2, c2, rfl, hown2, hb2⟩; have HO2 := Lib.hid hown2; have HB2 := Lib.hid hb2; clear hown2 hb2)
    go_ret
    exact ⟨A2, c2, rfl, HO2.out, HB2.out⟩
end Go.Proofs.YtambkjnhfejfaabDoor

namespace Go.Proofs.YtambkjnhfejfaabDoor
open Go.RowKit

set_option maxRecDepth 100000 in
set_option maxHeartbeats 4000000 in
theorem equalRows_any (rows : List RowM) (A A' : Option Addr) (c c' : Nat) (w : World) (hl : RowsAt w (· < w.heap.size) A rows) (hl' : RowsAt w (· < w.heap.size) A' rows) :
    Calls Tryd.prog 37 #[.slice A rows.length c, .slice A' rows.length c', .func (.func 26) #[] #[]] w fun e w' => e = .returned (.bool true) ∧ Below w.heap.size w w' := by
  have HL := Lib.hid hl
  have HL' := Lib.hid hl'
  have hlen := hl.1
  have t0 : ((rows.length : Int) != (rows.length : Int)) = false := by simp
  have hE : ∀ args w, (callFunc 26 args).run Tryd.prog w = .ok (.enter 26 args) w := enters_of Tryd.func26 (by kernel_rfl) rfl
  clear hl hl'
  go_enter Tryd.func37, Tryd.ntmps37
  go_wp2
  go_loopw [17] (fun i wr => ∃ (k : Nat), k ≤ rows.length ∧ i = .int .i64 k ∧ Below w.heap.size w wr) (fun i _ => rows.length - (intOf i).toNat)
  case atStart => exact ⟨0, Nat.zero_le _, rfl, Below.refl _ _⟩
  case round =>
    obtain ⟨k, hk, rfl, hb⟩ := hrel
    have HB := Lib.hid hb
    by_cases hm : k < rows.length
    · obtain ⟨b, o, rfl, hbb, hrow⟩ := SeqAt.at_ (SeqAt.rows HL.out (P' := (· < w.heap.size)) (fun _ h => h) (fun b j hb' => hb.cell (p := ⟨b, j, none⟩) hb')) (getD_some (d := default) hm)
      obtain ⟨b', o', rfl, hbb', hrow'⟩ := SeqAt.at_ (SeqAt.rows HL'.out (P' := (· < w.heap.size)) (fun _ h => h) (fun b j hb' => hb.cell (p := ⟨b, j, none⟩) hb')) (getD_some (d := default) hm)
      obtain ⟨r, hrd⟩ : ∃ r, r = rows.getD k default := ⟨_, rfl⟩
      rw [← hrd] at hrow hrow'
      obtain ⟨RC, cr, x4, hcr, hrecs⟩ := hrow.cr
      obtain ⟨RC', cr', y4, hcr', hrecs'⟩ := hrow'.cr
      have x0 := hrow.ck
      have x1 := hrow.cs
      have x2 := hrow.cp
      have x3 := hrow.cv
      have y0 := hrow'.ck
      have y1 := hrow'.cs
      have y2 := hrow'.cp
      have y3 := hrow'.cv
      have hsz := hb.size
      have HSR := Lib.hid (show ∀ W, Below wr.heap.size wr W → Calls Tryd.prog 26 #[rV r RC r.recs.length cr, rV r RC' r.recs.length cr'] W fun e w' => e = .returned (.bool true) ∧ Below W.heap.size W w' from fun W hbW =>
        kSameRow_true r RC RC' r.recs.length cr r.recs.length cr' W rfl rfl (((hrecs.recs (fun _ h => h)).more hb.size).upto hbW) (((hrecs'.recs (fun _ h => h)).more hb.size).upto hbW))
      have j0 : (0 : Int) ≤ (k : Int) := by omega
      have j1 : (k : Int) < (rows.length : Int) := by omega
      have hbn : b < wr.heap.size := by omega
      have hbn' : b' < wr.heap.size := by omega
      clear hrow hrow' hrecs hrecs' hrd hb
      go_wp2_with (go_at_fn 26; refine (HSR.out _ (by repeat (first | with_reducible exact Below.refl _ _ | assumption | with_reducible apply below_alloc | with_reducible apply below_drew | with_reducible apply below_drewN | (with_reducible apply below_next; rotate_left; assumption)))).mono ?_; rintro e w5 ⟨rfl, hb5⟩)
      go_roundw
      case rel => exact ⟨k + 1, by omega, by go_num, below_next HB.out (below_next (by repeat (first | with_reducible exact Below.refl _ _ | assumption | with_reducible apply below_alloc | with_reducible apply below_drew | with_reducible apply below_drewN | (with_reducible apply below_next; rotate_left; assumption))) hb5)⟩
      case measure => simp [intOf]; omega
    · have hke : k = rows.length := by omega
      subst hke
      clear hb
      go_wp2
      go_ret
      exact ⟨rfl, HB.out⟩
end Go.Proofs.YtambkjnhfejfaabDoor
