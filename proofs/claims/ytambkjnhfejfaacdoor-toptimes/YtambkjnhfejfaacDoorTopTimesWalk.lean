/-
  The walk of rickyardtop.TopTimes: it returns true and turns no old memory. Conditions: the raw numbers lie in memory.
-/
import Derived.Test.YtambkjnhfejfaacDoorG29
namespace Go.Proofs.YtambkjnhfejfaacDoor
open Go.RowKit

theorem runAns_at {a : ActM} : ∀ {l : List ActM} {wo : WoM} {k : Nat}, l[k]? = some a → (runAns wo l)[k]? = some (runA (runWo wo (l.take k)) a).2
  | [], _, _, h => by cases h
  | b :: l, wo, 0, h => by
    simp only [List.getElem?_cons_zero, Option.some.injEq] at h
    subst h
    rfl
  | b :: l, wo, k + 1, h => by
    simp only [List.getElem?_cons_succ] at h
    exact runAns_at (wo := (runA wo b).1) h
/-- An act ticks once, and says so, or not at all. -/
def Ticks (wo : WoM) (x : WoM × AnsM) : Prop := (x.2.time = 0 ∧ x.1.clock = wo.clock) ∨ (x.2.time = wo.clock + 1 ∧ x.1.clock = wo.clock + 1)
theorem lock_clock (wo : WoM) (C : Nat) (c : ClM) : (lockW wo C c).1.clock = wo.clock := by
  unfold lockW; dsimp only; split
  · rfl
  · split <;> rfl
theorem commit_clock (wo : WoM) (C : Nat) (c : ClM) : (commitW wo C c).1.clock = wo.clock := by
  unfold commitW; dsimp only; split
  · rfl
  · split <;> rfl
theorem step_ticks (wo : WoM) (C : Nat) (c : ClM) : Ticks wo (stepW wo C c) := by
  unfold stepW
  split
  · split
    · exact .inl ⟨rfl, rfl⟩
    · exact .inl ⟨rfl, lock_clock _ _ _⟩
  · split
    · split
      · exact .inr ⟨rfl, rfl⟩
      · exact .inl ⟨rfl, lock_clock _ _ _⟩
    · split
      · exact .inl ⟨rfl, commit_clock _ _ _⟩
      · exact .inl ⟨rfl, rfl⟩
theorem resolve_clock (wo : WoM) (key : ByteArray) : (resolveW wo key).1.clock = wo.clock := by
  unfold resolveW; dsimp only
  repeat' split
  all_goals rfl
theorem get_time (wo : WoM) (c : ClM) (key : ByteArray) : (getA wo c key).time = 0 := by
  unfold getA readA
  repeat' split
  all_goals rfl
theorem perform_ticks (wo : WoM) (a : ActM) : Ticks wo (performW wo a) := by
  unfold performW; dsimp only
  split
  · unfold beginW; split
    · exact .inr ⟨rfl, rfl⟩
    · exact .inl ⟨rfl, rfl⟩
  · split
    · exact .inl ⟨get_time _ _ _, rfl⟩
    · split
      · exact .inl ⟨rfl, rfl⟩
      · split
        · exact step_ticks _ _ _
        · split
          · refine .inl ⟨rfl, ?_⟩
            unfold dropW; split <;> rfl
          · exact .inl ⟨rfl, resolve_clock _ _⟩
theorem run_ticks (wo : WoM) (a : ActM) : Ticks wo (runA wo a) := by
  unfold runA
  split
  · exact perform_ticks wo a
  · exact .inl ⟨rfl, rfl⟩
theorem clock_run : ∀ (l : List ActM) (wo : WoM), 0 ≤ wo.clock → wo.clock ≤ (runWo wo l).clock ∧ (runWo wo l).clock ≤ wo.clock + l.length
  | [], wo, _ => ⟨Int.le_refl _, by simp [runWo]⟩
  | a :: l, wo, h => by
    have ht := run_ticks wo a
    have ih := clock_run l (runA wo a).1 (by rcases ht with ht | ht <;> omega)
    simp only [runWo, List.length_cons]
    rcases ht with ht | ht <;> omega
set_option maxRecDepth 100000 in
set_option maxHeartbeats 4000000 in
theorem topTimes_walk (w : World) (l : List RawM) (A : Option Addr) (q : Nat) (hr : RawsAt w (· < w.heap.size) A l) :
    Calls Tryd.prog 3 #[.slice A l.length q] w fun e w' => e = .returned (.bool true) ∧ Below w.heap.size w w' := by
  have HAC := Lib.hid (show Calls Tryd.prog 6 #[.slice A l.length q, .int .i64 90, .int .i64 4] w (ActsOut (actsM 4 l (min l.length 90)) w) from acts_any A q l 90 (by decide) 4 (by decide) (by decide) w hr)
  obtain ⟨ac, hac⟩ : ∃ ac, ac = actsM 4 l (min l.length 90) := ⟨_, rfl⟩
  have hal : ac.length ≤ 90 := by rw [hac, actsM_len]; omega
  have hao : ∀ a ∈ ac, ActOk a := by rw [hac]; exact actsM_ok (by omega)
  rw [← hac] at HAC
  have HAO := Lib.hid hao
  clear hr hac hao
  go_enter Tryd.func3, Tryd.ntmps3
  go_wp2_with fail
  refine HAC.out.mono ?_
  rintro e w1 ⟨A1, c1, rfl, hown1, hb1⟩
  have HRUN := Lib.hid (topRun_any A1 c1 ac w1 (SeqAt.acts (OwnsActs.acts hown1 (by omega) HAO.out).2.2 (fun b hb => hb.2) (fun _ _ _ => rfl)) (by omega))
  have HB1 := Lib.hid hb1
  clear hown1 hb1
  go_wp2_with fail
  refine HRUN.out.mono ?_
  rintro e w2 ⟨g, RA, n, rc, CA, m, cc, rfl, _, hans, _, hb2⟩
  obtain ⟨CK, hCK⟩ : ∃ CK, CK = (runWo (startW 4) ac).clock := ⟨_, rfl⟩
  rw [← hCK]
  have HCK := Lib.hid hCK
  obtain ⟨W3, hW3, k0, k1, k2, hb3, hs3⟩ := box3_new w2 (.slice RA n rc) (.int .i64 CK) (.slice CA m cc) 27
  have HANS := Lib.hid (hans.kept (hb3.block _ hans.lt))
  have HB3 := Lib.hid (below_next (below_next HB1.out hb2) hb3)
  have HW3 := Lib.hid hW3
  have hbx : w2.heap.size < W3.heap.size := by omega
  clear hans hb2 hW3 hb3 hCK
  go_wp2
  rw [← HW3.out]
  go_loopw [6, 18] (fun v i wr => ∃ k : Nat, k ≤ ac.length ∧ i = .int .i64 k ∧ v = .int .i64 (runWo (startW 4) (ac.take k)).clock ∧ Below W3.heap.size W3 wr) (fun _ i _ => ac.length - (intOf i).toNat)
  case atStart => exact ⟨0, Nat.zero_le _, rfl, rfl, Below.refl _ _⟩
  case round =>
    obtain ⟨k, hk, rfl, rfl, hb⟩ := hrel
    have HB := Lib.hid hb
    by_cases hm : k < ac.length
    · have hget : ac[k]? = some (ac.getD k default) := getD_some hm
      have hx := runAns_at (wo := startW 4) hget
      have kr := (HANS.out.kept (hb.block _ HANS.out.lt)).ans k _ hx
      have hgl : g < wr.heap.size := (HANS.out.kept (hb.block _ HANS.out.lt)).lt
      have ht := run_ticks (runWo (startW 4) (ac.take k)) (ac.getD k default)
      have hck := clock_run (ac.take k) (startW 4) (Int.le_refl _)
      have hnext : runWo (startW 4) (ac.take (k + 1)) = (runA (runWo (startW 4) (ac.take k)) (ac.getD k default)).1 := by rw [take_one hget, runWo_snoc]
      have hcs : (startW 4).clock = 0 := rfl
      have htl : (ac.take k).length ≤ 90 := by rw [List.length_take]; omega
      unfold Ticks at ht
      rw [← hnext] at ht
      obtain ⟨x, hxd⟩ : ∃ x, x = (runA (runWo (startW 4) (ac.take k)) (ac.getD k default)).2 := ⟨_, rfl⟩
      rw [← hxd] at kr ht
      obtain ⟨ck, hckd⟩ : ∃ ck, ck = (runWo (startW 4) (ac.take k)).clock := ⟨_, rfl⟩
      rw [← hckd] at ht hck ⊢
      obtain ⟨cn, hcn⟩ : ∃ cn, cn = (runWo (startW 4) (ac.take (k + 1))).clock := ⟨_, rfl⟩
      rw [← hcn] at ht
      have HCN := Lib.hid hcn
      have z0 := kr.c
      have z1 := kr.i
      have z2 := kr.v
      have z3 := kr.p
      have z4 := kr.t
      have j0 : (0 : Int) ≤ (k : Int) := by omega
      have j1 : (k : Int) < (ac.length : Int) := by omega
      obtain ⟨xc, xi, xv, xp, xt⟩ := x
      dsimp only at z0 z1 z2 z3 z4 ht
      clear hget hx kr hnext hxd hckd hcn hb
      rcases ht with ⟨t0, t1⟩ | ⟨t0, t1⟩
      · have u0 : (xt != 0) = false := by simpa using t0
        have HT1 := Lib.hid t1
        clear t0 t1
        go_wp2
        go_roundw
        case rel => exact ⟨k + 1, by omega, by go_num, by rw [← HCN.out, HT1.out], below_alloc HB.out _⟩
        case measure => simp [intOf]; omega
      · have u0 : (xt != 0) = true := by simpa using (show xt ≠ 0 by omega)
        have u1 : (xt != ck + 1) = false := by simpa using t0
        have HT1 := Lib.hid t1
        have HT0 := Lib.hid t0
        clear t0 t1
        go_wp2
        go_roundw
        case rel => exact ⟨k + 1, by omega, by go_num, by rw [← HCN.out, HT1.out, HT0.out], below_alloc HB.out _⟩
        case measure => simp [intOf]; omega
    · have hke : k = ac.length := by omega
      subst hke
      rw [List.take_length, ← HCK.out]
      have c1 := (hb.cell (p := ⟨w2.heap.size, 1, none⟩) hbx).trans k1
      have u0 : (CK == CK) = true := by simp
      clear hb
      go_wp2
      go_ret
      exact ⟨rfl, below_next HB3.out HB.out⟩
end Go.Proofs.YtambkjnhfejfaacDoor
