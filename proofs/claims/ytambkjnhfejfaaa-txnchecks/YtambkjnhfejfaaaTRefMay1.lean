/-
  Contracts of rickyardref.writesMay, clientMay. Conditions: the client's writes lie in memory.
-/
import Derived.Test.YtambkjnhfejfaaaTCheck2
import Derived.Test.YtambkjnhfejfaaaRefRec
namespace Go.Proofs.Ytambkjnhfejfaaa
open Go.RowKit

theorem leS_eq (a b : ByteArray) : (Op.bytesLess a.toList b.toList || a.toList == b.toList) = !ltS b a := by
  cases h : ltS b a
  · have : Op.bytesLess a.toList b.toList = true ∨ a = b := by
      cases h' : ltS a b
      · exact .inr (ltS_total h' h)
      · exact .inl h'
    rcases this with h' | h'
    · simp [h']
    · simp [h']
  · have h1 := ltS_asymm h
    have h2 : a.toList ≠ b.toList := fun e => ltS_ne h (ba_ext e.symm)
    unfold ltS at h1
    simp [h1, h2]

set_option maxHeartbeats 4000000 in
theorem writesMay_any (l : List WrM) (A : Option Addr) (n c : Nat) (w : World) (hn : n = l.length) (hl : WrsAt w (· < w.heap.size) A l) :
    Calls Try.prog 64 #[.slice A n c] w fun e w' => e = .returned (.bool (wrsB l)) ∧ Below w.heap.size w w' := by
  subst hn
  have hlen := hl.1
  have HL := Lib.hid hl
  clear hl
  go_enter Try.func64, Try.ntmps64
  go_wp2
  go_loopw [3] (fun i wr => ∃ k : Nat, k ≤ l.length ∧ i = .int .i64 k ∧ (List.range k).all (wrAtB l) = true ∧ Below w.heap.size w wr) (fun i _ => l.length - (intOf i).toNat)
  case atStart => exact ⟨0, Nat.zero_le _, rfl, rfl, Below.refl _ _⟩
  case round =>
    obtain ⟨k, hk, rfl, hx, hb⟩ := hrel
    have HX := Lib.hid hx
    have HB := Lib.hid hb
    clear hx
    by_cases hm : k < l.length
    · have hl' := SeqAt.wrs HL.out (below_mem hb).1 (below_mem hb).2
      have hok := SeqAt.wrOk hl' _ (getD_mem (d := default) hm)
      obtain ⟨r, hr0⟩ : ∃ r, r = l.getD k default := ⟨_, rfl⟩
      obtain ⟨b, o, hA, hbb, hr⟩ := SeqAt.at_ hl' (getD_some (d := default) hm)
      rw [← hr0] at hr hok
      have j0 : (0 : Int) ≤ (k : Int) := by omega
      obtain ⟨rk, rv⟩ := r
      obtain ⟨c0, c1, _⟩ := hr
      dsimp only at c0 c1 hok
      have HK := Lib.hid hok.1
      have hv := hok.2
      have hv' : rv.size ≤ 9223372036854775807 := by unfold maxLen at hv; omega
      have HR := Lib.hid (wrAtB_eq l k rk rv hr0)
      clear hv hr0
      subst hA
      by_cases t1 : keyB rk = true
      · by_cases t3 : rv.size ≤ 20
        · have d3 : decide (20 < (rv.size : Int)) = false := by simp; omega
          by_cases hk0 : k = 0
          · have z0 : decide (0 < (k : Int)) = false := by simp; omega
            have z0' : decide (0 < k) = false := by simp; omega
            have HK0 := Lib.hid hk0
            clear hk0
            have HT := Lib.hid (show wrAtB l k = true by rw [HR.out]; simp [t1, t3, HK0.out])
            clear hb hl' hok
            go_wp2
            go_quiet ((go_at_call 14; exact quiet_left (keyMay_any _ _ HK.out)))
            go_wp2
            go_roundw
            case rel => exact ⟨k + 1, by omega, by go_num, all_range_succ HX.out HT.out, below_drewN HB.out _⟩
            case measure => simp [intOf]; omega
          · obtain ⟨m, rfl⟩ : ∃ m, k = m + 1 := ⟨k - 1, by omega⟩
            obtain ⟨b', o', hA', _, hp⟩ := SeqAt.at_ hl' (getD_some (d := default) (show m < l.length by omega))
            obtain ⟨rfl, rfl⟩ : b = b' ∧ o = o' := by injection hA' with e; injection e with e1 e2; exact ⟨e1, e2⟩
            obtain ⟨p, hp0⟩ : ∃ p, p = l.getD m default := ⟨_, rfl⟩
            rw [← hp0] at hp
            obtain ⟨pk, pv⟩ := p
            have p0 := hp.k
            dsimp only at p0
            have HP := Lib.hid hp0
            have hle := leS_eq rk pk
            clear hp hp0 hA'
            by_cases t2 : ltS pk rk = true
            · rw [t2] at hle
              have HT := Lib.hid (show wrAtB l (m + 1) = true by rw [HR.out]; simp only [Nat.add_sub_cancel, ← HP.out]; simp [t1, t2, t3])
              clear hb hl' hok t2
              go_wp2
              go_quiet ((go_at_call 14; exact quiet_left (keyMay_any _ _ HK.out)))
              go_wp2
              go_roundw
              case rel => exact ⟨m + 1 + 1, by omega, by go_num, all_range_succ HX.out HT.out, below_drewN HB.out _⟩
              case measure => simp [intOf]; omega
            · have t2' : ltS pk rk = false := by simpa using t2
              rw [t2'] at hle
              have HT := Lib.hid (show wrAtB l (m + 1) = false by rw [HR.out]; simp only [Nat.add_sub_cancel, ← HP.out]; simp [t2'])
              clear hb hl' hok t2 t2'
              go_wp2
              go_quiet ((go_at_call 14; exact quiet_left (keyMay_any _ _ HK.out)))
              go_wp2
              go_ret
              exact ⟨ret_bool (by simp [wrsB, all_range_false hm HT.out]), below_drewN HB.out _⟩
        · have d3 : decide (20 < (rv.size : Int)) = true := by simp; omega
          have HT := Lib.hid (show wrAtB l k = false by rw [HR.out]; simp [t3])
          clear hb hl' hok
          go_wp2
          go_quiet ((go_at_call 14; exact quiet_left (keyMay_any _ _ HK.out)))
          go_wp2
          go_ret
          exact ⟨ret_bool (by simp [wrsB, all_range_false hm HT.out]), below_drewN HB.out _⟩
      · have t1' : keyB rk = false := by simpa using t1
        clear t1
        have HT := Lib.hid (show wrAtB l k = false by rw [HR.out]; simp [t1'])
        clear hb hl' hok
        go_wp2
        go_quiet ((go_at_call 14; exact quiet_left (keyMay_any _ _ HK.out)))
        go_wp2
        go_ret
        exact ⟨ret_bool (by simp [wrsB, all_range_false hm HT.out]), below_drewN HB.out _⟩
    · have hke : k = l.length := by omega
      subst hke
      clear hb
      go_wp2
      go_ret
      exact ⟨ret_bool (by simp only [wrsB, HX.out]; simp; omega), HB.out⟩
end Go.Proofs.Ytambkjnhfejfaaa
