/-
  The walk of rickyardkeep.CrashesResolve: it returns true and turns no old memory. Conditions: none.
-/
import Derived.Test.YtambkjnhfejfaabDoorStepsCommitWalk
namespace Go.Proofs.YtambkjnhfejfaabDoor
open Go.RowKit

/-- The acts until the locks are resolved. -/
def crPre (m : Nat) (keys rs : List ByteArray) : List ActM := deedM 0 m keys ++ [actB 5 0] ++ rs.map fun k => ⟨6, 1, k, ⟨#[]⟩⟩
def crActs (k m : Nat) : List ActM := crPre m (ks5.take k) (ks5.take k) ++ lookM 1 (ks5.take k)
def crRow (k m i : Nat) : Bool := match (runAns (startW 3) (crActs k m))[2 * k + 3 + m + i]? with
  | some a => a.code == 0 && (a.is == decide (k + 2 ≤ m)) && (!a.is || a.val.data.toList == (ofS (ks5.getD i default) 0).data.toList)
  | none => false
def crOk (k m : Nat) : Bool := (List.range k).all (crRow k m)
theorem cr_ok : ∀ k, k < 6 → ∀ m, m < 2 * k + 2 → crOk k m = true := by decide +kernel
theorem cr_len : ∀ k, k < 6 → ∀ m, m < 2 * k + 2 → (crActs k m).length = 3 * k + 3 + m := by decide +kernel
theorem cr_row {k m : Nat} (h : crOk k m = true) : ∀ i, i < k → ∃ a, (runAns (startW 3) (crActs k m))[2 * k + 3 + m + i]? = some a ∧ a.code = 0 ∧ a.is = decide (k + 2 ≤ m) ∧ (k + 2 ≤ m → a.val = ofS (ks5.getD i default) 0) := by
  intro i hi
  unfold crOk at h
  rw [all_range_iff] at h
  have := h i hi
  unfold crRow at this
  split at this
  · rename_i a e
    simp only [Bool.and_eq_true, beq_iff_eq, Bool.or_eq_true] at this
    refine ⟨a, e, this.1.1, this.1.2, fun hm => ba_data ?_⟩
    rcases this.2 with h1 | h1
    · rw [this.1.2] at h1
      simp [hm] at h1
    · exact h1
  · cases this
theorem crPre_ok {m : Nat} {keys rs : List ByteArray} (h1 : ∀ k ∈ keys, k.size ≤ 6) (h2 : ∀ k ∈ rs, k.size ≤ 6) : ∀ a ∈ crPre m keys rs, ActOk a := by
  intro a ha
  simp only [crPre, List.mem_append, List.mem_map, List.mem_singleton] at ha
  rcases ha with (ha | rfl) | ⟨k, hk, rfl⟩
  · exact deed_ok (by decide) h1 a ha
  · exact ⟨Nat.zero_le _, Nat.zero_le _⟩
  · have := h2 k hk
    exact ⟨by simp only [maxLen]; omega, Nat.zero_le _⟩
set_option maxRecDepth 100000 in
set_option maxHeartbeats 8000000 in
theorem crashesResolve_K1 (w : World) (n st : Int) (hn : i64 n) (hst : i64 st) (hj : pickM n 5 = 0) :
    Calls Tryd.prog 8 #[.int .i64 n, .int .i64 st] w fun e w' => e = .returned (.bool true) ∧ Below w.heap.size w w' := by
  obtain ⟨W1, hW1, hb1, hst1, hs1⟩ := ks_new w
  have HP := Lib.hid (picked_any n 5 W1 hn (by decide) (by decide))
  rw [hj] at HP
  have HP2 := Lib.hid (picked_any st 4 W1 hst (by decide) (by decide))
  obtain ⟨p0, p1⟩ := pick_bd st (show (0 : Int) < 4 by decide)
  obtain ⟨m, hm⟩ : ∃ m : Nat, pickM st 4 = m := ⟨(pickM st 4).toNat, by omega⟩
  rw [hm] at HP2 p0 p1
  have hmlt : m < 4 := by omega
  have hrow := cr_row (cr_ok 1 (by omega) m (by omega))
  have hL : (crActs 1 m).length = 6 + m := cr_len 1 (by omega) m (by omega)
  have hkl : ∀ k ∈ ks5.take 1, k.size ≤ 6 := fun k hk => ks5_size k (List.mem_of_mem_take hk)
  have HD := Lib.hid (show Calls Tryd.prog 28 #[.int .i64 0, .int .i64 m, .slice (some ⟨w.heap.size, 0, none⟩) 1 5] W1 (ActsOut (deedM 0 m (ks5.take 1)) W1) from deed_any 0 (by decide) m (by omega) _ 5 (ks5.take 1) W1 (hst1.take_ 1) (by decide))
  have HROW := Lib.hid hrow
  have HST := Lib.hid (hst1.take_ 1)
  have HB1 := Lib.hid hb1
  have HW1 := Lib.hid hW1
  clear hW1 hb1 hst1 hrow hj hm
  go_enter Tryd.func8, Tryd.ntmps8
  go_wp2_with fail
  rw [← HW1.out]
  refine HP.out.mono ?_
  rintro e w' ⟨rfl, hw⟩
  rw [hw]
  clear hw w'
  go_wp2_with fail
  refine HP2.out.mono ?_
  rintro e w' ⟨rfl, hw⟩
  rw [hw]
  clear hw w'
  go_wp2_with fail
  refine HD.out.mono ?_
  rintro e w2 ⟨A2, c2, rfl, hown2, hb2⟩
  have hdl : (deedM 0 m (ks5.take 1)).length = 2 + m := by simp [deedM, ks5]; omega
  rw [hdl] at hown2 ⊢
  have HAP := Lib.hid (fun ty => app_act (ty := ty) w2 W1 W1.heap.size c2 A2 (deedM 0 m (ks5.take 1)) (actB 5 0) (by rw [hdl]; exact hown2) (by rw [hdl]; omega) hb2.size hb2)
  rw [hdl] at HAP
  clear hown2 hb2
  go_wp2_with (at_builtin; refine (wpList_append_run _ rfl (.tmp 30) (.tmp 32) 49 rfl (.slice A2 (2 + m) c2) (.slice (some ⟨w2.heap.size, 0, none⟩) 1 1) rfl rfl (HAP.out _) ?_); rintro v1 w3 ⟨A3, c3, rfl, hown3, hb3⟩; have HO3 := Lib.hid hown3; have HB3 := Lib.hid hb3; clear hown3 hb3)
  go_loopw [8, 36] (fun v i wr => ∃ (k : Nat) (As : Option Addr) (cs : Nat), k ≤ 1 ∧ i = .int .i64 k ∧ v = .slice As (2 + m + 1 + k) cs ∧ OwnsActs wr W1.heap.size (.slice As (2 + m + 1 + k) cs) (crPre m (ks5.take 1) ((ks5.take 1).take k)) ∧ Below W1.heap.size W1 wr) (fun _ i _ => 1 - (intOf i).toNat)
  case atStart => exact ⟨0, _, _, Nat.zero_le _, rfl, rfl, by rw [crPre, List.take_zero, List.map_nil, List.append_nil]; exact HO3.out, HB3.out⟩
  case round =>
    obtain ⟨k, As, cs, hk, rfl, rfl, hown, hb⟩ := hrel
    have HO := Lib.hid hown
    have HB := Lib.hid hb
    by_cases hlt : k < 1
    · have hml : k < (ks5.take 1).length := by show k < 1; exact hlt
      obtain ⟨b, o, hA, hbb, hx⟩ := SeqAt.at_ (HST.out.strs (below_mem hb).1 (below_mem hb).2) (getD_some (d := default) hml)
      obtain ⟨rfl, rfl⟩ : w.heap.size = b ∧ 0 = o := by injection hA with e; injection e with e1 e2; exact ⟨e1, e2⟩
      obtain ⟨key, hkey⟩ : ∃ key, key = (ks5.take 1).getD k default := ⟨_, rfl⟩
      rw [← hkey] at hx
      obtain ⟨x0, xs⟩ := hx
      rw [Nat.mul_one, Nat.zero_add] at x0
      have hlen : (crPre m (ks5.take 1) ((ks5.take 1).take k)).length = 2 + m + 1 + k := by
        rw [crPre, List.length_append, List.length_append, hdl, List.length_map, List.length_take]
        show 2 + m + 1 + min k 1 = _
        omega
      have HSN := Lib.hid (show crPre m (ks5.take 1) ((ks5.take 1).take (k + 1)) = crPre m (ks5.take 1) ((ks5.take 1).take k) ++ [⟨6, 1, key, ⟨#[]⟩⟩] by rw [crPre, crPre, map_take_snoc (d := default) _ hml, ← hkey, List.append_assoc, List.append_assoc, List.append_assoc])
      have HAP := Lib.hid (fun ty => app_act (ty := ty) wr W1 W1.heap.size cs As (crPre m (ks5.take 1) ((ks5.take 1).take k)) ⟨6, 1, key, ⟨#[]⟩⟩ (by rw [hlen]; exact hown) (by rw [hlen]; omega) hb.size hb)
      rw [hlen] at HAP
      have j0 : (0 : Int) ≤ (k : Int) := by omega
      have j1 : (k : Int) < 1 := by omega
      clear hown hb hkey hA
      go_wp2_with (at_builtin; refine (wpList_append_run _ rfl (.tmp 40) (.tmp 43) 49 rfl (.slice As (2 + m + 1 + k) cs) (.slice (some ⟨wr.heap.size, 0, none⟩) 1 1) rfl rfl (HAP.out _) ?_); rintro v1 w2 ⟨A2, c2, rfl, hown2, hb2⟩; have HO2 := Lib.hid hown2; have HB2 := Lib.hid hb2; clear hown2 hb2)
      go_roundw
      case rel => exact ⟨k + 1, A2, c2, by omega, by go_num, rfl, by rw [HSN.out]; exact HO2.out, HB2.out⟩
      case measure => simp [intOf]; omega
    · have hke : k = 1 := by omega
      subst hke
      have htk : (ks5.take 1).take 1 = ks5.take 1 := by rw [List.take_take]; rfl
      rw [htk] at HO
      clear hown hb
      have HST2 := Lib.hid (HST.out.strs (below_mem HB.out).1 (below_mem HB.out).2)
      have HLK := Lib.hid (show Calls Tryd.prog 29 #[.int .i64 1, .slice (some ⟨w.heap.size, 0, none⟩) 1 5] wr (ActsOut (lookM 1 (ks5.take 1)) wr) from look_any 1 _ 5 (ks5.take 1) wr HST2.out (by decide))
      have hll : (lookM 1 (ks5.take 1)).length = 2 := by decide
      obtain ⟨w3, rfl⟩ : ∃ w3, w3 = wr := ⟨_, rfl⟩
      go_wp2_with fail
      refine HLK.out.mono ?_
      rintro e w4 ⟨A4, c4, rfl, hown4, hb4⟩
      have hal : Below w4.heap.size w4 (w4.alloc (.cells #[.slice As (2 + m + 1 + 1) cs, .slice A4 2 c4] 49)) := below_alloc (Below.refl _ _) _
      have hg := heap_alloc_new w4 (.cells #[.slice As (2 + m + 1 + 1) cs, .slice A4 2 c4] 49)
      obtain ⟨W4, hW4⟩ : ∃ W4, W4 = w4.alloc (.cells #[.slice As (2 + m + 1 + 1) cs, .slice A4 2 c4] 49) := ⟨_, rfl⟩
      rw [← hW4] at hal hg
      have hcl : (crPre m (ks5.take 1) (ks5.take 1)).length = 2 + m + 1 + 1 := by
        rw [crPre, List.length_append, List.length_append, hdl, List.length_map]; rfl
      have hA2 : ActsAt W4 (· < W4.heap.size) As (crPre m (ks5.take 1) (ks5.take 1)) := SeqAt.acts (OwnsActs.acts (Cells.Owns.kept (Cells.Owns.kept HO.out hb4) hal) (by rw [hcl]; omega) (crPre_ok hkl hkl)).2.2 (fun b hb => hb.2) (fun _ _ _ => rfl)
      have hA3 : ActsAt W4 (· < W4.heap.size) A4 (lookM 1 (ks5.take 1)) := SeqAt.acts (OwnsActs.acts (Cells.Owns.kept hown4 hal) (by rw [hll]; decide) (look_ok (c := 1) hkl)).2.2 (fun b hb => hb.2) (fun _ _ _ => rfl)
      rw [← hcl] at hg
      have hps := parts_block (W := W4) (l := [⟨As, cs, crPre m (ks5.take 1) (ks5.take 1)⟩, ⟨A4, c4, lookM 1 (ks5.take 1)⟩]) hg (by simp) (by
        intro p hp
        simp only [List.mem_cons, List.not_mem_nil, or_false] at hp
        rcases hp with rfl | rfl
        · exact hA2
        · exact hA3)
      have hjn : joinM [⟨As, cs, crPre m (ks5.take 1) (ks5.take 1)⟩, ⟨A4, c4, lookM 1 (ks5.take 1)⟩] = crActs 1 m := by simp [joinM, crActs]
      have HC := Lib.hid (concat_any (some ⟨w4.heap.size, 0, none⟩) 2 _ W4 hps (by rw [hjn, hL]; omega) (by rw [hjn, hL]; omega))
      rw [hjn] at HC
      have HW4 := Lib.hid hW4
      have HB4 := Lib.hid (below_next (below_next HB.out hb4) hal)
      have HST4 := Lib.hid (HST2.out.strs (below_mem (below_next hb4 hal)).1 (below_mem (below_next hb4 hal)).2)
      clear hown4 hb4 hal hg hW4 hA2 hA3 hps hjn
      go_wp2_with fail
      rw [← HW4.out]
      refine HC.out.mono ?_
      rintro e w5 ⟨A5, c5, rfl, hown5, hb5⟩
      have hok5 : ∀ a ∈ crActs 1 m, ActOk a := by
        intro a ha
        rcases List.mem_append.1 ha with ha | ha
        · exact crPre_ok hkl hkl a ha
        · exact look_ok (c := 1) hkl a ha
      have hA5 : ActsAt w5 (· < w5.heap.size) A5 (crActs 1 m) := SeqAt.acts (OwnsActs.acts hown5 (by rw [hL]; omega) hok5).2.2 (fun b hb => hb.2) (fun _ _ _ => rfl)
      have hrun := kRun_any A5 c5 (crActs 1 m) w5 hA5 (by rw [hL]; omega)
      rw [hL] at hrun
      have HRUN := Lib.hid hrun
      clear hrun
      have HB5 := Lib.hid (below_next HB4.out hb5)
      have HST5 := Lib.hid (HST4.out.strs (below_mem hb5).1 (below_mem hb5).2)
      clear hown5 hb5 hA5 hok5
      go_wp2_with fail
      refine HRUN.out.mono ?_
      rintro e w6 ⟨g, rfl, hans, hb6⟩
      have HANS := Lib.hid hans
      have HB6 := Lib.hid (below_next HB5.out hb6)
      have HST6 := Lib.hid (HST5.out.strs (below_mem hb6).1 (below_mem hb6).2)
      rw [hL] at HANS ⊢
      clear hans hb6 HC HRUN HD HP HP2 HLK
      have hms : m = 0 ∨ m = 1 ∨ m = 2 ∨ m = 3 := by omega
      rcases hms with rfl | rfl | rfl | rfl
      all_goals
        clear hL hdl hcl p0 p1 hmlt
        go_wp2
        go_loopw [59] (fun i wr => ∃ m : Nat, m ≤ 1 ∧ i = .int .i64 m ∧ Below w6.heap.size w6 wr) (fun i _ => 1 - (intOf i).toNat)
        case atStart => exact ⟨0, Nat.zero_le _, rfl, Below.refl _ _⟩
        case round =>
          obtain ⟨q, hq, rfl, hb⟩ := hrel
          have HB := Lib.hid hb
          by_cases hlt : q < 1
          · obtain ⟨xr, e1, e2, e3, e4⟩ := HROW.out q hlt
            have kr := (HANS.out.kept (hb.block _ HANS.out.lt)).ans _ xr e1
            have z0 := kr.c
            have z1 := kr.i
            have z2 := kr.v
            have z3 := kr.p
            have z4 := kr.t
            have hml : q < (ks5.take 1).length := by show q < 1; exact hlt
            obtain ⟨b, o, hA, hbb, hx⟩ := SeqAt.at_ (HST6.out.strs (below_mem hb).1 (below_mem hb).2) (getD_some (d := default) hml)
            obtain ⟨rfl, rfl⟩ : w.heap.size = b ∧ 0 = o := by injection hA with e; injection e with e1 e2; exact ⟨e1, e2⟩
            have hgd : (ks5.take 1).getD q default = ks5.getD q default := by simp [List.getD, hlt]
            rw [hgd] at hx
            obtain ⟨key, hkey⟩ : ∃ key, key = ks5.getD q default := ⟨_, rfl⟩
            rw [← hkey] at hx e4
            obtain ⟨x0, xs⟩ := hx
            rw [Nat.mul_one, Nat.zero_add] at x0
            rw [e2] at z0
            rw [e3] at z1
            have hgl : g < wr.heap.size := (HANS.out.kept (hb.block _ HANS.out.lt)).lt
            have j0 : (0 : Int) ≤ (q : Int) := by omega
            have j1 : (q : Int) < 1 := by omega
            try (rw [e4 (by omega), ofS_zero] at z2)
            simp only [Nat.reduceAdd, Nat.reduceMul, Nat.reduceLeDiff, decide_true, decide_false] at z0 z1 z2 z3 z4
            clear hb hkey kr hA e1 e2 e3 e4
            go_wp2
            go_roundw
            case rel => exact ⟨q + 1, by omega, by go_num, below_alloc HB.out _⟩
            case measure => simp [intOf]; omega
          · have hqe : q = 1 := by omega
            subst hqe
            clear hb
            go_wp2
            go_ret
            exact ⟨rfl, below_next HB1.out (below_next HB6.out HB.out)⟩
set_option maxRecDepth 100000 in
set_option maxHeartbeats 8000000 in
theorem crashesResolve_K2 (w : World) (n st : Int) (hn : i64 n) (hst : i64 st) (hj : pickM n 5 = 1) :
    Calls Tryd.prog 8 #[.int .i64 n, .int .i64 st] w fun e w' => e = .returned (.bool true) ∧ Below w.heap.size w w' := by
  obtain ⟨W1, hW1, hb1, hst1, hs1⟩ := ks_new w
  have HP := Lib.hid (picked_any n 5 W1 hn (by decide) (by decide))
  rw [hj] at HP
  have HP2 := Lib.hid (picked_any st 6 W1 hst (by decide) (by decide))
  obtain ⟨p0, p1⟩ := pick_bd st (show (0 : Int) < 6 by decide)
  obtain ⟨m, hm⟩ : ∃ m : Nat, pickM st 6 = m := ⟨(pickM st 6).toNat, by omega⟩
  rw [hm] at HP2 p0 p1
  have hmlt : m < 6 := by omega
  have hrow := cr_row (cr_ok 2 (by omega) m (by omega))
  have hL : (crActs 2 m).length = 9 + m := cr_len 2 (by omega) m (by omega)
  have hkl : ∀ k ∈ ks5.take 2, k.size ≤ 6 := fun k hk => ks5_size k (List.mem_of_mem_take hk)
  have HD := Lib.hid (show Calls Tryd.prog 28 #[.int .i64 0, .int .i64 m, .slice (some ⟨w.heap.size, 0, none⟩) 2 5] W1 (ActsOut (deedM 0 m (ks5.take 2)) W1) from deed_any 0 (by decide) m (by omega) _ 5 (ks5.take 2) W1 (hst1.take_ 2) (by decide))
  have HROW := Lib.hid hrow
  have HST := Lib.hid (hst1.take_ 2)
  have HB1 := Lib.hid hb1
  have HW1 := Lib.hid hW1
  clear hW1 hb1 hst1 hrow hj hm
  go_enter Tryd.func8, Tryd.ntmps8
  go_wp2_with fail
  rw [← HW1.out]
  refine HP.out.mono ?_
  rintro e w' ⟨rfl, hw⟩
  rw [hw]
  clear hw w'
  go_wp2_with fail
  refine HP2.out.mono ?_
  rintro e w' ⟨rfl, hw⟩
  rw [hw]
  clear hw w'
  go_wp2_with fail
  refine HD.out.mono ?_
  rintro e w2 ⟨A2, c2, rfl, hown2, hb2⟩
  have hdl : (deedM 0 m (ks5.take 2)).length = 3 + m := by simp [deedM, ks5]; omega
  rw [hdl] at hown2 ⊢
  have HAP := Lib.hid (fun ty => app_act (ty := ty) w2 W1 W1.heap.size c2 A2 (deedM 0 m (ks5.take 2)) (actB 5 0) (by rw [hdl]; exact hown2) (by rw [hdl]; omega) hb2.size hb2)
  rw [hdl] at HAP
  clear hown2 hb2
  go_wp2_with (at_builtin; refine (wpList_append_run _ rfl (.tmp 30) (.tmp 32) 49 rfl (.slice A2 (3 + m) c2) (.slice (some ⟨w2.heap.size, 0, none⟩) 1 1) rfl rfl (HAP.out _) ?_); rintro v1 w3 ⟨A3, c3, rfl, hown3, hb3⟩; have HO3 := Lib.hid hown3; have HB3 := Lib.hid hb3; clear hown3 hb3)
  go_loopw [8, 36] (fun v i wr => ∃ (k : Nat) (As : Option Addr) (cs : Nat), k ≤ 2 ∧ i = .int .i64 k ∧ v = .slice As (3 + m + 1 + k) cs ∧ OwnsActs wr W1.heap.size (.slice As (3 + m + 1 + k) cs) (crPre m (ks5.take 2) ((ks5.take 2).take k)) ∧ Below W1.heap.size W1 wr) (fun _ i _ => 2 - (intOf i).toNat)
  case atStart => exact ⟨0, _, _, Nat.zero_le _, rfl, rfl, by rw [crPre, List.take_zero, List.map_nil, List.append_nil]; exact HO3.out, HB3.out⟩
  case round =>
    obtain ⟨k, As, cs, hk, rfl, rfl, hown, hb⟩ := hrel
    have HO := Lib.hid hown
    have HB := Lib.hid hb
    by_cases hlt : k < 2
    · have hml : k < (ks5.take 2).length := by show k < 2; exact hlt
      obtain ⟨b, o, hA, hbb, hx⟩ := SeqAt.at_ (HST.out.strs (below_mem hb).1 (below_mem hb).2) (getD_some (d := default) hml)
      obtain ⟨rfl, rfl⟩ : w.heap.size = b ∧ 0 = o := by injection hA with e; injection e with e1 e2; exact ⟨e1, e2⟩
      obtain ⟨key, hkey⟩ : ∃ key, key = (ks5.take 2).getD k default := ⟨_, rfl⟩
      rw [← hkey] at hx
      obtain ⟨x0, xs⟩ := hx
      rw [Nat.mul_one, Nat.zero_add] at x0
      have hlen : (crPre m (ks5.take 2) ((ks5.take 2).take k)).length = 3 + m + 1 + k := by
        rw [crPre, List.length_append, List.length_append, hdl, List.length_map, List.length_take]
        show 3 + m + 1 + min k 2 = _
        omega
      have HSN := Lib.hid (show crPre m (ks5.take 2) ((ks5.take 2).take (k + 1)) = crPre m (ks5.take 2) ((ks5.take 2).take k) ++ [⟨6, 1, key, ⟨#[]⟩⟩] by rw [crPre, crPre, map_take_snoc (d := default) _ hml, ← hkey, List.append_assoc, List.append_assoc, List.append_assoc])
      have HAP := Lib.hid (fun ty => app_act (ty := ty) wr W1 W1.heap.size cs As (crPre m (ks5.take 2) ((ks5.take 2).take k)) ⟨6, 1, key, ⟨#[]⟩⟩ (by rw [hlen]; exact hown) (by rw [hlen]; omega) hb.size hb)
      rw [hlen] at HAP
      have j0 : (0 : Int) ≤ (k : Int) := by omega
      have j1 : (k : Int) < 2 := by omega
      clear hown hb hkey hA
      go_wp2_with (at_builtin; refine (wpList_append_run _ rfl (.tmp 40) (.tmp 43) 49 rfl (.slice As (3 + m + 1 + k) cs) (.slice (some ⟨wr.heap.size, 0, none⟩) 1 1) rfl rfl (HAP.out _) ?_); rintro v1 w2 ⟨A2, c2, rfl, hown2, hb2⟩; have HO2 := Lib.hid hown2; have HB2 := Lib.hid hb2; clear hown2 hb2)
      go_roundw
      case rel => exact ⟨k + 1, A2, c2, by omega, by go_num, rfl, by rw [HSN.out]; exact HO2.out, HB2.out⟩
      case measure => simp [intOf]; omega
    · have hke : k = 2 := by omega
      subst hke
      have htk : (ks5.take 2).take 2 = ks5.take 2 := by rw [List.take_take]; rfl
      rw [htk] at HO
      clear hown hb
      have HST2 := Lib.hid (HST.out.strs (below_mem HB.out).1 (below_mem HB.out).2)
      have HLK := Lib.hid (show Calls Tryd.prog 29 #[.int .i64 1, .slice (some ⟨w.heap.size, 0, none⟩) 2 5] wr (ActsOut (lookM 1 (ks5.take 2)) wr) from look_any 1 _ 5 (ks5.take 2) wr HST2.out (by decide))
      have hll : (lookM 1 (ks5.take 2)).length = 3 := by decide
      obtain ⟨w3, rfl⟩ : ∃ w3, w3 = wr := ⟨_, rfl⟩
      go_wp2_with fail
      refine HLK.out.mono ?_
      rintro e w4 ⟨A4, c4, rfl, hown4, hb4⟩
      have hal : Below w4.heap.size w4 (w4.alloc (.cells #[.slice As (3 + m + 1 + 2) cs, .slice A4 3 c4] 49)) := below_alloc (Below.refl _ _) _
      have hg := heap_alloc_new w4 (.cells #[.slice As (3 + m + 1 + 2) cs, .slice A4 3 c4] 49)
      obtain ⟨W4, hW4⟩ : ∃ W4, W4 = w4.alloc (.cells #[.slice As (3 + m + 1 + 2) cs, .slice A4 3 c4] 49) := ⟨_, rfl⟩
      rw [← hW4] at hal hg
      have hcl : (crPre m (ks5.take 2) (ks5.take 2)).length = 3 + m + 1 + 2 := by
        rw [crPre, List.length_append, List.length_append, hdl, List.length_map]; rfl
      have hA2 : ActsAt W4 (· < W4.heap.size) As (crPre m (ks5.take 2) (ks5.take 2)) := SeqAt.acts (OwnsActs.acts (Cells.Owns.kept (Cells.Owns.kept HO.out hb4) hal) (by rw [hcl]; omega) (crPre_ok hkl hkl)).2.2 (fun b hb => hb.2) (fun _ _ _ => rfl)
      have hA3 : ActsAt W4 (· < W4.heap.size) A4 (lookM 1 (ks5.take 2)) := SeqAt.acts (OwnsActs.acts (Cells.Owns.kept hown4 hal) (by rw [hll]; decide) (look_ok (c := 1) hkl)).2.2 (fun b hb => hb.2) (fun _ _ _ => rfl)
      rw [← hcl] at hg
      have hps := parts_block (W := W4) (l := [⟨As, cs, crPre m (ks5.take 2) (ks5.take 2)⟩, ⟨A4, c4, lookM 1 (ks5.take 2)⟩]) hg (by simp) (by
        intro p hp
        simp only [List.mem_cons, List.not_mem_nil, or_false] at hp
        rcases hp with rfl | rfl
        · exact hA2
        · exact hA3)
      have hjn : joinM [⟨As, cs, crPre m (ks5.take 2) (ks5.take 2)⟩, ⟨A4, c4, lookM 1 (ks5.take 2)⟩] = crActs 2 m := by simp [joinM, crActs]
      have HC := Lib.hid (concat_any (some ⟨w4.heap.size, 0, none⟩) 2 _ W4 hps (by rw [hjn, hL]; omega) (by rw [hjn, hL]; omega))
      rw [hjn] at HC
      have HW4 := Lib.hid hW4
      have HB4 := Lib.hid (below_next (below_next HB.out hb4) hal)
      have HST4 := Lib.hid (HST2.out.strs (below_mem (below_next hb4 hal)).1 (below_mem (below_next hb4 hal)).2)
      clear hown4 hb4 hal hg hW4 hA2 hA3 hps hjn
      go_wp2_with fail
      rw [← HW4.out]
      refine HC.out.mono ?_
      rintro e w5 ⟨A5, c5, rfl, hown5, hb5⟩
      have hok5 : ∀ a ∈ crActs 2 m, ActOk a := by
        intro a ha
        rcases List.mem_append.1 ha with ha | ha
        · exact crPre_ok hkl hkl a ha
        · exact look_ok (c := 1) hkl a ha
      have hA5 : ActsAt w5 (· < w5.heap.size) A5 (crActs 2 m) := SeqAt.acts (OwnsActs.acts hown5 (by rw [hL]; omega) hok5).2.2 (fun b hb => hb.2) (fun _ _ _ => rfl)
      have hrun := kRun_any A5 c5 (crActs 2 m) w5 hA5 (by rw [hL]; omega)
      rw [hL] at hrun
      have HRUN := Lib.hid hrun
      clear hrun
      have HB5 := Lib.hid (below_next HB4.out hb5)
      have HST5 := Lib.hid (HST4.out.strs (below_mem hb5).1 (below_mem hb5).2)
      clear hown5 hb5 hA5 hok5
      go_wp2_with fail
      refine HRUN.out.mono ?_
      rintro e w6 ⟨g, rfl, hans, hb6⟩
      have HANS := Lib.hid hans
      have HB6 := Lib.hid (below_next HB5.out hb6)
      have HST6 := Lib.hid (HST5.out.strs (below_mem hb6).1 (below_mem hb6).2)
      rw [hL] at HANS ⊢
      clear hans hb6 HC HRUN HD HP HP2 HLK
      have hms : m = 0 ∨ m = 1 ∨ m = 2 ∨ m = 3 ∨ m = 4 ∨ m = 5 := by omega
      rcases hms with rfl | rfl | rfl | rfl | rfl | rfl
      all_goals
        clear hL hdl hcl p0 p1 hmlt
        go_wp2
        go_loopw [59] (fun i wr => ∃ m : Nat, m ≤ 2 ∧ i = .int .i64 m ∧ Below w6.heap.size w6 wr) (fun i _ => 2 - (intOf i).toNat)
        case atStart => exact ⟨0, Nat.zero_le _, rfl, Below.refl _ _⟩
        case round =>
          obtain ⟨q, hq, rfl, hb⟩ := hrel
          have HB := Lib.hid hb
          by_cases hlt : q < 2
          · obtain ⟨xr, e1, e2, e3, e4⟩ := HROW.out q hlt
            have kr := (HANS.out.kept (hb.block _ HANS.out.lt)).ans _ xr e1
            have z0 := kr.c
            have z1 := kr.i
            have z2 := kr.v
            have z3 := kr.p
            have z4 := kr.t
            have hml : q < (ks5.take 2).length := by show q < 2; exact hlt
            obtain ⟨b, o, hA, hbb, hx⟩ := SeqAt.at_ (HST6.out.strs (below_mem hb).1 (below_mem hb).2) (getD_some (d := default) hml)
            obtain ⟨rfl, rfl⟩ : w.heap.size = b ∧ 0 = o := by injection hA with e; injection e with e1 e2; exact ⟨e1, e2⟩
            have hgd : (ks5.take 2).getD q default = ks5.getD q default := by simp [List.getD, hlt]
            rw [hgd] at hx
            obtain ⟨key, hkey⟩ : ∃ key, key = ks5.getD q default := ⟨_, rfl⟩
            rw [← hkey] at hx e4
            obtain ⟨x0, xs⟩ := hx
            rw [Nat.mul_one, Nat.zero_add] at x0
            rw [e2] at z0
            rw [e3] at z1
            have hgl : g < wr.heap.size := (HANS.out.kept (hb.block _ HANS.out.lt)).lt
            have j0 : (0 : Int) ≤ (q : Int) := by omega
            have j1 : (q : Int) < 2 := by omega
            try (rw [e4 (by omega), ofS_zero] at z2)
            simp only [Nat.reduceAdd, Nat.reduceMul, Nat.reduceLeDiff, decide_true, decide_false] at z0 z1 z2 z3 z4
            clear hb hkey kr hA e1 e2 e3 e4
            go_wp2
            go_roundw
            case rel => exact ⟨q + 1, by omega, by go_num, below_alloc HB.out _⟩
            case measure => simp [intOf]; omega
          · have hqe : q = 2 := by omega
            subst hqe
            clear hb
            go_wp2
            go_ret
            exact ⟨rfl, below_next HB1.out (below_next HB6.out HB.out)⟩
set_option maxRecDepth 100000 in
set_option maxHeartbeats 8000000 in
theorem crashesResolve_K3 (w : World) (n st : Int) (hn : i64 n) (hst : i64 st) (hj : pickM n 5 = 2) :
    Calls Tryd.prog 8 #[.int .i64 n, .int .i64 st] w fun e w' => e = .returned (.bool true) ∧ Below w.heap.size w w' := by
  obtain ⟨W1, hW1, hb1, hst1, hs1⟩ := ks_new w
  have HP := Lib.hid (picked_any n 5 W1 hn (by decide) (by decide))
  rw [hj] at HP
  have HP2 := Lib.hid (picked_any st 8 W1 hst (by decide) (by decide))
  obtain ⟨p0, p1⟩ := pick_bd st (show (0 : Int) < 8 by decide)
  obtain ⟨m, hm⟩ : ∃ m : Nat, pickM st 8 = m := ⟨(pickM st 8).toNat, by omega⟩
  rw [hm] at HP2 p0 p1
  have hmlt : m < 8 := by omega
  have hrow := cr_row (cr_ok 3 (by omega) m (by omega))
  have hL : (crActs 3 m).length = 12 + m := cr_len 3 (by omega) m (by omega)
  have hkl : ∀ k ∈ ks5.take 3, k.size ≤ 6 := fun k hk => ks5_size k (List.mem_of_mem_take hk)
  have HD := Lib.hid (show Calls Tryd.prog 28 #[.int .i64 0, .int .i64 m, .slice (some ⟨w.heap.size, 0, none⟩) 3 5] W1 (ActsOut (deedM 0 m (ks5.take 3)) W1) from deed_any 0 (by decide) m (by omega) _ 5 (ks5.take 3) W1 (hst1.take_ 3) (by decide))
  have HROW := Lib.hid hrow
  have HST := Lib.hid (hst1.take_ 3)
  have HB1 := Lib.hid hb1
  have HW1 := Lib.hid hW1
  clear hW1 hb1 hst1 hrow hj hm
  go_enter Tryd.func8, Tryd.ntmps8
  go_wp2_with fail
  rw [← HW1.out]
  refine HP.out.mono ?_
  rintro e w' ⟨rfl, hw⟩
  rw [hw]
  clear hw w'
  go_wp2_with fail
  refine HP2.out.mono ?_
  rintro e w' ⟨rfl, hw⟩
  rw [hw]
  clear hw w'
  go_wp2_with fail
  refine HD.out.mono ?_
  rintro e w2 ⟨A2, c2, rfl, hown2, hb2⟩
  have hdl : (deedM 0 m (ks5.take 3)).length = 4 + m := by simp [deedM, ks5]; omega
  rw [hdl] at hown2 ⊢
  have HAP := Lib.hid (fun ty => app_act (ty := ty) w2 W1 W1.heap.size c2 A2 (deedM 0 m (ks5.take 3)) (actB 5 0) (by rw [hdl]; exact hown2) (by rw [hdl]; omega) hb2.size hb2)
  rw [hdl] at HAP
  clear hown2 hb2
  go_wp2_with (at_builtin; refine (wpList_append_run _ rfl (.tmp 30) (.tmp 32) 49 rfl (.slice A2 (4 + m) c2) (.slice (some ⟨w2.heap.size, 0, none⟩) 1 1) rfl rfl (HAP.out _) ?_); rintro v1 w3 ⟨A3, c3, rfl, hown3, hb3⟩; have HO3 := Lib.hid hown3; have HB3 := Lib.hid hb3; clear hown3 hb3)
  go_loopw [8, 36] (fun v i wr => ∃ (k : Nat) (As : Option Addr) (cs : Nat), k ≤ 3 ∧ i = .int .i64 k ∧ v = .slice As (4 + m + 1 + k) cs ∧ OwnsActs wr W1.heap.size (.slice As (4 + m + 1 + k) cs) (crPre m (ks5.take 3) ((ks5.take 3).take k)) ∧ Below W1.heap.size W1 wr) (fun _ i _ => 3 - (intOf i).toNat)
  case atStart => exact ⟨0, _, _, Nat.zero_le _, rfl, rfl, by rw [crPre, List.take_zero, List.map_nil, List.append_nil]; exact HO3.out, HB3.out⟩
  case round =>
    obtain ⟨k, As, cs, hk, rfl, rfl, hown, hb⟩ := hrel
    have HO := Lib.hid hown
    have HB := Lib.hid hb
    by_cases hlt : k < 3
    · have hml : k < (ks5.take 3).length := by show k < 3; exact hlt
      obtain ⟨b, o, hA, hbb, hx⟩ := SeqAt.at_ (HST.out.strs (below_mem hb).1 (below_mem hb).2) (getD_some (d := default) hml)
      obtain ⟨rfl, rfl⟩ : w.heap.size = b ∧ 0 = o := by injection hA with e; injection e with e1 e2; exact ⟨e1, e2⟩
      obtain ⟨key, hkey⟩ : ∃ key, key = (ks5.take 3).getD k default := ⟨_, rfl⟩
      rw [← hkey] at hx
      obtain ⟨x0, xs⟩ := hx
      rw [Nat.mul_one, Nat.zero_add] at x0
      have hlen : (crPre m (ks5.take 3) ((ks5.take 3).take k)).length = 4 + m + 1 + k := by
        rw [crPre, List.length_append, List.length_append, hdl, List.length_map, List.length_take]
        show 4 + m + 1 + min k 3 = _
        omega
      have HSN := Lib.hid (show crPre m (ks5.take 3) ((ks5.take 3).take (k + 1)) = crPre m (ks5.take 3) ((ks5.take 3).take k) ++ [⟨6, 1, key, ⟨#[]⟩⟩] by rw [crPre, crPre, map_take_snoc (d := default) _ hml, ← hkey, List.append_assoc, List.append_assoc, List.append_assoc])
      have HAP := Lib.hid (fun ty => app_act (ty := ty) wr W1 W1.heap.size cs As (crPre m (ks5.take 3) ((ks5.take 3).take k)) ⟨6, 1, key, ⟨#[]⟩⟩ (by rw [hlen]; exact hown) (by rw [hlen]; omega) hb.size hb)
      rw [hlen] at HAP
      have j0 : (0 : Int) ≤ (k : Int) := by omega
      have j1 : (k : Int) < 3 := by omega
      clear hown hb hkey hA
      go_wp2_with (at_builtin; refine (wpList_append_run _ rfl (.tmp 40) (.tmp 43) 49 rfl (.slice As (4 + m + 1 + k) cs) (.slice (some ⟨wr.heap.size, 0, none⟩) 1 1) rfl rfl (HAP.out _) ?_); rintro v1 w2 ⟨A2, c2, rfl, hown2, hb2⟩; have HO2 := Lib.hid hown2; have HB2 := Lib.hid hb2; clear hown2 hb2)
      go_roundw
      case rel => exact ⟨k + 1, A2, c2, by omega, by go_num, rfl, by rw [HSN.out]; exact HO2.out, HB2.out⟩
      case measure => simp [intOf]; omega
    · have hke : k = 3 := by omega
      subst hke
      have htk : (ks5.take 3).take 3 = ks5.take 3 := by rw [List.take_take]; rfl
      rw [htk] at HO
      clear hown hb
      have HST2 := Lib.hid (HST.out.strs (below_mem HB.out).1 (below_mem HB.out).2)
      have HLK := Lib.hid (show Calls Tryd.prog 29 #[.int .i64 1, .slice (some ⟨w.heap.size, 0, none⟩) 3 5] wr (ActsOut (lookM 1 (ks5.take 3)) wr) from look_any 1 _ 5 (ks5.take 3) wr HST2.out (by decide))
      have hll : (lookM 1 (ks5.take 3)).length = 4 := by decide
      obtain ⟨w3, rfl⟩ : ∃ w3, w3 = wr := ⟨_, rfl⟩
      go_wp2_with fail
      refine HLK.out.mono ?_
      rintro e w4 ⟨A4, c4, rfl, hown4, hb4⟩
      have hal : Below w4.heap.size w4 (w4.alloc (.cells #[.slice As (4 + m + 1 + 3) cs, .slice A4 4 c4] 49)) := below_alloc (Below.refl _ _) _
      have hg := heap_alloc_new w4 (.cells #[.slice As (4 + m + 1 + 3) cs, .slice A4 4 c4] 49)
      obtain ⟨W4, hW4⟩ : ∃ W4, W4 = w4.alloc (.cells #[.slice As (4 + m + 1 + 3) cs, .slice A4 4 c4] 49) := ⟨_, rfl⟩
      rw [← hW4] at hal hg
      have hcl : (crPre m (ks5.take 3) (ks5.take 3)).length = 4 + m + 1 + 3 := by
        rw [crPre, List.length_append, List.length_append, hdl, List.length_map]; rfl
      have hA2 : ActsAt W4 (· < W4.heap.size) As (crPre m (ks5.take 3) (ks5.take 3)) := SeqAt.acts (OwnsActs.acts (Cells.Owns.kept (Cells.Owns.kept HO.out hb4) hal) (by rw [hcl]; omega) (crPre_ok hkl hkl)).2.2 (fun b hb => hb.2) (fun _ _ _ => rfl)
      have hA3 : ActsAt W4 (· < W4.heap.size) A4 (lookM 1 (ks5.take 3)) := SeqAt.acts (OwnsActs.acts (Cells.Owns.kept hown4 hal) (by rw [hll]; decide) (look_ok (c := 1) hkl)).2.2 (fun b hb => hb.2) (fun _ _ _ => rfl)
      rw [← hcl] at hg
      have hps := parts_block (W := W4) (l := [⟨As, cs, crPre m (ks5.take 3) (ks5.take 3)⟩, ⟨A4, c4, lookM 1 (ks5.take 3)⟩]) hg (by simp) (by
        intro p hp
        simp only [List.mem_cons, List.not_mem_nil, or_false] at hp
        rcases hp with rfl | rfl
        · exact hA2
        · exact hA3)
      have hjn : joinM [⟨As, cs, crPre m (ks5.take 3) (ks5.take 3)⟩, ⟨A4, c4, lookM 1 (ks5.take 3)⟩] = crActs 3 m := by simp [joinM, crActs]
      have HC := Lib.hid (concat_any (some ⟨w4.heap.size, 0, none⟩) 2 _ W4 hps (by rw [hjn, hL]; omega) (by rw [hjn, hL]; omega))
      rw [hjn] at HC
      have HW4 := Lib.hid hW4
      have HB4 := Lib.hid (below_next (below_next HB.out hb4) hal)
      have HST4 := Lib.hid (HST2.out.strs (below_mem (below_next hb4 hal)).1 (below_mem (below_next hb4 hal)).2)
      clear hown4 hb4 hal hg hW4 hA2 hA3 hps hjn
      go_wp2_with fail
      rw [← HW4.out]
      refine HC.out.mono ?_
      rintro e w5 ⟨A5, c5, rfl, hown5, hb5⟩
      have hok5 : ∀ a ∈ crActs 3 m, ActOk a := by
        intro a ha
        rcases List.mem_append.1 ha with ha | ha
        · exact crPre_ok hkl hkl a ha
        · exact look_ok (c := 1) hkl a ha
      have hA5 : ActsAt w5 (· < w5.heap.size) A5 (crActs 3 m) := SeqAt.acts (OwnsActs.acts hown5 (by rw [hL]; omega) hok5).2.2 (fun b hb => hb.2) (fun _ _ _ => rfl)
      have hrun := kRun_any A5 c5 (crActs 3 m) w5 hA5 (by rw [hL]; omega)
      rw [hL] at hrun
      have HRUN := Lib.hid hrun
      clear hrun
      have HB5 := Lib.hid (below_next HB4.out hb5)
      have HST5 := Lib.hid (HST4.out.strs (below_mem hb5).1 (below_mem hb5).2)
      clear hown5 hb5 hA5 hok5
      go_wp2_with fail
      refine HRUN.out.mono ?_
      rintro e w6 ⟨g, rfl, hans, hb6⟩
      have HANS := Lib.hid hans
      have HB6 := Lib.hid (below_next HB5.out hb6)
      have HST6 := Lib.hid (HST5.out.strs (below_mem hb6).1 (below_mem hb6).2)
      rw [hL] at HANS ⊢
      clear hans hb6 HC HRUN HD HP HP2 HLK
      have hms : m = 0 ∨ m = 1 ∨ m = 2 ∨ m = 3 ∨ m = 4 ∨ m = 5 ∨ m = 6 ∨ m = 7 := by omega
      rcases hms with rfl | rfl | rfl | rfl | rfl | rfl | rfl | rfl
      all_goals
        clear hL hdl hcl p0 p1 hmlt
        go_wp2
        go_loopw [59] (fun i wr => ∃ m : Nat, m ≤ 3 ∧ i = .int .i64 m ∧ Below w6.heap.size w6 wr) (fun i _ => 3 - (intOf i).toNat)
        case atStart => exact ⟨0, Nat.zero_le _, rfl, Below.refl _ _⟩
        case round =>
          obtain ⟨q, hq, rfl, hb⟩ := hrel
          have HB := Lib.hid hb
          by_cases hlt : q < 3
          · obtain ⟨xr, e1, e2, e3, e4⟩ := HROW.out q hlt
            have kr := (HANS.out.kept (hb.block _ HANS.out.lt)).ans _ xr e1
            have z0 := kr.c
            have z1 := kr.i
            have z2 := kr.v
            have z3 := kr.p
            have z4 := kr.t
            have hml : q < (ks5.take 3).length := by show q < 3; exact hlt
            obtain ⟨b, o, hA, hbb, hx⟩ := SeqAt.at_ (HST6.out.strs (below_mem hb).1 (below_mem hb).2) (getD_some (d := default) hml)
            obtain ⟨rfl, rfl⟩ : w.heap.size = b ∧ 0 = o := by injection hA with e; injection e with e1 e2; exact ⟨e1, e2⟩
            have hgd : (ks5.take 3).getD q default = ks5.getD q default := by simp [List.getD, hlt]
            rw [hgd] at hx
            obtain ⟨key, hkey⟩ : ∃ key, key = ks5.getD q default := ⟨_, rfl⟩
            rw [← hkey] at hx e4
            obtain ⟨x0, xs⟩ := hx
            rw [Nat.mul_one, Nat.zero_add] at x0
            rw [e2] at z0
            rw [e3] at z1
            have hgl : g < wr.heap.size := (HANS.out.kept (hb.block _ HANS.out.lt)).lt
            have j0 : (0 : Int) ≤ (q : Int) := by omega
            have j1 : (q : Int) < 3 := by omega
            try (rw [e4 (by omega), ofS_zero] at z2)
            simp only [Nat.reduceAdd, Nat.reduceMul, Nat.reduceLeDiff, decide_true, decide_false] at z0 z1 z2 z3 z4
            clear hb hkey kr hA e1 e2 e3 e4
            go_wp2
            go_roundw
            case rel => exact ⟨q + 1, by omega, by go_num, below_alloc HB.out _⟩
            case measure => simp [intOf]; omega
          · have hqe : q = 3 := by omega
            subst hqe
            clear hb
            go_wp2
            go_ret
            exact ⟨rfl, below_next HB1.out (below_next HB6.out HB.out)⟩
set_option maxRecDepth 100000 in
set_option maxHeartbeats 8000000 in
theorem crashesResolve_K4 (w : World) (n st : Int) (hn : i64 n) (hst : i64 st) (hj : pickM n 5 = 3) :
    Calls Tryd.prog 8 #[.int .i64 n, .int .i64 st] w fun e w' => e = .returned (.bool true) ∧ Below w.heap.size w w' := by
  obtain ⟨W1, hW1, hb1, hst1, hs1⟩ := ks_new w
  have HP := Lib.hid (picked_any n 5 W1 hn (by decide) (by decide))
  rw [hj] at HP
  have HP2 := Lib.hid (picked_any st 10 W1 hst (by decide) (by decide))
  obtain ⟨p0, p1⟩ := pick_bd st (show (0 : Int) < 10 by decide)
  obtain ⟨m, hm⟩ : ∃ m : Nat, pickM st 10 = m := ⟨(pickM st 10).toNat, by omega⟩
  rw [hm] at HP2 p0 p1
  have hmlt : m < 10 := by omega
  have hrow := cr_row (cr_ok 4 (by omega) m (by omega))
  have hL : (crActs 4 m).length = 15 + m := cr_len 4 (by omega) m (by omega)
  have hkl : ∀ k ∈ ks5.take 4, k.size ≤ 6 := fun k hk => ks5_size k (List.mem_of_mem_take hk)
  have HD := Lib.hid (show Calls Tryd.prog 28 #[.int .i64 0, .int .i64 m, .slice (some ⟨w.heap.size, 0, none⟩) 4 5] W1 (ActsOut (deedM 0 m (ks5.take 4)) W1) from deed_any 0 (by decide) m (by omega) _ 5 (ks5.take 4) W1 (hst1.take_ 4) (by decide))
  have HROW := Lib.hid hrow
  have HST := Lib.hid (hst1.take_ 4)
  have HB1 := Lib.hid hb1
  have HW1 := Lib.hid hW1
  clear hW1 hb1 hst1 hrow hj hm
  go_enter Tryd.func8, Tryd.ntmps8
  go_wp2_with fail
  rw [← HW1.out]
  refine HP.out.mono ?_
  rintro e w' ⟨rfl, hw⟩
  rw [hw]
  clear hw w'
  go_wp2_with fail
  refine HP2.out.mono ?_
  rintro e w' ⟨rfl, hw⟩
  rw [hw]
  clear hw w'
  go_wp2_with fail
  refine HD.out.mono ?_
  rintro e w2 ⟨A2, c2, rfl, hown2, hb2⟩
  have hdl : (deedM 0 m (ks5.take 4)).length = 5 + m := by simp [deedM, ks5]; omega
  rw [hdl] at hown2 ⊢
  have HAP := Lib.hid (fun ty => app_act (ty := ty) w2 W1 W1.heap.size c2 A2 (deedM 0 m (ks5.take 4)) (actB 5 0) (by rw [hdl]; exact hown2) (by rw [hdl]; omega) hb2.size hb2)
  rw [hdl] at HAP
  clear hown2 hb2
  go_wp2_with (at_builtin; refine (wpList_append_run _ rfl (.tmp 30) (.tmp 32) 49 rfl (.slice A2 (5 + m) c2) (.slice (some ⟨w2.heap.size, 0, none⟩) 1 1) rfl rfl (HAP.out _) ?_); rintro v1 w3 ⟨A3, c3, rfl, hown3, hb3⟩; have HO3 := Lib.hid hown3; have HB3 := Lib.hid hb3; clear hown3 hb3)
  go_loopw [8, 36] (fun v i wr => ∃ (k : Nat) (As : Option Addr) (cs : Nat), k ≤ 4 ∧ i = .int .i64 k ∧ v = .slice As (5 + m + 1 + k) cs ∧ OwnsActs wr W1.heap.size (.slice As (5 + m + 1 + k) cs) (crPre m (ks5.take 4) ((ks5.take 4).take k)) ∧ Below W1.heap.size W1 wr) (fun _ i _ => 4 - (intOf i).toNat)
  case atStart => exact ⟨0, _, _, Nat.zero_le _, rfl, rfl, by rw [crPre, List.take_zero, List.map_nil, List.append_nil]; exact HO3.out, HB3.out⟩
  case round =>
    obtain ⟨k, As, cs, hk, rfl, rfl, hown, hb⟩ := hrel
    have HO := Lib.hid hown
    have HB := Lib.hid hb
    by_cases hlt : k < 4
    · have hml : k < (ks5.take 4).length := by show k < 4; exact hlt
      obtain ⟨b, o, hA, hbb, hx⟩ := SeqAt.at_ (HST.out.strs (below_mem hb).1 (below_mem hb).2) (getD_some (d := default) hml)
      obtain ⟨rfl, rfl⟩ : w.heap.size = b ∧ 0 = o := by injection hA with e; injection e with e1 e2; exact ⟨e1, e2⟩
      obtain ⟨key, hkey⟩ : ∃ key, key = (ks5.take 4).getD k default := ⟨_, rfl⟩
      rw [← hkey] at hx
      obtain ⟨x0, xs⟩ := hx
      rw [Nat.mul_one, Nat.zero_add] at x0
      have hlen : (crPre m (ks5.take 4) ((ks5.take 4).take k)).length = 5 + m + 1 + k := by
        rw [crPre, List.length_append, List.length_append, hdl, List.length_map, List.length_take]
        show 5 + m + 1 + min k 4 = _
        omega
      have HSN := Lib.hid (show crPre m (ks5.take 4) ((ks5.take 4).take (k + 1)) = crPre m (ks5.take 4) ((ks5.take 4).take k) ++ [⟨6, 1, key, ⟨#[]⟩⟩] by rw [crPre, crPre, map_take_snoc (d := default) _ hml, ← hkey, List.append_assoc, List.append_assoc, List.append_assoc])
      have HAP := Lib.hid (fun ty => app_act (ty := ty) wr W1 W1.heap.size cs As (crPre m (ks5.take 4) ((ks5.take 4).take k)) ⟨6, 1, key, ⟨#[]⟩⟩ (by rw [hlen]; exact hown) (by rw [hlen]; omega) hb.size hb)
      rw [hlen] at HAP
      have j0 : (0 : Int) ≤ (k : Int) := by omega
      have j1 : (k : Int) < 4 := by omega
      clear hown hb hkey hA
      go_wp2_with (at_builtin; refine (wpList_append_run _ rfl (.tmp 40) (.tmp 43) 49 rfl (.slice As (5 + m + 1 + k) cs) (.slice (some ⟨wr.heap.size, 0, none⟩) 1 1) rfl rfl (HAP.out _) ?_); rintro v1 w2 ⟨A2, c2, rfl, hown2, hb2⟩; have HO2 := Lib.hid hown2; have HB2 := Lib.hid hb2; clear hown2 hb2)
      go_roundw
      case rel => exact ⟨k + 1, A2, c2, by omega, by go_num, rfl, by rw [HSN.out]; exact HO2.out, HB2.out⟩
      case measure => simp [intOf]; omega
    · have hke : k = 4 := by omega
      subst hke
      have htk : (ks5.take 4).take 4 = ks5.take 4 := by rw [List.take_take]; rfl
      rw [htk] at HO
      clear hown hb
      have HST2 := Lib.hid (HST.out.strs (below_mem HB.out).1 (below_mem HB.out).2)
      have HLK := Lib.hid (show Calls Tryd.prog 29 #[.int .i64 1, .slice (some ⟨w.heap.size, 0, none⟩) 4 5] wr (ActsOut (lookM 1 (ks5.take 4)) wr) from look_any 1 _ 5 (ks5.take 4) wr HST2.out (by decide))
      have hll : (lookM 1 (ks5.take 4)).length = 5 := by decide
      obtain ⟨w3, rfl⟩ : ∃ w3, w3 = wr := ⟨_, rfl⟩
      go_wp2_with fail
      refine HLK.out.mono ?_
      rintro e w4 ⟨A4, c4, rfl, hown4, hb4⟩
      have hal : Below w4.heap.size w4 (w4.alloc (.cells #[.slice As (5 + m + 1 + 4) cs, .slice A4 5 c4] 49)) := below_alloc (Below.refl _ _) _
      have hg := heap_alloc_new w4 (.cells #[.slice As (5 + m + 1 + 4) cs, .slice A4 5 c4] 49)
      obtain ⟨W4, hW4⟩ : ∃ W4, W4 = w4.alloc (.cells #[.slice As (5 + m + 1 + 4) cs, .slice A4 5 c4] 49) := ⟨_, rfl⟩
      rw [← hW4] at hal hg
      have hcl : (crPre m (ks5.take 4) (ks5.take 4)).length = 5 + m + 1 + 4 := by
        rw [crPre, List.length_append, List.length_append, hdl, List.length_map]; rfl
      have hA2 : ActsAt W4 (· < W4.heap.size) As (crPre m (ks5.take 4) (ks5.take 4)) := SeqAt.acts (OwnsActs.acts (Cells.Owns.kept (Cells.Owns.kept HO.out hb4) hal) (by rw [hcl]; omega) (crPre_ok hkl hkl)).2.2 (fun b hb => hb.2) (fun _ _ _ => rfl)
      have hA3 : ActsAt W4 (· < W4.heap.size) A4 (lookM 1 (ks5.take 4)) := SeqAt.acts (OwnsActs.acts (Cells.Owns.kept hown4 hal) (by rw [hll]; decide) (look_ok (c := 1) hkl)).2.2 (fun b hb => hb.2) (fun _ _ _ => rfl)
      rw [← hcl] at hg
      have hps := parts_block (W := W4) (l := [⟨As, cs, crPre m (ks5.take 4) (ks5.take 4)⟩, ⟨A4, c4, lookM 1 (ks5.take 4)⟩]) hg (by simp) (by
        intro p hp
        simp only [List.mem_cons, List.not_mem_nil, or_false] at hp
        rcases hp with rfl | rfl
        · exact hA2
        · exact hA3)
      have hjn : joinM [⟨As, cs, crPre m (ks5.take 4) (ks5.take 4)⟩, ⟨A4, c4, lookM 1 (ks5.take 4)⟩] = crActs 4 m := by simp [joinM, crActs]
      have HC := Lib.hid (concat_any (some ⟨w4.heap.size, 0, none⟩) 2 _ W4 hps (by rw [hjn, hL]; omega) (by rw [hjn, hL]; omega))
      rw [hjn] at HC
      have HW4 := Lib.hid hW4
      have HB4 := Lib.hid (below_next (below_next HB.out hb4) hal)
      have HST4 := Lib.hid (HST2.out.strs (below_mem (below_next hb4 hal)).1 (below_mem (below_next hb4 hal)).2)
      clear hown4 hb4 hal hg hW4 hA2 hA3 hps hjn
      go_wp2_with fail
      rw [← HW4.out]
      refine HC.out.mono ?_
      rintro e w5 ⟨A5, c5, rfl, hown5, hb5⟩
      have hok5 : ∀ a ∈ crActs 4 m, ActOk a := by
        intro a ha
        rcases List.mem_append.1 ha with ha | ha
        · exact crPre_ok hkl hkl a ha
        · exact look_ok (c := 1) hkl a ha
      have hA5 : ActsAt w5 (· < w5.heap.size) A5 (crActs 4 m) := SeqAt.acts (OwnsActs.acts hown5 (by rw [hL]; omega) hok5).2.2 (fun b hb => hb.2) (fun _ _ _ => rfl)
      have hrun := kRun_any A5 c5 (crActs 4 m) w5 hA5 (by rw [hL]; omega)
      rw [hL] at hrun
      have HRUN := Lib.hid hrun
      clear hrun
      have HB5 := Lib.hid (below_next HB4.out hb5)
      have HST5 := Lib.hid (HST4.out.strs (below_mem hb5).1 (below_mem hb5).2)
      clear hown5 hb5 hA5 hok5
      go_wp2_with fail
      refine HRUN.out.mono ?_
      rintro e w6 ⟨g, rfl, hans, hb6⟩
      have HANS := Lib.hid hans
      have HB6 := Lib.hid (below_next HB5.out hb6)
      have HST6 := Lib.hid (HST5.out.strs (below_mem hb6).1 (below_mem hb6).2)
      rw [hL] at HANS ⊢
      clear hans hb6 HC HRUN HD HP HP2 HLK
      have hms : m = 0 ∨ m = 1 ∨ m = 2 ∨ m = 3 ∨ m = 4 ∨ m = 5 ∨ m = 6 ∨ m = 7 ∨ m = 8 ∨ m = 9 := by omega
      rcases hms with rfl | rfl | rfl | rfl | rfl | rfl | rfl | rfl | rfl | rfl
      all_goals
        clear hL hdl hcl p0 p1 hmlt
        go_wp2
        go_loopw [59] (fun i wr => ∃ m : Nat, m ≤ 4 ∧ i = .int .i64 m ∧ Below w6.heap.size w6 wr) (fun i _ => 4 - (intOf i).toNat)
        case atStart => exact ⟨0, Nat.zero_le _, rfl, Below.refl _ _⟩
        case round =>
          obtain ⟨q, hq, rfl, hb⟩ := hrel
          have HB := Lib.hid hb
          by_cases hlt : q < 4
          · obtain ⟨xr, e1, e2, e3, e4⟩ := HROW.out q hlt
            have kr := (HANS.out.kept (hb.block _ HANS.out.lt)).ans _ xr e1
            have z0 := kr.c
            have z1 := kr.i
            have z2 := kr.v
            have z3 := kr.p
            have z4 := kr.t
            have hml : q < (ks5.take 4).length := by show q < 4; exact hlt
            obtain ⟨b, o, hA, hbb, hx⟩ := SeqAt.at_ (HST6.out.strs (below_mem hb).1 (below_mem hb).2) (getD_some (d := default) hml)
            obtain ⟨rfl, rfl⟩ : w.heap.size = b ∧ 0 = o := by injection hA with e; injection e with e1 e2; exact ⟨e1, e2⟩
            have hgd : (ks5.take 4).getD q default = ks5.getD q default := by simp [List.getD, hlt]
            rw [hgd] at hx
            obtain ⟨key, hkey⟩ : ∃ key, key = ks5.getD q default := ⟨_, rfl⟩
            rw [← hkey] at hx e4
            obtain ⟨x0, xs⟩ := hx
            rw [Nat.mul_one, Nat.zero_add] at x0
            rw [e2] at z0
            rw [e3] at z1
            have hgl : g < wr.heap.size := (HANS.out.kept (hb.block _ HANS.out.lt)).lt
            have j0 : (0 : Int) ≤ (q : Int) := by omega
            have j1 : (q : Int) < 4 := by omega
            try (rw [e4 (by omega), ofS_zero] at z2)
            simp only [Nat.reduceAdd, Nat.reduceMul, Nat.reduceLeDiff, decide_true, decide_false] at z0 z1 z2 z3 z4
            clear hb hkey kr hA e1 e2 e3 e4
            go_wp2
            go_roundw
            case rel => exact ⟨q + 1, by omega, by go_num, below_alloc HB.out _⟩
            case measure => simp [intOf]; omega
          · have hqe : q = 4 := by omega
            subst hqe
            clear hb
            go_wp2
            go_ret
            exact ⟨rfl, below_next HB1.out (below_next HB6.out HB.out)⟩
set_option maxRecDepth 100000 in
set_option maxHeartbeats 8000000 in
theorem crashesResolve_K5 (w : World) (n st : Int) (hn : i64 n) (hst : i64 st) (hj : pickM n 5 = 4) :
    Calls Tryd.prog 8 #[.int .i64 n, .int .i64 st] w fun e w' => e = .returned (.bool true) ∧ Below w.heap.size w w' := by
  obtain ⟨W1, hW1, hb1, hst1, hs1⟩ := ks_new w
  have HP := Lib.hid (picked_any n 5 W1 hn (by decide) (by decide))
  rw [hj] at HP
  have HP2 := Lib.hid (picked_any st 12 W1 hst (by decide) (by decide))
  obtain ⟨p0, p1⟩ := pick_bd st (show (0 : Int) < 12 by decide)
  obtain ⟨m, hm⟩ : ∃ m : Nat, pickM st 12 = m := ⟨(pickM st 12).toNat, by omega⟩
  rw [hm] at HP2 p0 p1
  have hmlt : m < 12 := by omega
  have hrow := cr_row (cr_ok 5 (by omega) m (by omega))
  have hL : (crActs 5 m).length = 18 + m := cr_len 5 (by omega) m (by omega)
  have hkl : ∀ k ∈ ks5.take 5, k.size ≤ 6 := fun k hk => ks5_size k (List.mem_of_mem_take hk)
  have HD := Lib.hid (show Calls Tryd.prog 28 #[.int .i64 0, .int .i64 m, .slice (some ⟨w.heap.size, 0, none⟩) 5 5] W1 (ActsOut (deedM 0 m (ks5.take 5)) W1) from deed_any 0 (by decide) m (by omega) _ 5 (ks5.take 5) W1 (hst1.take_ 5) (by decide))
  have HROW := Lib.hid hrow
  have HST := Lib.hid (hst1.take_ 5)
  have HB1 := Lib.hid hb1
  have HW1 := Lib.hid hW1
  clear hW1 hb1 hst1 hrow hj hm
  go_enter Tryd.func8, Tryd.ntmps8
  go_wp2_with fail
  rw [← HW1.out]
  refine HP.out.mono ?_
  rintro e w' ⟨rfl, hw⟩
  rw [hw]
  clear hw w'
  go_wp2_with fail
  refine HP2.out.mono ?_
  rintro e w' ⟨rfl, hw⟩
  rw [hw]
  clear hw w'
  go_wp2_with fail
  refine HD.out.mono ?_
  rintro e w2 ⟨A2, c2, rfl, hown2, hb2⟩
  have hdl : (deedM 0 m (ks5.take 5)).length = 6 + m := by simp [deedM, ks5]; omega
  rw [hdl] at hown2 ⊢
  have HAP := Lib.hid (fun ty => app_act (ty := ty) w2 W1 W1.heap.size c2 A2 (deedM 0 m (ks5.take 5)) (actB 5 0) (by rw [hdl]; exact hown2) (by rw [hdl]; omega) hb2.size hb2)
  rw [hdl] at HAP
  clear hown2 hb2
  go_wp2_with (at_builtin; refine (wpList_append_run _ rfl (.tmp 30) (.tmp 32) 49 rfl (.slice A2 (6 + m) c2) (.slice (some ⟨w2.heap.size, 0, none⟩) 1 1) rfl rfl (HAP.out _) ?_); rintro v1 w3 ⟨A3, c3, rfl, hown3, hb3⟩; have HO3 := Lib.hid hown3; have HB3 := Lib.hid hb3; clear hown3 hb3)
  go_loopw [8, 36] (fun v i wr => ∃ (k : Nat) (As : Option Addr) (cs : Nat), k ≤ 5 ∧ i = .int .i64 k ∧ v = .slice As (6 + m + 1 + k) cs ∧ OwnsActs wr W1.heap.size (.slice As (6 + m + 1 + k) cs) (crPre m (ks5.take 5) ((ks5.take 5).take k)) ∧ Below W1.heap.size W1 wr) (fun _ i _ => 5 - (intOf i).toNat)
  case atStart => exact ⟨0, _, _, Nat.zero_le _, rfl, rfl, by rw [crPre, List.take_zero, List.map_nil, List.append_nil]; exact HO3.out, HB3.out⟩
  case round =>
    obtain ⟨k, As, cs, hk, rfl, rfl, hown, hb⟩ := hrel
    have HO := Lib.hid hown
    have HB := Lib.hid hb
    by_cases hlt : k < 5
    · have hml : k < (ks5.take 5).length := by show k < 5; exact hlt
      obtain ⟨b, o, hA, hbb, hx⟩ := SeqAt.at_ (HST.out.strs (below_mem hb).1 (below_mem hb).2) (getD_some (d := default) hml)
      obtain ⟨rfl, rfl⟩ : w.heap.size = b ∧ 0 = o := by injection hA with e; injection e with e1 e2; exact ⟨e1, e2⟩
      obtain ⟨key, hkey⟩ : ∃ key, key = (ks5.take 5).getD k default := ⟨_, rfl⟩
      rw [← hkey] at hx
      obtain ⟨x0, xs⟩ := hx
      rw [Nat.mul_one, Nat.zero_add] at x0
      have hlen : (crPre m (ks5.take 5) ((ks5.take 5).take k)).length = 6 + m + 1 + k := by
        rw [crPre, List.length_append, List.length_append, hdl, List.length_map, List.length_take]
        show 6 + m + 1 + min k 5 = _
        omega
      have HSN := Lib.hid (show crPre m (ks5.take 5) ((ks5.take 5).take (k + 1)) = crPre m (ks5.take 5) ((ks5.take 5).take k) ++ [⟨6, 1, key, ⟨#[]⟩⟩] by rw [crPre, crPre, map_take_snoc (d := default) _ hml, ← hkey, List.append_assoc, List.append_assoc, List.append_assoc])
      have HAP := Lib.hid (fun ty => app_act (ty := ty) wr W1 W1.heap.size cs As (crPre m (ks5.take 5) ((ks5.take 5).take k)) ⟨6, 1, key, ⟨#[]⟩⟩ (by rw [hlen]; exact hown) (by rw [hlen]; omega) hb.size hb)
      rw [hlen] at HAP
      have j0 : (0 : Int) ≤ (k : Int) := by omega
      have j1 : (k : Int) < 5 := by omega
      clear hown hb hkey hA
      go_wp2_with (at_builtin; refine (wpList_append_run _ rfl (.tmp 40) (.tmp 43) 49 rfl (.slice As (6 + m + 1 + k) cs) (.slice (some ⟨wr.heap.size, 0, none⟩) 1 1) rfl rfl (HAP.out _) ?_); rintro v1 w2 ⟨A2, c2, rfl, hown2, hb2⟩; have HO2 := Lib.hid hown2; have HB2 := Lib.hid hb2; clear hown2 hb2)
      go_roundw
      case rel => exact ⟨k + 1, A2, c2, by omega, by go_num, rfl, by rw [HSN.out]; exact HO2.out, HB2.out⟩
      case measure => simp [intOf]; omega
    · have hke : k = 5 := by omega
      subst hke
      have htk : (ks5.take 5).take 5 = ks5.take 5 := by rw [List.take_take]; rfl
      rw [htk] at HO
      clear hown hb
      have HST2 := Lib.hid (HST.out.strs (below_mem HB.out).1 (below_mem HB.out).2)
      have HLK := Lib.hid (show Calls Tryd.prog 29 #[.int .i64 1, .slice (some ⟨w.heap.size, 0, none⟩) 5 5] wr (ActsOut (lookM 1 (ks5.take 5)) wr) from look_any 1 _ 5 (ks5.take 5) wr HST2.out (by decide))
      have hll : (lookM 1 (ks5.take 5)).length = 6 := by decide
      obtain ⟨w3, rfl⟩ : ∃ w3, w3 = wr := ⟨_, rfl⟩
      go_wp2_with fail
      refine HLK.out.mono ?_
      rintro e w4 ⟨A4, c4, rfl, hown4, hb4⟩
      have hal : Below w4.heap.size w4 (w4.alloc (.cells #[.slice As (6 + m + 1 + 5) cs, .slice A4 6 c4] 49)) := below_alloc (Below.refl _ _) _
      have hg := heap_alloc_new w4 (.cells #[.slice As (6 + m + 1 + 5) cs, .slice A4 6 c4] 49)
      obtain ⟨W4, hW4⟩ : ∃ W4, W4 = w4.alloc (.cells #[.slice As (6 + m + 1 + 5) cs, .slice A4 6 c4] 49) := ⟨_, rfl⟩
      rw [← hW4] at hal hg
      have hcl : (crPre m (ks5.take 5) (ks5.take 5)).length = 6 + m + 1 + 5 := by
        rw [crPre, List.length_append, List.length_append, hdl, List.length_map]; rfl
      have hA2 : ActsAt W4 (· < W4.heap.size) As (crPre m (ks5.take 5) (ks5.take 5)) := SeqAt.acts (OwnsActs.acts (Cells.Owns.kept (Cells.Owns.kept HO.out hb4) hal) (by rw [hcl]; omega) (crPre_ok hkl hkl)).2.2 (fun b hb => hb.2) (fun _ _ _ => rfl)
      have hA3 : ActsAt W4 (· < W4.heap.size) A4 (lookM 1 (ks5.take 5)) := SeqAt.acts (OwnsActs.acts (Cells.Owns.kept hown4 hal) (by rw [hll]; decide) (look_ok (c := 1) hkl)).2.2 (fun b hb => hb.2) (fun _ _ _ => rfl)
      rw [← hcl] at hg
      have hps := parts_block (W := W4) (l := [⟨As, cs, crPre m (ks5.take 5) (ks5.take 5)⟩, ⟨A4, c4, lookM 1 (ks5.take 5)⟩]) hg (by simp) (by
        intro p hp
        simp only [List.mem_cons, List.not_mem_nil, or_false] at hp
        rcases hp with rfl | rfl
        · exact hA2
        · exact hA3)
      have hjn : joinM [⟨As, cs, crPre m (ks5.take 5) (ks5.take 5)⟩, ⟨A4, c4, lookM 1 (ks5.take 5)⟩] = crActs 5 m := by simp [joinM, crActs]
      have HC := Lib.hid (concat_any (some ⟨w4.heap.size, 0, none⟩) 2 _ W4 hps (by rw [hjn, hL]; omega) (by rw [hjn, hL]; omega))
      rw [hjn] at HC
      have HW4 := Lib.hid hW4
      have HB4 := Lib.hid (below_next (below_next HB.out hb4) hal)
      have HST4 := Lib.hid (HST2.out.strs (below_mem (below_next hb4 hal)).1 (below_mem (below_next hb4 hal)).2)
      clear hown4 hb4 hal hg hW4 hA2 hA3 hps hjn
      go_wp2_with fail
      rw [← HW4.out]
      refine HC.out.mono ?_
      rintro e w5 ⟨A5, c5, rfl, hown5, hb5⟩
      have hok5 : ∀ a ∈ crActs 5 m, ActOk a := by
        intro a ha
        rcases List.mem_append.1 ha with ha | ha
        · exact crPre_ok hkl hkl a ha
        · exact look_ok (c := 1) hkl a ha
      have hA5 : ActsAt w5 (· < w5.heap.size) A5 (crActs 5 m) := SeqAt.acts (OwnsActs.acts hown5 (by rw [hL]; omega) hok5).2.2 (fun b hb => hb.2) (fun _ _ _ => rfl)
      have hrun := kRun_any A5 c5 (crActs 5 m) w5 hA5 (by rw [hL]; omega)
      rw [hL] at hrun
      have HRUN := Lib.hid hrun
      clear hrun
      have HB5 := Lib.hid (below_next HB4.out hb5)
      have HST5 := Lib.hid (HST4.out.strs (below_mem hb5).1 (below_mem hb5).2)
      clear hown5 hb5 hA5 hok5
      go_wp2_with fail
      refine HRUN.out.mono ?_
      rintro e w6 ⟨g, rfl, hans, hb6⟩
      have HANS := Lib.hid hans
      have HB6 := Lib.hid (below_next HB5.out hb6)
      have HST6 := Lib.hid (HST5.out.strs (below_mem hb6).1 (below_mem hb6).2)
      rw [hL] at HANS ⊢
      clear hans hb6 HC HRUN HD HP HP2 HLK
      have hms : m = 0 ∨ m = 1 ∨ m = 2 ∨ m = 3 ∨ m = 4 ∨ m = 5 ∨ m = 6 ∨ m = 7 ∨ m = 8 ∨ m = 9 ∨ m = 10 ∨ m = 11 := by omega
      rcases hms with rfl | rfl | rfl | rfl | rfl | rfl | rfl | rfl | rfl | rfl | rfl | rfl
      all_goals
        clear hL hdl hcl p0 p1 hmlt
        go_wp2
        go_loopw [59] (fun i wr => ∃ m : Nat, m ≤ 5 ∧ i = .int .i64 m ∧ Below w6.heap.size w6 wr) (fun i _ => 5 - (intOf i).toNat)
        case atStart => exact ⟨0, Nat.zero_le _, rfl, Below.refl _ _⟩
        case round =>
          obtain ⟨q, hq, rfl, hb⟩ := hrel
          have HB := Lib.hid hb
          by_cases hlt : q < 5
          · obtain ⟨xr, e1, e2, e3, e4⟩ := HROW.out q hlt
            have kr := (HANS.out.kept (hb.block _ HANS.out.lt)).ans _ xr e1
            have z0 := kr.c
            have z1 := kr.i
            have z2 := kr.v
            have z3 := kr.p
            have z4 := kr.t
            have hml : q < (ks5.take 5).length := by show q < 5; exact hlt
            obtain ⟨b, o, hA, hbb, hx⟩ := SeqAt.at_ (HST6.out.strs (below_mem hb).1 (below_mem hb).2) (getD_some (d := default) hml)
            obtain ⟨rfl, rfl⟩ : w.heap.size = b ∧ 0 = o := by injection hA with e; injection e with e1 e2; exact ⟨e1, e2⟩
            have hgd : (ks5.take 5).getD q default = ks5.getD q default := by simp [List.getD, hlt]
            rw [hgd] at hx
            obtain ⟨key, hkey⟩ : ∃ key, key = ks5.getD q default := ⟨_, rfl⟩
            rw [← hkey] at hx e4
            obtain ⟨x0, xs⟩ := hx
            rw [Nat.mul_one, Nat.zero_add] at x0
            rw [e2] at z0
            rw [e3] at z1
            have hgl : g < wr.heap.size := (HANS.out.kept (hb.block _ HANS.out.lt)).lt
            have j0 : (0 : Int) ≤ (q : Int) := by omega
            have j1 : (q : Int) < 5 := by omega
            try (rw [e4 (by omega), ofS_zero] at z2)
            simp only [Nat.reduceAdd, Nat.reduceMul, Nat.reduceLeDiff, decide_true, decide_false] at z0 z1 z2 z3 z4
            clear hb hkey kr hA e1 e2 e3 e4
            go_wp2
            go_roundw
            case rel => exact ⟨q + 1, by omega, by go_num, below_alloc HB.out _⟩
            case measure => simp [intOf]; omega
          · have hqe : q = 5 := by omega
            subst hqe
            clear hb
            go_wp2
            go_ret
            exact ⟨rfl, below_next HB1.out (below_next HB6.out HB.out)⟩
theorem crashesResolve_walk (w : World) (n : Int) (hn : i64 n) (st : Int) (hst : i64 st) :
    Calls Tryd.prog 8 #[.int .i64 n, .int .i64 st] w fun e w' => e = .returned (.bool true) ∧ Below w.heap.size w w' := by
  obtain ⟨p0, p1⟩ := pick_bd n (show (0 : Int) < 5 by decide)
  have h : pickM n 5 = 0 ∨ pickM n 5 = 1 ∨ pickM n 5 = 2 ∨ pickM n 5 = 3 ∨ pickM n 5 = 4 := by omega
  rcases h with h | h | h | h | h
  · exact crashesResolve_K1 w n st hn hst h
  · exact crashesResolve_K2 w n st hn hst h
  · exact crashesResolve_K3 w n st hn hst h
  · exact crashesResolve_K4 w n st hn hst h
  · exact crashesResolve_K5 w n st hn hst h
end Go.Proofs.YtambkjnhfejfaabDoor
