/-
  The walk of rickyardtop.TopApart: it returns true and turns no old memory. Conditions: the raw numbers lie in memory.
-/
import Derived.Test.YtambkjnhfejfaabDoorG38
import Derived.BigQuiet
import Derived.Deep.QuietTactic
import Derived.Deep.RegionHeld3
namespace Go.Proofs.YtambkjnhfejfaabDoor
open Go.RowKit Go.Maps

theorem deal_box (wr : World) (s c a : Int) (m : Nat) : ∃ W5, W5 = wr.alloc (.cells #[.int .i64 s, .int .i64 c, .int .i64 a, .map (some m)] 85) ∧ Below wr.heap.size wr W5 ∧ W5.heap.size = wr.heap.size + 1 ∧ W5.cell? ⟨wr.heap.size, 0, none⟩ = some (.int .i64 s) ∧ W5.cell? ⟨wr.heap.size, 1, none⟩ = some (.int .i64 c) ∧ W5.cell? ⟨wr.heap.size, 2, none⟩ = some (.int .i64 a) ∧ W5.cell? ⟨wr.heap.size, 3, none⟩ = some (.map (some m)) := by
  refine ⟨_, rfl, below_alloc (Below.refl _ _) _, ?_, ?_, ?_, ?_, ?_⟩ <;> simp
theorem apart_all {l : List ActM} (hl : l.length ≤ 400) (hf : ∀ a ∈ l, ActFit a) {i j : Nat} (hij : j < i) (hi : i < (ghostL l (runAns (startW 4) l) l.length).ds.length) (key : ByteArray)
    (h1 : (lookW ((ghostL l (runAns (startW 4) l) l.length).ds.getD i default).ws key).isSome = true) (h2 : (lookW ((ghostL l (runAns (startW 4) l) l.length).ds.getD j default).ws key).isSome = true) :
    ((ghostL l (runAns (startW 4) l) l.length).ds.getD i default).cm ≤ ((ghostL l (runAns (startW 4) l) l.length).ds.getD j default).st ∨ ((ghostL l (runAns (startW 4) l) l.length).ds.getD j default).cm ≤ ((ghostL l (runAns (startW 4) l) l.length).ds.getD i default).st := by
  obtain ⟨⟨prim, hw⟩, _, _⟩ := whole_at hl hf l.length (Nat.le_refl _)
  have hp := (ghost_acts l (runAns (startW 4) l) l.length).2
  refine hw.apart (getD_mem hi) (getD_mem (by omega)) ?_ h1 h2
  have := List.pairwise_iff_getElem.1 hp j i (by omega) hi hij
  simp only [List.getD, List.getElem?_eq_getElem hi, List.getElem?_eq_getElem (show j < (ghostL l (runAns (startW 4) l) l.length).ds.length by omega), Option.getD_some]
  omega
set_option maxRecDepth 100000 in
set_option maxHeartbeats 4000000 in
theorem topApart_walk (w : World) (l : List RawM) (A : Option Addr) (q : Nat) (hr : RawsAt w (· < w.heap.size) A l) :
    Calls Tryd.prog 12 #[.slice A l.length q] w fun e w' => e = .returned (.bool true) ∧ Below w.heap.size w w' := by
  have HAC := Lib.hid (show Calls Tryd.prog 32 #[.slice A l.length q, .int .i64 90, .int .i64 4] w (ActsOut (actsM 4 l (min l.length 90)) w) from acts_any A q l 90 (by decide) 4 (by decide) (by decide) w hr)
  have hfit := actsM_fit l (min l.length 90)
  obtain ⟨ac, hac⟩ : ∃ ac, ac = actsM 4 l (min l.length 90) := ⟨_, rfl⟩
  have hal : ac.length ≤ 90 := by rw [hac, actsM_len]; omega
  have hao : ∀ a ∈ ac, ActOk a := by rw [hac]; exact actsM_ok (by omega)
  rw [← hac] at HAC hfit
  have HAO := Lib.hid hao
  have HFIT := Lib.hid hfit
  clear hr hac hao hfit
  go_enter Tryd.func12, Tryd.ntmps12
  go_wp2_with fail
  refine HAC.out.mono ?_
  rintro e w1 ⟨A1, c1, rfl, hown1, hb1⟩
  have hact1 : ActsAt w1 (· < w1.heap.size) A1 ac := SeqAt.acts (OwnsActs.acts hown1 (by omega) HAO.out).2.2 (fun b hb => hb.2) (fun _ _ _ => rfl)
  have HACT1 := Lib.hid hact1
  have HRUN := Lib.hid (topRun_any A1 c1 ac w1 hact1 (by omega))
  have HB1 := Lib.hid hb1
  clear hown1 hb1 hact1
  go_wp2_with fail
  refine HRUN.out.mono ?_
  rintro e w2 ⟨g, RA, n, rc, CA, m, cc, rfl, hwo, hans, _, hb2⟩
  obtain ⟨WO, hWO⟩ : ∃ WO, WO = runWo (startW 4) ac := ⟨_, rfl⟩
  rw [← hWO] at hwo ⊢
  obtain ⟨W3, hW3, k0, k1, k2, hb3, hs3⟩ := box3_new w2 (.slice RA n rc) (.int .i64 WO.clock) (.slice CA m cc) 67
  have hb23 := below_next hb2 hb3
  have hact3 : ActsAt W3 (· < W3.heap.size) A1 ac := SeqAt.acts HACT1.out (fun b hb => Nat.lt_of_lt_of_le hb hb23.size) (fun b j hb' => hb23.cell (p := ⟨b, j, none⟩) hb')
  have hans3 : AnsDone g ac.length (runAns (startW 4) ac) W3 := hans.kept (hb3.block g hans.lt)
  have HACT3 := Lib.hid hact3
  have HANS3 := Lib.hid hans3
  have HB3 := Lib.hid (below_next HB1.out hb23)
  have HW3 := Lib.hid hW3
  have HCO := Lib.hid (committed_run (show ac.length ≤ 400 by omega) HFIT.out HAO.out A1 c1 g ac.length W3 hact3 hans3)
  clear hwo hans hb2 hW3 hb3 hWO hb23 hact3 hans3
  go_wp2_with fail
  rw [← HW3.out]
  refine HCO.out.mono ?_
  rintro e w4 ⟨A2, c2, A3, c3, rfl, hdeals, _, hb4, hcap⟩
  have HAPA := Lib.hid (fun i j hij hi => apart_all (l := ac) (show ac.length ≤ 400 by omega) HFIT.out (i := i) (j := j) hij hi)
  obtain ⟨DS, hDS⟩ : ∃ DS, DS = (ghostL ac (runAns (startW 4) ac) ac.length).ds := ⟨_, rfl⟩
  rw [← hDS] at HAPA hdeals hcap ⊢
  have hlen := hdeals.1
  have HD := Lib.hid hdeals
  have HB4 := Lib.hid hb4
  clear hdeals hb4 hDS HANS3 HACT3 HCO HRUN HAC HACT1 k0 k1 k2 HAO HFIT
  go_wp2
  go_loopw [32] (fun i wr => ∃ k : Nat, k ≤ DS.length ∧ i = .int .i64 k ∧ Below w4.heap.size w4 wr) (fun i _ => DS.length - (intOf i).toNat)
  case atStart => exact ⟨0, Nat.zero_le _, rfl, Below.refl _ _⟩
  case round =>
    obtain ⟨k, hk, rfl, hb⟩ := hrel
    by_cases hm : k < DS.length
    · obtain ⟨b, o, rfl, hbb, hda⟩ := SeqAt.at_ HD.out (getD_some (d := default) hm)
      obtain ⟨a, had⟩ : ∃ a, a = DS.getD k default := ⟨_, rfl⟩
      rw [← had] at hda
      have hda := hda.upto hb hbb
      obtain ⟨bm, nm, m3, hmap⟩ := hda.m
      have m0 := hda.s
      have m1 := hda.c
      have m2 := hda.a
      have HMAP := Lib.hid hmap
      have HB := Lib.hid hb
      have HA := Lib.hid had
      have hbw : b < wr.heap.size := Nat.lt_of_lt_of_le hbb hb.size
      have j0 : (0 : Int) ≤ (k : Int) := by omega
      have j1 : (k : Int) < (DS.length : Int) := by omega
      have j2 : (k : Int) ≤ (c2 : Int) := by omega
      obtain ⟨W5, hW5, hb5, hs5, z0, z1, z2, z3⟩ := deal_box wr a.st a.cm a.act bm
      have HW5 := Lib.hid hW5
      have HB5 := Lib.hid (HB.out.trans (hb5.mono HB.out.size))
      have HMAP5 := Lib.hid (HMAP.out.upto hb5)
      clear hda had hmap hb hb5 hW5
      go_wp2
      rw [← HW5.out]
      obtain ⟨wq, rfl⟩ : ∃ wq, wq = wr := ⟨_, rfl⟩
      clear m0 m1 m2 m3
      go_loopw [41] (fun i wr => ∃ j : Nat, j ≤ k ∧ i = .int .i64 j ∧ Below W5.heap.size W5 wr) (fun i _ => k - (intOf i).toNat)
      case atStart => exact ⟨0, Nat.zero_le _, rfl, Below.refl _ _⟩
      case round =>
        obtain ⟨j, hj, rfl, hb⟩ := hrel
        by_cases hjm : j < k
        · obtain ⟨b', o', ebo, hbb', hdb⟩ := SeqAt.at_ HD.out (getD_some (d := default) (show j < DS.length by omega))
          obtain ⟨d, hdd⟩ : ∃ d, d = DS.getD j default := ⟨_, rfl⟩
          rw [← hdd] at hdb
          injection ebo with ebo
          injection ebo with e1 e2 _
          subst e1 e2
          have hb4r : Below w4.heap.size w4 wr := below_next HB5.out hb
          have hdb := hdb.upto hb4r hbb'
          obtain ⟨bd, nd, d3, hmd⟩ := hdb.m
          have d0 := hdb.s
          have d1 := hdb.c
          have d2 := hdb.a
          have HAPD := Lib.hid (show ∀ key, (lookW a.ws key).isSome = true → (lookW d.ws key).isSome = true → a.cm ≤ d.st ∨ d.cm ≤ a.st by rw [HA.out, hdd]; exact HAPA.out k j hjm hm)
          have HMD := Lib.hid hmd
          have HBJ := Lib.hid hb
          have i0 : (0 : Int) ≤ (j : Int) := by omega
          have i1 : (j : Int) < (k : Int) := by omega
          have hbw' : b < wr.heap.size := Nat.lt_of_lt_of_le hbb hb4r.size
          obtain ⟨W6, hW6, hb6, hs6, v0, v1, v2, v3⟩ := deal_box wr d.st d.cm d.act bd
          have hW56 : Below W5.heap.size W5 W6 := below_next hb hb6
          have hql : wq.heap.size < W5.heap.size := by omega
          have hq6 : wq.heap.size < W6.heap.size := Nat.lt_of_lt_of_le hql hW56.size
          have hr6 : wr.heap.size < W6.heap.size := by omega
          have u0 := (hW56.cell (p := ⟨wq.heap.size, 0, none⟩) hql).trans z0
          have u1 := (hW56.cell (p := ⟨wq.heap.size, 1, none⟩) hql).trans z1
          have u3 := (hW56.cell (p := ⟨wq.heap.size, 3, none⟩) hql).trans z3
          have hqj : wq.heap.size < wr.heap.size := Nat.lt_of_lt_of_le hql hb.size
          have hqn : wq.heap.size ≠ wr.heap.size := by omega
          have u3r := (hb.cell (p := ⟨wq.heap.size, 3, none⟩) hql).trans z3
          obtain ⟨D, hown, hmi⟩ := HMAP5.out.upto hW56
          have HOWN := Lib.hid hown
          have HMI := Lib.hid hmi
          have HMD6 := Lib.hid (HMD.out.upto hb6)
          have HW6 := Lib.hid hW6
          have HB56 := Lib.hid hW56
          clear hdb hdd hmd hb hb6 hW6 hW56 hown hmi hb4r
          obtain ⟨wj, rfl⟩ : ∃ wj, wj = wr := ⟨_, rfl⟩
          go_wp2_with (rw [show (wj.alloc (.cells #[.int .i64 d.st, .int .i64 d.cm, .int .i64 d.act, .map (some bd)] 85)) = W6 from HW6.out.symm]; at_range; refine wpList_range_own _ rfl _ 79 rfl 9 9 law_str Tryd.underlying79 _ bm nm D rfl HOWN.out ?_; intro w0 hrg0 hg0 hs0)
          try go_frame
          rw [hs6] at hrg0
          clear d0 d1 d2 d3
          go_loopw [13] (fun _ wr => ∃ (left : Lit → Bool) (cnt : Nat), wr.ranges Tryd.prog 9 (plainElem Tryd.prog 9) bm (wj.heap.size + 1) nm D left cnt ∧ Below W6.heap.size W6 wr) (fun _ wr => wr.rangeLeft bm (wj.heap.size + 1))
          case atStart => exact ⟨_, _, hrg0, (Below.refl _ _).grown hg0 (Nat.le_refl _) (fun j hj => by cases hj)⟩
          case round =>
            obtain ⟨left, cnt, hrg, hnx⟩ := hrel
            have v0 := (hnx.cell (p := ⟨wj.heap.size, 0, none⟩) hr6).trans v0
            have v1 := (hnx.cell (p := ⟨wj.heap.size, 1, none⟩) hr6).trans v1
            have v3 := (hnx.cell (p := ⟨wj.heap.size, 3, none⟩) hr6).trans v3
            have u0 := (hnx.cell (p := ⟨wq.heap.size, 0, none⟩) hq6).trans u0
            have u1 := (hnx.cell (p := ⟨wq.heap.size, 1, none⟩) hq6).trans u1
            go_wp2_with (first
              | (at_next; refine wpList_next_ss _ rfl _ rfl bm (wj.heap.size + 1) nm _ _ _ rfl hrg ?_ ?_)
              | go_in)
            · intro hc0 hl0
              have HNX := Lib.hid hnx
              clear hrg hnx hc0 hl0 hrg0 hg0 hs0
              go_wp2
              go_roundw
              case rel => exact ⟨j + 1, by omega, by go_num, below_next HB56.out HNX.out⟩
              case measure => simp [intOf]; omega
            · intro kx vx w1' cnt1 hwx hwc hlx hat hrg1 hlt hg1 hs1 hen
              have hnx1 : Below W6.heap.size W6 w1' := hnx.grown hg1 (by have := hnx.size; omega) (fun j hj => by cases hj; omega)
              have hlo := (HMD6.out.upto hnx1).look_ok (s := kx) hwx
              have ha : (lookW a.ws kx).isSome = true := by rw [← (HMI.out kx hwx).1]; exact has_true_of_atKey hat
              have v0 := (cell_but hg1 0 (by omega) (by have := hnx.size; omega)).trans v0
              have v1 := (cell_but hg1 1 (by omega) (by have := hnx.size; omega)).trans v1
              have v3 := (cell_but hg1 3 (by omega) (by have := hnx.size; omega)).trans v3
              have u0 := (cell_but hg1 0 (by omega) (by have := hnx.size; omega)).trans u0
              have u1 := (cell_but hg1 1 (by omega) (by have := hnx.size; omega)).trans u1
              have HRG := Lib.hid hrg
              have HRG1 := Lib.hid hrg1
              have HNX1 := Lib.hid hnx1
              have HLT := Lib.hid hlt
              have HAX := Lib.hid (HAPD.out kx ha)
              clear hrg hrg1 hnx hnx1 hg1 hlx hat hlt ha hrg0 hg0 hs0 hs1 u3 u3r
              cases hth : (lookW d.ws kx).isSome with
              | false =>
                rw [hth] at hlo
                go_wp2
                exact ⟨⟨_, cnt1, HRG1.out, HNX1.out⟩, by rw [HRG1.out.left_eq, HRG.out.left_eq]; exact HLT.out⟩
              | true =>
                rw [hth] at hlo
                have hax := HAX.out hth
                by_cases hx : d.st < a.cm
                · have hx' : ¬ a.st < d.cm := by omega
                  have hxb : decide (d.st < a.cm) = true := by simpa using hx
                  have hxb' : decide (a.st < d.cm) = false := by simpa using hx'
                  go_wp2
                  exact ⟨⟨_, cnt1, HRG1.out, HNX1.out⟩, by rw [HRG1.out.left_eq, HRG.out.left_eq]; exact HLT.out⟩
                · have hxb : decide (d.st < a.cm) = false := by simpa using hx
                  go_wp2
                  exact ⟨⟨_, cnt1, HRG1.out, HNX1.out⟩, by rw [HRG1.out.left_eq, HRG.out.left_eq]; exact HLT.out⟩
        · have hje : j = k := by omega
          subst hje
          have HBJ := Lib.hid hb
          clear hb
          go_wp2
          go_roundw
          case rel => exact ⟨j + 1, by omega, by go_num, below_next HB5.out HBJ.out⟩
          case measure => simp [intOf]; omega
    · have hke : k = DS.length := by omega
      subst hke
      have HB := Lib.hid hb
      clear hb
      go_wp2
      go_ret
      exact ⟨rfl, below_next (below_next HB3.out HB4.out) HB.out⟩
end Go.Proofs.YtambkjnhfejfaabDoor
