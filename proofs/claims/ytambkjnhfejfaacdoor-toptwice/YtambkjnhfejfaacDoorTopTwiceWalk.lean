/-
  The walk of rickyardtop.TopTwice: it returns true and turns no old memory. Conditions: the raw numbers lie in memory.
-/
import Derived.Test.YtambkjnhfejfaacDoorG29
import Derived.BigQuiet
namespace Go.Proofs.YtambkjnhfejfaacDoor
open Go.RowKit

theorem runAns_prefix : ∀ (l : List ActM) (wo : WoM) (k : Nat), runAns wo (l.take k) = (runAns wo l).take k
  | [], _, k => by simp [runAns]
  | a :: l, wo, 0 => by simp [runAns]
  | a :: l, wo, k + 1 => by simp only [List.take_succ_cons, runAns, runAns_prefix l _ k]
/-- Answers in memory. -/
def AnsIn (w : World) (g : Nat) (xs : List AnsM) : Prop := ∀ i x, xs[i]? = some x → AnsAt w g (i * 5) x
set_option maxRecDepth 100000 in
set_option maxHeartbeats 4000000 in
theorem equalAns_any (xs : List AnsM) (g g' c c' : Nat) (w : World) (hl : xs.length ≤ 400) (h : AnsIn w g xs) (h' : AnsIn w g' xs) :
    Calls Tryd.prog 8 #[.slice (some ⟨g, 0, none⟩) xs.length c, .slice (some ⟨g', 0, none⟩) xs.length c'] w fun e w' => e = .returned (.bool true) ∧ Below w.heap.size w w' := by
  have H := Lib.hid h
  have H' := Lib.hid h'
  have t0 : ((xs.length : Int) != (xs.length : Int)) = false := by simp
  clear h h'
  go_enter Tryd.func8, Tryd.ntmps8
  go_wp2
  go_loopw [13] (fun i wr => ∃ (k : Nat), k ≤ xs.length ∧ i = .int .i64 k ∧ Below w.heap.size w wr) (fun i _ => xs.length - (intOf i).toNat)
  case atStart => exact ⟨0, Nat.zero_le _, rfl, Below.refl _ _⟩
  case round =>
    obtain ⟨k, hk, rfl, hb⟩ := hrel
    have HB := Lib.hid hb
    by_cases hm : k < xs.length
    · have hget : xs[k]? = some (xs.getD k default) := getD_some hm
      obtain ⟨x, hxd⟩ : ∃ x, x = xs.getD k default := ⟨_, rfl⟩
      rw [← hxd] at hget
      have a0 := H.out k x hget
      have b0 := H'.out k x hget
      have hg1 : g < w.heap.size := World.block_lt_of_cell? w _ a0.c
      have hg2 : g' < w.heap.size := World.block_lt_of_cell? w _ b0.c
      have a := a0.keep (w' := wr) fun o _ _ => hb.cell (p := ⟨g, o, none⟩) hg1
      have b := b0.keep (w' := wr) fun o _ _ => hb.cell (p := ⟨g', o, none⟩) hg2
      have y0 := a.c
      have y1 := a.i
      have y2 := a.v
      have y3 := a.p
      have y4 := a.t
      have z0 := b.c
      have z1 := b.i
      have z2 := b.v
      have z3 := b.p
      have z4 := b.t
      have j0 : (0 : Int) ≤ (k : Int) := by omega
      have j1 : (k : Int) < (xs.length : Int) := by omega
      obtain ⟨xc, xi, xv, xp, xt⟩ := x
      dsimp only at y0 y1 y2 y3 y4 z0 z1 z2 z3 z4
      clear hget hxd a b a0 b0 hb
      go_wp2
      go_quiet (fail)
      go_wp2
      go_roundw
      case rel => exact ⟨k + 1, by omega, by go_num, below_drewN HB.out _⟩
      case measure => simp [intOf]; omega
    · have hke : k = xs.length := by omega
      subst hke
      clear hb
      go_wp2
      go_ret
      exact ⟨rfl, HB.out⟩
theorem pickedX_any (n many : Int) (w : World) (hn : i64 n) (hm : 0 < many) (hm' : many < 9223372036854775807) :
    Calls Tryd.prog 7 #[.int .i64 n, .int .i64 many] w fun e w' => e = .returned (.int .i64 (pickM n many)) ∧ w' = w := by
  have HP := Lib.hid (picked_any n many w hn hm hm')
  go_enter Tryd.func7, Tryd.ntmps7
  go_wp2_with fail
  refine HP.out.mono ?_
  rintro e w1 ⟨rfl, rfl⟩
  go_wp2
  go_ret
  exact ⟨rfl, rfl⟩
theorem AnsDone.in_ {w w' : World} {g n : Nat} {xs : List AnsM} (h : AnsDone g n xs w) (hb : Below w.heap.size w w') : AnsIn w' g xs := (h.kept (hb.block _ h.lt)).ans
set_option maxRecDepth 100000 in
set_option maxHeartbeats 4000000 in
theorem topTwice_walk (w : World) (l : List RawM) (A : Option Addr) (q : Nat) (hr : RawsAt w (· < w.heap.size) A l) (n : Int) (hn : i64 n) :
    Calls Tryd.prog 4 #[.slice A l.length q, .int .i64 n] w fun e w' => e = .returned (.bool true) ∧ Below w.heap.size w w' := by
  have HAC := Lib.hid (show Calls Tryd.prog 6 #[.slice A l.length q, .int .i64 90, .int .i64 4] w (ActsOut (actsM 4 l (min l.length 90)) w) from acts_any A q l 90 (by decide) 4 (by decide) (by decide) w hr)
  obtain ⟨ac, hac⟩ : ∃ ac, ac = actsM 4 l (min l.length 90) := ⟨_, rfl⟩
  have hal : ac.length ≤ 90 := by rw [hac, actsM_len]; omega
  have hao : ∀ a ∈ ac, ActOk a := by rw [hac]; exact actsM_ok (by omega)
  rw [← hac] at HAC
  have HAO := Lib.hid hao
  obtain ⟨p0, p1⟩ := pick_bd n (show (0 : Int) < (ac.length : Int) + 1 by omega)
  have HPK := Lib.hid (fun W => pickedX_any n ((ac.length : Int) + 1) W hn (by omega) (by omega))
  obtain ⟨k, hk⟩ : ∃ k : Nat, pickM n ((ac.length : Int) + 1) = k := ⟨(pickM n ((ac.length : Int) + 1)).toNat, by omega⟩
  rw [hk] at HPK p0 p1
  have hkl : k ≤ ac.length := by omega
  clear hr hac hao hk
  go_enter Tryd.func4, Tryd.ntmps4
  go_wp2_with fail
  refine HAC.out.mono ?_
  rintro e w1 ⟨A1, c1, rfl, hown1, hb1⟩
  obtain ⟨_, hc1, hat⟩ := OwnsActs.acts hown1 (by omega) HAO.out
  have HAT := Lib.hid (SeqAt.acts hat (P' := (· < w1.heap.size)) (fun b hb => hb.2) (fun _ _ _ => rfl))
  have HRUN := Lib.hid (topRun_any A1 c1 ac w1 HAT.out (by omega))
  have HB1 := Lib.hid hb1
  clear hown1 hb1 hat
  go_wp2_with fail
  refine (HPK.out _).mono ?_
  rintro e w' ⟨rfl, hw⟩
  rw [hw]
  clear hw w'
  go_wp2_with fail
  refine HRUN.out.mono ?_
  rintro e w2 ⟨g1, RA, n', rc, CA, m, cc, rfl, _, hans1, _, hb2⟩
  obtain ⟨W3, hW3, _, _, _, hb3, hs3⟩ := box3_new w2 (.slice RA n' rc) (.int .i64 (runWo (startW 4) ac).clock) (.slice CA m cc) 27
  have hb23 : Below w1.heap.size w1 W3 := below_next hb2 hb3
  have HA3 := Lib.hid (HAT.out.acts (below_mem hb23).1 (below_mem hb23).2)
  have HTK := Lib.hid (show ActsAt W3 (· < W3.heap.size) A1 (ac.take k) from ⟨Nat.le_trans (List.length_take_le' _ _) HA3.out.1, fun h0 => by
    obtain ⟨b, o, hA, hb, hc⟩ := HA3.out.2 (by rw [List.length_take] at h0; omega)
    refine ⟨b, o, hA, hb, fun i x hx => hc i x ?_⟩
    rw [List.getElem?_take] at hx
    split at hx
    · exact hx
    · cases hx⟩)
  have htl : (ac.take k).length = k := by rw [List.length_take]; omega
  have hrun2 := topRun_any A1 c1 (ac.take k) W3 HTK.out (by omega)
  rw [htl] at hrun2
  have HRUN2 := Lib.hid hrun2
  have HANS1 := Lib.hid (hans1.kept (hb3.block _ hans1.lt))
  have HB3 := Lib.hid (below_next HB1.out hb23)
  have HW3 := Lib.hid hW3
  clear hans1 hb2 hW3 hb3 hb23 hrun2
  go_wp2_with fail
  rw [← HW3.out]
  refine HRUN2.out.mono ?_
  rintro e w4 ⟨g2, RA2, n2, rc2, CA2, m2, cc2, rfl, _, hans2, _, hb4⟩
  obtain ⟨W5, hW5, _, _, _, hb5, hs5⟩ := box3_new w4 (.slice RA2 n2 rc2) (.int .i64 (runWo (startW 4) (ac.take k)).clock) (.slice CA2 m2 cc2) 27
  have hb45 : Below W3.heap.size W3 W5 := below_next hb4 hb5
  have HRUN3 := Lib.hid (topRun_any A1 c1 ac W5 (HA3.out.acts (below_mem hb45).1 (below_mem hb45).2) (by omega))
  have HANS1b := Lib.hid (HANS1.out.kept (hb45.block _ HANS1.out.lt))
  have HANS2 := Lib.hid (hans2.kept (hb5.block _ hans2.lt))
  have HB5 := Lib.hid (below_next HB3.out hb45)
  have HW5 := Lib.hid hW5
  clear hans2 hb4 hW5 hb5 hb45
  rw [htl]
  go_wp2_with fail
  rw [← HW5.out]
  refine HRUN3.out.mono ?_
  rintro e w6 ⟨g3, RA3, n3, rc3, CA3, m3, cc3, rfl, _, hans3, _, hb6⟩
  obtain ⟨W7, hW7, _, _, _, hb7, hs7⟩ := box3_new w6 (.slice RA3 n3 rc3) (.int .i64 (runWo (startW 4) ac).clock) (.slice CA3 m3 cc3) 27
  have hb67 : Below W5.heap.size W5 W7 := below_next hb6 hb7
  have i1 : AnsIn W7 g1 (runAns (startW 4) ac) := HANS1b.out.in_ hb67
  have i2 : AnsIn W7 g2 (runAns (startW 4) (ac.take k)) := HANS2.out.in_ hb67
  have i3 : AnsIn W7 g3 (runAns (startW 4) ac) := hans3.in_ hb7
  have i1k : AnsIn W7 g1 (runAns (startW 4) (ac.take k)) := by
    rw [runAns_prefix]
    intro i x hx
    rw [List.getElem?_take] at hx
    split at hx
    · exact i1 i x hx
    · cases hx
  have l1 : (runAns (startW 4) (ac.take k)).length = k := by rw [runAns_length, htl]
  have l2 : (runAns (startW 4) ac).length = ac.length := runAns_length _ _
  have e1 := equalAns_any (runAns (startW 4) (ac.take k)) g1 g2 ac.length k W7 (by omega) i1k i2
  rw [l1] at e1
  have HE1 := Lib.hid e1
  have HI1 := Lib.hid i1
  have HI3 := Lib.hid i3
  have HB7 := Lib.hid (below_next HB5.out hb67)
  have HW7 := Lib.hid hW7
  clear hans3 hb6 hW7 hb7 hb67 i1 i2 i3 i1k e1
  go_wp2_with fail
  rw [← HW7.out]
  refine HE1.out.mono ?_
  rintro e w8 ⟨rfl, hb8⟩
  have e2 := equalAns_any (runAns (startW 4) ac) g1 g3 ac.length ac.length w8 (by omega) (fun i x hx => (HI1.out i x hx).keep fun o _ _ => hb8.cell (p := ⟨g1, o, none⟩) (World.block_lt_of_cell? W7 ⟨g1, i * 5, none⟩ (HI1.out i x hx).c)) (fun i x hx => (HI3.out i x hx).keep fun o _ _ => hb8.cell (p := ⟨g3, o, none⟩) (World.block_lt_of_cell? W7 ⟨g3, i * 5, none⟩ (HI3.out i x hx).c))
  rw [l2] at e2
  have HE2 := Lib.hid e2
  have HB8 := Lib.hid (below_next HB7.out hb8)
  clear hb8 e2
  go_wp2_with fail
  refine HE2.out.mono ?_
  rintro e w9 ⟨rfl, hb9⟩
  go_wp2
  go_ret
  exact ⟨rfl, below_next HB8.out hb9⟩
end Go.Proofs.YtambkjnhfejfaacDoor
