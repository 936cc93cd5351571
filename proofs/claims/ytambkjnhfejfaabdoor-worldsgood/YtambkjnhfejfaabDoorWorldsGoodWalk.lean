/-
  The walk of rickyardkeep.WorldsGood: it returns true and turns no old memory. Conditions: the raw numbers lie in memory.
-/
import Derived.Test.YtambkjnhfejfaabDoorG36
import Derived.Test.YtambkjnhfejfaabDoorG34
import Derived.Test.YtambkjnhfejfaabDoorG30
namespace Go.Proofs.YtambkjnhfejfaabDoor
open Go.RowKit

/-- make([]Act, 401). -/
theorem make_acts : ∃ Z : Array Value, ∀ W : World, (Instr.makeSlice 49 (.int .i64 401) (.int .i64 401)).run Tryd.prog W = .ok (.slice (some ⟨W.heap.size, 0, none⟩) 401 401) (W.alloc (.cells Z 52)) := by
  obtain ⟨i0, hi0, hz0, hz1, hz2⟩ := info_parts act_info
  refine ⟨madeCells (Value.agg #[.int .i64 0, .int .i64 0, .string ⟨#[]⟩, .string ⟨#[]⟩]).cells (401 * 4), fun W => ?_⟩
  have h := run_make (P := Tryd.prog) W 49 52 i0 _ Tryd.underlying49 hi0 hz0 .i64 .i64 401 401 (by omega) (by omega) (by rw [hz2]; omega) (by omega)
  rw [hz1] at h
  exact h
set_option maxRecDepth 100000 in
set_option maxHeartbeats 4000000 in
theorem worldsGood_walk (w : World) (l : List RawM) (A : Option Addr) (q : Nat) (hr : RawsAt w (· < w.heap.size) A l) (kd : Int) (hkd : i64 kd) (cl : Int) (hcl : i64 cl) :
    Calls Tryd.prog 10 #[.slice A l.length q, .int .i64 kd, .int .i64 cl] w fun e w' => e = .returned (.bool true) ∧ Below w.heap.size w w' := by
  obtain ⟨b0, b1⟩ := pick_bd cl (show (0 : Int) < 5 by decide)
  obtain ⟨b2, b3⟩ := pick_bd kd (show (0 : Int) < 9 by decide)
  have HP := Lib.hid (fun W => picked_any cl 5 W hcl (by decide) (by decide))
  have HQ := Lib.hid (fun W => picked_any kd 9 W hkd (by decide) (by decide))
  obtain ⟨p, hp⟩ : ∃ p, p = pickM cl 5 := ⟨_, rfl⟩
  obtain ⟨t, ht⟩ : ∃ t, t = pickM kd 9 := ⟨_, rfl⟩
  rw [← hp] at b0 b1 HP
  rw [← ht] at b2 b3 HQ
  obtain ⟨N, hN⟩ : ∃ N : Nat, (1 + p : Int) = N := ⟨(1 + p).toNat, by omega⟩
  have hN5 : N ≤ 5 := by omega
  have hN1 : 1 ≤ N := by omega
  have HAC := Lib.hid (show ∀ W, Below w.heap.size w W → Calls Tryd.prog 32 #[.slice A l.length q, .int .i64 90, .int .i64 N] W (ActsOut (actsM N l (min l.length 90)) W) from fun W hb => acts_any A q l 90 (by decide) N (by omega) hN5 W (SeqAt.raws hr (below_mem hb).1 (below_mem hb).2))
  obtain ⟨ac, hac⟩ : ∃ ac, ac = actsM N l (min l.length 90) := ⟨_, rfl⟩
  have hal : ac.length ≤ 90 := by rw [hac, actsM_len]; omega
  have hao : ∀ a ∈ ac, ActOk a := by rw [hac]; exact actsM_ok (by omega)
  rw [← hac] at HAC
  have HAO := Lib.hid hao
  have HG := Lib.hid (worlds_good hN5 ac (7 + t) (by omega))
  clear hr hac hao hp ht
  go_enter Tryd.func10, Tryd.ntmps10
  go_wp2_with fail
  refine (HP.out _).mono ?_
  rintro e w0 ⟨rfl, rfl⟩
  go_wp2_with fail
  refine (HAC.out _ (Below.refl _ _)).mono ?_
  rintro e w1 ⟨A1, c1, rfl, hown1, hb1⟩
  have hact1 : ActsAt w1 (· < w1.heap.size) A1 ac := SeqAt.acts (OwnsActs.acts hown1 (by omega) HAO.out).2.2 (fun b hb => hb.2) (fun _ _ _ => rfl)
  have HA1 := Lib.hid hact1
  have HRUN := Lib.hid (run_any N A1 ac c1 w1 hact1)
  have HB1 := Lib.hid hb1
  clear hown1 hb1 hact1
  go_wp2_with fail
  refine HRUN.out.mono ?_
  rintro e w2 ⟨hb2, hor⟩
  have hin : inB (N : Int) 1 5 = true := inB_true.2 ⟨by omega, by omega⟩
  rcases hor with ⟨h, _⟩ | ⟨_, h, _⟩ | ⟨_, _, g, RA, n, rc, CA, m, cc, rfl, hwo, hans, hg⟩
  · rw [hin] at h; cases h
  · omega
  obtain ⟨WO, hWO⟩ : ∃ WO, WO = runWo (startW N) ac := ⟨_, rfl⟩
  rw [show (N : Int).toNat = N from Int.toNat_natCast N] at hwo hans ⊢
  rw [← hWO] at hwo HG ⊢
  obtain ⟨W3, hW3, k0, k1, k2, hb3, hs3⟩ := box3_new w2 (.slice RA n rc) (.int .i64 WO.clock) (.slice CA m cc) 67
  have HWI := Lib.hid (hwo.upto hb3)
  have HANS := Lib.hid (hans.kept (hb3.block _ hans.lt))
  have HB3 := Lib.hid (below_next (below_next HB1.out hb2) hb3)
  have HW3 := Lib.hid hW3
  have HA3 := Lib.hid (SeqAt.acts (SeqAt.acts HA1.out (P' := (· < w2.heap.size)) (below_mem hb2).1 (below_mem hb2).2) (P' := (· < W3.heap.size)) (below_mem hb3).1 (below_mem hb3).2)
  have hbx : w2.heap.size < W3.heap.size := by omega
  clear hwo hans hb2 hW3 hb3 hWO hg HRUN HA1
  go_wp2_with fail
  rw [← HW3.out]
  refine (clone_any A1 c1 ac W3 HA3.out (by omega)).mono ?_
  rintro e w4 ⟨A4, c4, rfl, hown4, hb4⟩
  have HO4 := Lib.hid hown4
  have HB4 := Lib.hid hb4
  have s7 : IntKind.i64.wrap (7 + t) = 7 + t := IntWalk.i64_in _ (by omega)
  clear hown4 hb4
  go_wp2_with fail
  refine (HQ.out _).mono ?_
  rintro e w5 ⟨rfl, rfl⟩
  have HAP := Lib.hid (show ∀ ty : TypeId, ∃ v' w', (Builtin.append_ #[49, 49] ty #[.slice A4 ac.length c4, .slice (some ⟨w5.heap.size, 0, none⟩) 2 2]).run Tryd.prog (w5.alloc (.cells #[.int .i64 (7 + t), .int .i64 0, .string ⟨#[]⟩, .string ⟨#[]⟩, .int .i64 2, .int .i64 N, .string ⟨#[]⟩, .string ⟨#[]⟩] 52)) = .ok v' w' ∧ ∃ A' c', v' = .slice A' (ac.length + 2) c' ∧ OwnsActs w' W3.heap.size (.slice A' (ac.length + 2) c') (ac ++ [⟨7 + t, 0, emptyS, emptyS⟩, ⟨2, N, emptyS, emptyS⟩]) ∧ Below W3.heap.size W3 w' from fun ty => by
    have hb5 : Below w5.heap.size w5 (w5.alloc (.cells #[.int .i64 (7 + t), .int .i64 0, .string ⟨#[]⟩, .string ⟨#[]⟩, .int .i64 2, .int .i64 N, .string ⟨#[]⟩, .string ⟨#[]⟩] 52)) := below_alloc (Below.refl _ _) _
    have h := app_part (ty := ty) _ W3 W3.heap.size c4 A4 ac ⟨some ⟨w5.heap.size, 0, none⟩, 2, [⟨7 + t, 0, emptyS, emptyS⟩, ⟨2, N, emptyS, emptyS⟩]⟩ (Cells.Owns.kept HO4.out hb5) (acts_block (heap_alloc_new w5 _) rfl (by simp) (fun a ha => by simp at ha; rcases ha with rfl | rfl <;> exact ⟨Nat.zero_le _, Nat.zero_le _⟩) (Below.refl _ _)) (by simp; omega) (Nat.le_trans HB4.out.size hb5.size) (below_next HB4.out hb5)
    simpa using h)
  go_wp2_with (at_builtin; refine (wpList_append_run _ rfl (.tmp 37) (.tmp 44) 49 rfl (.slice A4 ac.length c4) (.slice (some ⟨w5.heap.size, 0, none⟩) 2 2) rfl rfl (HAP.out _) ?_); rintro v6 w6 ⟨A6, c6, rfl, hown6, hb6⟩; have HO6 := Lib.hid hown6; have HB6 := Lib.hid hb6; clear hown6 hb6)
  obtain ⟨l2, hl2⟩ : ∃ l2, l2 = ac ++ [(⟨7 + t, 0, emptyS, emptyS⟩ : ActM), ⟨2, N, emptyS, emptyS⟩] := ⟨_, rfl⟩
  have hlen2 : l2.length = ac.length + 2 := by rw [hl2]; simp
  have hok2 : ∀ a ∈ l2, ActOk a := by
    intro a ha
    rw [hl2] at ha
    rcases List.mem_append.1 ha with ha | ha
    · exact HAO.out a ha
    · simp at ha
      rcases ha with rfl | rfl <;> exact ⟨Nat.zero_le _, Nat.zero_le _⟩
  rw [← hl2] at HG
  have HR2 := Lib.hid (show Calls Tryd.prog 33 #[.int .i64 N, .slice A6 (ac.length + 2) c6] w6 (RunOut N l2 w6) by
    have ho := HO6.out
    rw [← hl2, ← hlen2] at ho
    rw [← hlen2]
    exact run_any N A6 l2 c6 w6 (SeqAt.acts (OwnsActs.acts ho (by omega) hok2).2.2 (fun b hb => hb.2) (fun _ _ _ => rfl)))
  clear hl2 hok2
  refine HR2.out.mono ?_
  rintro e w7 ⟨hb7, hor⟩
  rcases hor with ⟨h, _⟩ | ⟨_, h, _⟩ | ⟨_, _, g7, RA7, n7, rc7, CA7, m7, cc7, rfl, hwo7, hans7, hg7⟩
  · rw [hin] at h; cases h
  · omega
  rw [show (N : Int).toNat = N from Int.toNat_natCast N, HG.out.2.1] at hwo7
  rw [show (N : Int).toNat = N from Int.toNat_natCast N, HG.out.2.2] at hans7
  rw [show (N : Int).toNat = N from Int.toNat_natCast N, HG.out.2.1, hlen2]
  have hb37 := below_next HB6.out hb7
  obtain ⟨k0', k1', k2'⟩ : w7.cell? ⟨w2.heap.size, 0, none⟩ = some (.slice RA n rc) ∧ w7.cell? ⟨w2.heap.size, 1, none⟩ = some (.int .i64 WO.clock) ∧ w7.cell? ⟨w2.heap.size, 2, none⟩ = some (.slice CA m cc) := ⟨(hb37.cell (p := ⟨w2.heap.size, 0, none⟩) hbx).trans k0, (hb37.cell (p := ⟨w2.heap.size, 1, none⟩) hbx).trans k1, (hb37.cell (p := ⟨w2.heap.size, 2, none⟩) hbx).trans k2⟩
  obtain ⟨W8, hW8, v0, v1, v2, hb8, hs8⟩ := box3_new w7 (.slice RA7 n7 rc7) (.int .i64 WO.clock) (.slice CA7 m7 cc7) 67
  have hb38 := below_next hb37 hb8
  have HWI8 := Lib.hid (HWI.out.upto hb38)
  have HWV8 := Lib.hid (hwo7.upto hb8)
  have HANS8 := Lib.hid (hans7.kept (hb8.block _ hans7.lt))
  have HB8 := Lib.hid (below_next HB3.out hb38)
  have HW8 := Lib.hid hW8
  have hb78 := hb8
  have q0 := (hb38.cell (p := ⟨w2.heap.size, 0, none⟩) hbx).trans k0
  have q1 := (hb38.cell (p := ⟨w2.heap.size, 1, none⟩) hbx).trans k1
  have q2 := (hb38.cell (p := ⟨w2.heap.size, 2, none⟩) hbx).trans k2
  clear k0 k1 k2 k0' k1' k2' hb37 hwo7 hans7 hb7 hg7 hW8 hb8 hb38 HR2 HAP HO6 HO4 HANS
  go_wp2_with fail
  rw [← HW8.out]
  have HR9 := Lib.hid (show Calls Tryd.prog 33 #[.int .i64 0, .slice none 0 0] W8 (RunOut 0 [] W8) from run_range 0 none [] 0 W8 (by decide))
  refine HR9.out.mono ?_
  rintro e w9 ⟨hb9, hor⟩
  rcases hor with ⟨_, rfl⟩ | ⟨h, _, _⟩ | ⟨h, _⟩
  rotate_left 1
  · exact absurd h (by decide)
  · exact absurd h (by decide)
  obtain ⟨W10, hW10, _, _, _, hb10, hs10⟩ := box3_new w9 (.slice none 0 0) (.int .i64 0) (.slice none 0 0) 67
  have hb810 := hb9.trans (hb10.mono hb9.size)
  have HB810 := Lib.hid hb810
  have HW10 := Lib.hid hW10
  obtain ⟨Z, hmk⟩ := make_acts
  clear hb9 hW10 hb10 hb810 HR9
  go_wp2_with fail
  rw [show w9.alloc (.cells #[.slice none 0 0, .int .i64 0, .slice none 0 0] 67) = W10 from HW10.out.symm]
  have hbZ : Below W8.heap.size W8 (W10.alloc (.cells Z 52)) := below_alloc HB810.out _
  obtain ⟨W11, hW11⟩ : ∃ W11, W11 = W10.alloc (.cells Z 52) := ⟨_, rfl⟩
  rw [← hW11] at hbZ ⊢
  have HB11 := Lib.hid hbZ
  have HR11 := Lib.hid (show Calls Tryd.prog 33 #[.int .i64 N, .slice (some ⟨w9.heap.size + 1, 0, none⟩) 401 401] W11 (RunOut N (List.replicate 401 default) W11) by
    have h := run_size (N : Int) (some ⟨w9.heap.size + 1, 0, none⟩) (List.replicate 401 default) 401 W11 hin (by simp)
    rw [List.length_replicate] at h
    exact h)
  clear hbZ hW11
  refine HR11.out.mono ?_
  rintro e w12 ⟨hb12, hor⟩
  rcases hor with ⟨h, _⟩ | ⟨_, _, rfl⟩ | ⟨_, h, _⟩
  · rw [hin] at h; cases h
  rotate_left 1
  · rw [List.length_replicate] at h; omega
  obtain ⟨W13, hW13, _, _, _, hb13, hs13⟩ := box3_new w12 (.slice none 0 0) (.int .i64 0) (.slice none 0 0) 67
  have HB12 := Lib.hid (below_next HB11.out hb12)
  have hb8x := (below_next HB11.out hb12).trans (hb13.mono (below_next HB11.out hb12).size)
  have HB13 := Lib.hid hb8x
  have HW13 := Lib.hid hW13
  clear hb12 hW13 hb13 hb8x HR11 hmk
  have hlt2 : w2.heap.size < W8.heap.size := World.block_lt_of_cell? W8 _ q0
  have hlt7 : w7.heap.size < W8.heap.size := World.block_lt_of_cell? W8 _ v0
  obtain ⟨x0, x1, x2⟩ : W13.cell? ⟨w2.heap.size, 0, none⟩ = some (.slice RA n rc) ∧ W13.cell? ⟨w2.heap.size, 1, none⟩ = some (.int .i64 WO.clock) ∧ W13.cell? ⟨w2.heap.size, 2, none⟩ = some (.slice CA m cc) := ⟨(HB13.out.cell (p := ⟨w2.heap.size, 0, none⟩) hlt2).trans q0, (HB13.out.cell (p := ⟨w2.heap.size, 1, none⟩) hlt2).trans q1, (HB13.out.cell (p := ⟨w2.heap.size, 2, none⟩) hlt2).trans q2⟩
  obtain ⟨y0, y1, y2⟩ : W13.cell? ⟨w7.heap.size, 0, none⟩ = some (.slice RA7 n7 rc7) ∧ W13.cell? ⟨w7.heap.size, 1, none⟩ = some (.int .i64 WO.clock) ∧ W13.cell? ⟨w7.heap.size, 2, none⟩ = some (.slice CA7 m7 cc7) := ⟨(HB13.out.cell (p := ⟨w7.heap.size, 0, none⟩) hlt7).trans v0, (HB13.out.cell (p := ⟨w7.heap.size, 1, none⟩) hlt7).trans v1, (HB13.out.cell (p := ⟨w7.heap.size, 2, none⟩) hlt7).trans v2⟩
  obtain ⟨z0, z1, z2⟩ : w12.cell? ⟨w2.heap.size, 0, none⟩ = some (.slice RA n rc) ∧ w12.cell? ⟨w2.heap.size, 1, none⟩ = some (.int .i64 WO.clock) ∧ w12.cell? ⟨w2.heap.size, 2, none⟩ = some (.slice CA m cc) := ⟨(HB12.out.cell (p := ⟨w2.heap.size, 0, none⟩) hlt2).trans q0, (HB12.out.cell (p := ⟨w2.heap.size, 1, none⟩) hlt2).trans q1, (HB12.out.cell (p := ⟨w2.heap.size, 2, none⟩) hlt2).trans q2⟩
  have hlt12 : w2.heap.size < w12.heap.size := World.block_lt_of_cell? w12 _ z0
  have HWI13 := Lib.hid (HWI8.out.upto HB13.out)
  have HWV13 := Lib.hid (HWV8.out.upto HB13.out)
  have HCK := Lib.hid (checkWo_any WO RA n rc CA m cc W13 HWI13.out.in_)
  rw [show checkE WO = 0 by unfold checkE; rw [HG.out.1]; rfl] at HCK
  have HQC := Lib.hid (And.intro q0 (And.intro q1 q2))
  have HVC := Lib.hid (And.intro v0 (And.intro v1 v2))
  clear q0 q1 q2 v0 v1 v2 x0 x1 x2 y0 y1 y2
  go_wp2_with fail
  rw [show w12.alloc (.cells #[.slice none 0 0, .int .i64 0, .slice none 0 0] 67) = W13 from HW13.out.symm]
  refine HCK.out.mono ?_
  rintro e w14 ⟨rfl, hb14⟩
  have HB14 := Lib.hid (HB13.out.trans (hb14.mono HB13.out.size))
  have HWI14 := Lib.hid (HWI13.out.upto hb14)
  have HWV14 := Lib.hid (HWV13.out.upto hb14)
  have p0 := (HB14.out.cell (p := ⟨w2.heap.size, 0, none⟩) hlt2).trans HQC.out.1
  have p1 := (HB14.out.cell (p := ⟨w2.heap.size, 1, none⟩) hlt2).trans HQC.out.2.1
  have p2 := (HB14.out.cell (p := ⟨w2.heap.size, 2, none⟩) hlt2).trans HQC.out.2.2
  have HCP := Lib.hid (copyWo_any WO RA n rc CA m cc w14 HWI14.out.in_)
  clear hb14 z0 z1 z2 HCK
  go_wp2_with fail
  refine HCP.out.mono ?_
  rintro e w15 ⟨bR, bC, wb, rfl, hco, hb15, _⟩
  have HB15 := Lib.hid (HB14.out.trans (hb15.mono HB14.out.size))
  have HWI15 := Lib.hid (HWI14.out.upto hb15)
  have HWV15 := Lib.hid (HWV14.out.upto hb15)
  have HCK2 := Lib.hid (checkWo_any WO (some ⟨bR, 0, none⟩) WO.rows.length WO.rows.length (some ⟨bC, 0, none⟩) WO.cls.length WO.cls.length w15 (hco.in_ (Nat.le_refl _) (Nat.le_refl _)))
  rw [show checkE WO = 0 by unfold checkE; rw [HG.out.1]; rfl] at HCK2
  clear hb15 hco p0 p1 p2 HCP
  go_wp2_with fail
  refine HCK2.out.mono ?_
  rintro e w16 ⟨rfl, hb16⟩
  have HB16 := Lib.hid (HB15.out.trans (hb16.mono HB15.out.size))
  have HWI16 := Lib.hid (HWI15.out.upto hb16)
  have HWV16 := Lib.hid (HWV15.out.upto hb16)
  have p0 := (HB16.out.cell (p := ⟨w2.heap.size, 0, none⟩) hlt2).trans HQC.out.1
  have p1 := (HB16.out.cell (p := ⟨w2.heap.size, 1, none⟩) hlt2).trans HQC.out.2.1
  have v0 := (HB16.out.cell (p := ⟨w7.heap.size, 0, none⟩) hlt7).trans HVC.out.1
  have v1 := (HB16.out.cell (p := ⟨w7.heap.size, 1, none⟩) hlt7).trans HVC.out.2.1
  have HANS16 := Lib.hid (HANS8.out.kept (HB16.out.block _ HANS8.out.lt))
  have hlx : (runAns (startW N) ac).length = ac.length := runAns_length ac _
  have y3 : w16.cell? ⟨g7, ac.length * 5, none⟩ = some (.int .i64 3) := (HANS16.out.ans ac.length (ansCode 3) (by rw [List.getElem?_append_right (by omega), hlx]; simp)).c
  have y2 : w16.cell? ⟨g7, (ac.length + 1) * 5, none⟩ = some (.int .i64 2) := (HANS16.out.ans (ac.length + 1) (ansCode 2) (by rw [List.getElem?_append_right (by omega), hlx]; simp)).c
  have j0 : (0 : Int) ≤ (ac.length : Int) := by omega
  have j1 : (ac.length : Int) < (ac.length : Int) + 2 := by omega
  have e1 : ((ac.length : Int) == (ac.length : Int)) = true := by simp
  have e2 : (WO.clock == WO.clock) = true := by simp
  have hnn : n = WO.rows.length := HWI16.out.hn
  have hn7 : n7 = WO.rows.length := HWV16.out.hn
  have HEQ := Lib.hid (show Calls Tryd.prog 37 #[.slice RA n rc, .slice RA7 n7 rc7, .func (.func 26) #[] #[]] w16 fun e w' => e = .returned (.bool true) ∧ Below w16.heap.size w16 w' by rw [hnn, hn7]; exact equalRows_any WO.rows RA RA7 rc rc7 w16 HWI16.out.in_.rows HWV16.out.in_.rows)
  clear hb16 hnn hn7 HCK2 hlx
  go_wp2_with fail
  refine HEQ.out.mono ?_
  rintro e w17 ⟨rfl, hb17⟩
  have HB17 := Lib.hid (HB16.out.trans (hb17.mono HB16.out.size))
  have z0 := (HB17.out.cell (p := ⟨w2.heap.size, 1, none⟩) hlt2).trans HQC.out.2.1
  have z1 := (HB17.out.cell (p := ⟨w7.heap.size, 1, none⟩) hlt7).trans HVC.out.2.1
  clear hb17 p0 p1 v0 v1 y2 y3
  go_wp2
  go_ret
  exact ⟨rfl, below_next HB8.out HB17.out⟩
end Go.Proofs.YtambkjnhfejfaabDoor
