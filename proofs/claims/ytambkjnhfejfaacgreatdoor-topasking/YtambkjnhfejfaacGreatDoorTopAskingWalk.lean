/-
  The walk of rickyardtop.TopAsking: it returns true and turns no old memory. Conditions: the raw numbers lie in memory.
-/
import Derived.Test.YtambkjnhfejfaacGreatDoorG36
import Derived.Test.YtambkjnhfejfaacGreatDoorG31
import Derived.BigQuiet
import Derived.Deep.QuietTactic
import Derived.Deep.RegionHeld3
namespace Go.Proofs.YtambkjnhfejfaacGreatDoor
open Go.RowKit Go.Maps

theorem keys4_ok {k : ByteArray} (h : k ∈ keys4) : keyB k = true ∧ k.size ≤ 6 := by
  simp only [keys4, List.mem_cons, List.not_mem_nil, or_false] at h
  rcases h with rfl | rfl | rfl | rfl <;> exact ⟨by decide +kernel, by decide⟩
/-- Acts in a block of their own. -/
theorem acts_blk {w W : World} {g : Nat} {l : List ActM} {cur : Array Value} (hh : w.heap[g]? = some (.cells cur 35 (0, 0))) (hc : cur.toList = actCells.all l) (hl : l.length ≤ 1000) (hok : ∀ a ∈ l, ActOk a) (hb : Below w.heap.size w W) : ActsAt W (· < W.heap.size) (some ⟨g, 0, none⟩) l := by
  have ho : OwnsActs w 0 (.slice (some ⟨g, 0, none⟩) l.length l.length) l := Cells.Owns.block (C := actCells) (Nat.zero_le _) hh hc (by omega)
  exact SeqAt.acts (OwnsActs.acts ho (by omega) hok).2.2 (fun b hb' => Nat.lt_of_lt_of_le hb'.2 hb.size) (fun b j hb' => hb.cell (p := ⟨b, j, none⟩) hb'.2)
theorem ask_any {DS : List DealM} {key : ByteArray} {z : RecM} (h : ∃ d ∈ DS, d.st = z.s ∧ d.cm = z.c ∧ lookW d.ws key = some z.v) : DS.any (askP key z) = true := by
  obtain ⟨d, hd, h1, h2, h3⟩ := h
  exact List.any_eq_true.2 ⟨d, hd, by simp [askP, h1, h2, h3]⟩
set_option maxRecDepth 100000 in
set_option maxHeartbeats 4000000 in
theorem topAsking_walk (w : World) (l : List RawM) (A : Option Addr) (q : Nat) (hr : RawsAt w (· < w.heap.size) A l) (n : Int) (hn : i64 n) :
    Calls Tryz.prog 3 #[.slice A l.length q, .int .i64 n] w fun e w' => e = .returned (.bool true) ∧ Below w.heap.size w w' := by
  have HAC := Lib.hid (show Calls Tryz.prog 4 #[.slice A l.length q, .int .i64 80, .int .i64 4] w (ActsOut (actsM 4 l (min l.length 80)) w) from acts_any A q l 80 (by decide) 4 (by decide) (by decide) w hr)
  have hfit := actsM_fit l (min l.length 80)
  obtain ⟨ac, hac⟩ : ∃ ac, ac = actsM 4 l (min l.length 80) := ⟨_, rfl⟩
  have hal : ac.length ≤ 80 := by rw [hac, actsM_len]; omega
  have hao : ∀ a ∈ ac, ActOk a := by rw [hac]; exact actsM_ok (by omega)
  rw [← hac] at HAC hfit
  have HAO := Lib.hid hao
  have HASK := Lib.hid (asking hal hfit (by rw [hac]; exact actsM_key l _) (keyOf_mem n) (keys4_ok (keyOf_mem n)).1)
  have HFIT := Lib.hid hfit
  have HKS := Lib.hid (keys4_ok (keyOf_mem n)).2
  have HKEY := Lib.hid (fun w => kKey_any n w hn)
  obtain ⟨ky, hky⟩ : ∃ ky, ky = keyOf n := ⟨_, rfl⟩
  rw [← hky] at HASK HKS HKEY
  clear hr hac hao hfit hky
  go_enter Tryz.func3, Tryz.ntmps3
  go_wp2_with fail
  refine HAC.out.mono ?_
  rintro e w1 ⟨A1, c1, rfl, hown1, hb1⟩
  have hact1 : ActsAt w1 (· < w1.heap.size) A1 ac := SeqAt.acts (OwnsActs.acts hown1 (by omega) HAO.out).2.2 (fun b hb => hb.2) (fun _ _ _ => rfl)
  have HACT1 := Lib.hid hact1
  have HRUN := Lib.hid (topRun_any A1 c1 ac w1 hact1 (by omega))
  have HB1 := Lib.hid hb1
  clear hown1 hb1 hact1
  go_wp2_with fail
  refine HRUN.out.mono ?_
  rintro e w2 ⟨g, RA, n2, rc, CA, m, cc, rfl, hwo, hans, _, hb2⟩
  obtain ⟨WO, hWO⟩ : ∃ WO, WO = runWo (startW 4) ac := ⟨_, rfl⟩
  rw [← hWO] at hwo ⊢
  obtain ⟨W3, hW3, k0, k1, k2, hb3, hs3⟩ := box3_new w2 (.slice RA n2 rc) (.int .i64 WO.clock) (.slice CA m cc) 29
  have hb23 := below_next hb2 hb3
  have hact3 : ActsAt W3 (· < W3.heap.size) A1 ac := SeqAt.acts HACT1.out (fun b hb => Nat.lt_of_lt_of_le hb hb23.size) (fun b j hb' => hb23.cell (p := ⟨b, j, none⟩) hb')
  have hans3 : AnsDone g ac.length (runAns (startW 4) ac) W3 := hans.kept (hb3.block g hans.lt)
  have HACT3 := Lib.hid hact3
  have HANS3 := Lib.hid hans3
  have HB3 := Lib.hid (below_next HB1.out hb23)
  have HW3 := Lib.hid hW3
  clear hwo hans hb2 hW3 hb3 hWO hb23 hact3 hans3 k0 k1 k2 hs3
  go_wp2_with fail
  rw [← HW3.out]
  refine (clone_any A1 c1 ac W3 HACT3.out (by omega)).mono ?_
  rintro e w4 ⟨A4, c4, rfl, hown4, hb4⟩
  have HO4 := Lib.hid hown4
  have HB4 := Lib.hid hb4
  clear hown4 hb4
  go_wp2_with fail
  refine (HKEY.out _).mono ?_
  rintro e w5 ⟨rfl, hb5⟩
  go_wp2_with fail
  refine (HKEY.out _).mono ?_
  rintro e w6 ⟨rfl, hb6⟩
  have HB6 := Lib.hid (below_next HB4.out (below_next hb5 hb6))
  have HO6 := Lib.hid (Cells.Owns.kept HO4.out (below_next hb5 hb6))
  clear hb5 hb6
  have HAP := Lib.hid (show ∀ ty : TypeId, ∃ v' w', (Builtin.append_ #[23, 23] ty #[.slice A4 ac.length c4, .slice (some ⟨w6.heap.size, 0, none⟩) 2 2]).run Tryz.prog (w6.alloc (.cells #[.int .i64 6, .int .i64 0, .string ky, .string ⟨#[]⟩, .int .i64 6, .int .i64 0, .string ky, .string ⟨#[]⟩] 35)) = .ok v' w' ∧ ∃ A' c', v' = .slice A' (ac.length + 2) c' ∧ OwnsActs w' W3.heap.size (.slice A' (ac.length + 2) c') (ac ++ [⟨6, 0, ky, emptyS⟩, ⟨6, 0, ky, emptyS⟩]) ∧ Below W3.heap.size W3 w' from fun ty => by
    have hb7 : Below w6.heap.size w6 (w6.alloc (.cells #[.int .i64 6, .int .i64 0, .string ky, .string ⟨#[]⟩, .int .i64 6, .int .i64 0, .string ky, .string ⟨#[]⟩] 35)) := below_alloc (Below.refl _ _) _
    have h := app_part (ty := ty) _ W3 W3.heap.size c4 A4 ac ⟨some ⟨w6.heap.size, 0, none⟩, 2, [⟨6, 0, ky, emptyS⟩, ⟨6, 0, ky, emptyS⟩]⟩ (Cells.Owns.kept HO6.out hb7) (acts_blk (heap_alloc_new w6 _) rfl (by simp) (fun a ha => by simp at ha; rw [ha]; exact ⟨Nat.le_trans HKS.out (by decide), Nat.zero_le _⟩) (Below.refl _ _)) (by simp; omega) (Nat.le_trans HB6.out.size hb7.size) (below_next HB6.out hb7)
    simpa using h)
  go_wp2_with (at_builtin; refine (wpList_append_run _ rfl (.tmp 29) (.tmp 36) 23 rfl (.slice A4 ac.length c4) (.slice (some ⟨w6.heap.size, 0, none⟩) 2 2) rfl rfl (HAP.out _) ?_); rintro v7 w7 ⟨A7, c7, rfl, hown7, hb7⟩; have HO7 := Lib.hid hown7; have HB7 := Lib.hid hb7; clear hown7 hb7)
  obtain ⟨l2, hl2⟩ : ∃ l2, l2 = ac ++ [(⟨6, 0, ky, emptyS⟩ : ActM), ⟨6, 0, ky, emptyS⟩] := ⟨_, rfl⟩
  have hlen2 : l2.length = ac.length + 2 := by rw [hl2]; simp
  have hok2 : ∀ a ∈ l2, ActOk a := by
    intro a ha
    rw [hl2] at ha
    rcases List.mem_append.1 ha with ha | ha
    · exact HAO.out a ha
    · simp at ha
      rw [ha]; exact ⟨Nat.le_trans HKS.out (by decide), Nat.zero_le _⟩
  rw [← hl2] at HASK HO7
  have hown7 := HO7.out
  rw [← hlen2] at hown7
  have hact7 : ActsAt w7 (· < w7.heap.size) A7 l2 := SeqAt.acts (OwnsActs.acts hown7 (by omega) hok2).2.2 (fun b hb => hb.2) (fun _ _ _ => rfl)
  have HRUN2 := Lib.hid (show Calls Tryz.prog 5 #[.slice A7 (ac.length + 2) c7] w7 (TopOut l2 w7) by rw [← hlen2]; exact topRun_any A7 c7 l2 w7 hact7 (by omega))
  have HLEN2 := Lib.hid hlen2
  clear hact7 hown7 hok2 hl2 HAP HO7 HO6 HO4 HKEY hlen2 HRUN HAC
  refine HRUN2.out.mono ?_
  rintro e w8 ⟨g8, RA8, n8, rc8, CA8, m8, cc8, rfl, hwo8, hans8, _, hb8⟩
  rw [HLEN2.out]
  obtain ⟨WL, hWL⟩ : ∃ WL, WL = runWo (startW 4) l2 := ⟨_, rfl⟩
  rw [← hWL] at hwo8 HASK ⊢
  obtain ⟨W9, hW9, k0, k1, k2, hb9, hs9⟩ := box3_new w8 (.slice RA8 n8 rc8) (.int .i64 WL.clock) (.slice CA8 m8 cc8) 29
  have hb39 : Below W3.heap.size W3 W9 := below_next HB7.out (below_next hb8 hb9)
  have HWO := Lib.hid (hwo8.upto hb9).in_.rows
  have hn := hwo8.hn
  subst hn
  have h40 : WL.rows.length ≤ 1759218604441 := HWO.out.1
  have HANS9 := Lib.hid (hans8.kept (hb9.block g8 hans8.lt))
  have hact9 : ActsAt W9 (· < W9.heap.size) A1 ac := SeqAt.acts HACT3.out (fun b hb => Nat.lt_of_lt_of_le hb hb39.size) (fun b j hb' => hb39.cell (p := ⟨b, j, none⟩) hb')
  have hans9 : AnsDone g ac.length (runAns (startW 4) ac) W9 := HANS3.out.kept (hb39.block g HANS3.out.lt)
  have HCO := Lib.hid (committed_run (show ac.length ≤ 400 by omega) HFIT.out HAO.out A1 c1 g ac.length W9 hact9 hans9)
  have HB9 := Lib.hid (below_next HB3.out hb39)
  have HW9 := Lib.hid hW9
  have hbx : w8.heap.size < W9.heap.size := by omega
  clear hwo8 hans8 hb8 hW9 hb9 hact9 hans9 hb39 hWL
  go_wp2_with fail
  rw [← HW9.out]
  refine HCO.out.mono ?_
  rintro e w10 ⟨A2, c2, A3, c3, rfl, hdeals, _, hb10, _⟩
  have HD := Lib.hid hdeals
  have HB10 := Lib.hid hb10
  have k0' := (hb10.cell (p := ⟨w8.heap.size, 0, none⟩) hbx).trans k0
  obtain ⟨DS, hDS⟩ : ∃ DS, DS = (ghostL ac (runAns (startW 4) ac) ac.length).ds := ⟨_, rfl⟩
  rw [← hDS] at HD HASK ⊢
  have HA1 := Lib.hid HASK.out.1
  have HA2 := Lib.hid HASK.out.2
  clear hdeals hb10 hDS HCO HASK k0 k1 k2 HFIT HAO HACT3 HANS3 HACT1
  go_wp2
  go_loopw [59] (fun i wr => ∃ (k : Nat), k ≤ WL.rows.length ∧ i = .int .i64 k ∧ Below w10.heap.size w10 wr) (fun i _ => WL.rows.length - (intOf i).toNat)
  case atStart => exact ⟨0, Nat.zero_le _, rfl, Below.refl _ _⟩
  case round =>
    obtain ⟨k, hk, rfl, hb⟩ := hrel
    have HB := Lib.hid hb
    have HB9r := Lib.hid (below_next HB10.out hb)
    by_cases hm : k < WL.rows.length
    · obtain ⟨b, o, rfl, hbb, hrow⟩ := SeqAt.at_ (SeqAt.rows HWO.out (P' := (· < W9.heap.size)) (fun _ h => h) (fun b j hb' => HB9r.out.cell (p := ⟨b, j, none⟩) hb')) (getD_some (d := default) hm)
      obtain ⟨r, hrd⟩ : ∃ r, r = WL.rows.getD k default := ⟨_, rfl⟩
      rw [← hrd] at hrow
      have hrm : r ∈ WL.rows := by rw [hrd]; exact getD_mem hm
      obtain ⟨RC, cr, c4', hcr, hrecs⟩ := hrow.cr
      have c0 := hrow.ck
      have c1' := hrow.cs
      have c2' := hrow.cp
      have c3' := hrow.cv
      have HRM := Lib.hid hrm
      have HRC := Lib.hid hrecs
      have HRK := Lib.hid hrow.ok.k
      have j0 : (0 : Int) ≤ (k : Int) := by omega
      have j1 : (k : Int) < (WL.rows.length : Int) := by omega
      have hrl : r.recs.length ≤ 4398046511104 := hrecs.1
      clear hrow hrecs hrd hrm hb
      go_wp2
      obtain ⟨W5, hW5, y0, y1, y2, y3, y4, hb5, hs5⟩ := box_new wr (.string r.key) (.int .i64 r.ls) (.string r.lp) (.string r.val) (.slice RC r.recs.length cr) 45
      rw [← hW5]
      have HB5 := Lib.hid (below_next HB.out hb5)
      have hw5 : wr.heap.size < W5.heap.size := by omega
      have Y0 := Lib.hid y0
      clear hW5 hb5 y0 y1 y2 y3 y4 c0 c1' c2' c3' c4' hs5
      obtain ⟨wq, hwq⟩ : ∃ wq, wq = wr := ⟨_, rfl⟩
      rw [← hwq] at hw5 Y0 ⊢
      clear hwq
      go_loopw [66] (fun i wr => ∃ (j : Nat), j ≤ r.recs.length ∧ i = .int .i64 j ∧ Below W5.heap.size W5 wr) (fun i _ => r.recs.length - (intOf i).toNat)
      case atStart => exact ⟨0, Nat.zero_le _, rfl, Below.refl _ _⟩
      case round =>
        obtain ⟨j, hj, rfl, hb⟩ := hrel
        have HB' := Lib.hid hb
        have hb10 : Below w10.heap.size w10 wr := below_next HB5.out hb
        have HBT := Lib.hid hb10
        by_cases hjm : j < r.recs.length
        · obtain ⟨b', o', hA', hbb', hrec⟩ := RecsAt.at_ ((HRC.out.mono (P' := (· < W9.heap.size)) (fun _ h => h) (fun b' k' hb' => ((below_next HB10.out hb10).cell (p := ⟨b', k', none⟩) hb').trans (HB9r.out.cell (p := ⟨b', k', none⟩) hb').symm)).recs (fun _ h => h)) (getD_of hjm)
          obtain ⟨x, hxd⟩ : ∃ x, x = r.recs.getD j default := ⟨_, rfl⟩
          rw [← hxd] at hrec
          have hxm : x ∈ r.recs := by rw [hxd]; exact mem_getD hjm
          obtain ⟨x0, x1, x2⟩ := hrec
          subst hA'
          have hbb2 : b' < wr.heap.size := World.block_lt_of_cell? wr _ x0
          have HASKX := Lib.hid (show x.c ≠ 0 → DS.any (askP r.key x) = true from fun h => ask_any (HA1.out r HRM.out x hxm h))
          have i0 : (0 : Int) ≤ (j : Int) := by omega
          have i1 : (j : Int) < (r.recs.length : Int) := by omega
          have p0 : wr.cell? ⟨wq.heap.size, 0, none⟩ = some (.string r.key) := (hb.cell (p := ⟨wq.heap.size, 0, none⟩) hw5).trans Y0.out
          clear hxd hxm hb hb10
          by_cases hz : x.c = 0
          · have hz' : (x.c != 0) = false := by simp [hz]
            obtain ⟨xs, xc, xv⟩ := x
            dsimp only at x0 x1 x2 hz hz'
            subst hz
            go_wp2
            go_roundw
            case rel => exact ⟨j + 1, by omega, by go_num, below_alloc HB'.out _⟩
            case measure => simp [intOf]; omega
          · have hz' : (x.c != 0) = true := by simpa using hz
            have HANY := Lib.hid (HASKX.out hz)
            obtain ⟨xs, xc, xv⟩ := x
            dsimp only at x0 x1 x2 hz'
            obtain ⟨W6, hW6⟩ : ∃ W6, W6 = wr.alloc (.cells #[.int .i64 xs, .int .i64 xc, .string xv] 47) := ⟨_, rfl⟩
            have hb6 : Below wr.heap.size wr W6 := by rw [hW6]; exact below_alloc (Below.refl _ _) _
            have hg6 : W6.heap[wr.heap.size]? = some (.cells #[.int .i64 xs, .int .i64 xc, .string xv] 47) := by rw [hW6]; exact heap_alloc_new wr _
            have HCON := Lib.hid (askContains_any r.key ⟨xs, xc, xv⟩ DS A2 DS.length c2 wq.heap.size 0 wr.heap.size 0 W6 rfl (SeqAt.deals HD.out (below_next HBT.out hb6)) HRK.out ((hb6.cell (p := ⟨wq.heap.size, 0, none⟩) (World.block_lt_of_cell? wr _ p0)).trans p0) (by rw [Joins.cell_of_block hg6]; rfl) (by rw [Joins.cell_of_block hg6]; rfl) (by rw [Joins.cell_of_block hg6]; rfl))
            rw [HANY.out] at HCON
            have HW6 := Lib.hid hW6
            have HB6' := Lib.hid (below_next HB'.out hb6)
            clear hW6 hb6 hg6 hz
            go_wp2_with fail
            rw [← HW6.out]
            refine HCON.out.mono ?_
            rintro e w11 ⟨rfl, hb11⟩
            have HB11 := Lib.hid (below_next HB6'.out hb11)
            clear hb11
            go_wp2
            go_roundw
            case rel => exact ⟨j + 1, by omega, by go_num, HB11.out⟩
            case measure => simp [intOf]; omega
        · clear hb hb10
          go_wp2
          go_roundw
          case rel => exact ⟨k + 1, by omega, by go_num, HBT.out⟩
          case measure => simp [intOf]; omega
    · have hke : k = WL.rows.length := by omega
      subst hke
      obtain ⟨y, hyd⟩ : ∃ y, y = (runAns (startW 4) l2).getD (ac.length + 1) default := ⟨_, rfl⟩
      have hy : AnsAt wr g8 ((ac.length + 1) * 5) y := (HANS9.out.kept (HB9r.out.block g8 HANS9.out.lt)).ans _ y (by rw [hyd]; exact getD_some (by rw [runAns_length, HLEN2.out]; omega))
      have hye := HA2.out
      rw [← hyd] at hye
      have q0 := hy.c
      rw [hye] at q0
      have hgl : g8 < wr.heap.size := World.block_lt_of_cell? wr _ q0
      have hix : ((ac.length + 2 : Nat) : Int) - 1 = ((ac.length + 1 : Nat) : Int) := by omega
      clear hy hyd hye hb
      go_wp2
      go_ret
      exact ⟨rfl, below_next (below_next HB9.out HB10.out) HB.out⟩
end Go.Proofs.YtambkjnhfejfaacGreatDoor
