/-
  The walk of rickyardtop.TopResolved: it returns true and turns no old memory. Conditions: the raw numbers lie in memory.
-/
import Derived.Test.YtambkjnhfejfaabDoorG38
import Derived.Test.YtambkjnhfejfaabDoorG40
import Derived.Test.YtambkjnhfejfaabDoorG42
import Derived.BigQuiet
import Derived.Deep.QuietTactic
import Derived.Deep.RegionHeld3
namespace Go.Proofs.YtambkjnhfejfaabDoor
open Go.RowKit Go.Maps

def dropped (l : List ActM) (k : Nat) : List ActM := l ++ (List.range k).map (fun c : Nat => dropAct c)
def asked (l : List ActM) (k : Nat) : List ActM := dropped l 4 ++ (keys4.take k).map askAct
def gotten (l : List ActM) (k : Nat) : List ActM := asked l 4 ++ [beginAct] ++ (keys4.take k).map getAct
theorem dropped_len (l : List ActM) (k : Nat) : (dropped l k).length = l.length + k := by simp [dropped]
theorem dropped_succ (l : List ActM) (k : Nat) : dropped l (k + 1) = dropped l k ++ [dropAct k] := by simp [dropped, List.range_succ]
theorem keys_succ {k : Nat} (h : k < 4) : keys4.take (k + 1) = keys4.take k ++ [keyOf k] := by
  match k, h with
  | 0, _ => decide +kernel
  | 1, _ => decide +kernel
  | 2, _ => decide +kernel
  | 3, _ => decide +kernel
theorem keys_len {k : Nat} (h : k ≤ 4) : (keys4.take k).length = k := by rw [List.length_take]; exact Nat.min_eq_left h
theorem asked_len (l : List ActM) {k : Nat} (h : k ≤ 4) : (asked l k).length = l.length + 4 + k := by rw [asked, List.length_append, dropped_len, List.length_map, keys_len h]
theorem asked_succ (l : List ActM) {k : Nat} (h : k < 4) : asked l (k + 1) = asked l k ++ [askAct (keyOf k)] := by rw [asked, keys_succ h, List.map_append, asked, List.append_assoc]; rfl
theorem gotten_len (l : List ActM) {k : Nat} (h : k ≤ 4) : (gotten l k).length = l.length + 9 + k := by rw [gotten, List.length_append, List.length_append, asked_len l (Nat.le_refl 4), List.length_map, keys_len h]; simp
theorem gotten_succ (l : List ActM) {k : Nat} (h : k < 4) : gotten l (k + 1) = gotten l k ++ [getAct (keyOf k)] := by rw [gotten, keys_succ h, List.map_append, gotten, List.append_assoc, List.append_assoc, List.append_assoc]; rfl
theorem gotten_all (l : List ActM) : gotten l 4 = l ++ endActs := by
  rw [gotten, asked, dropped, endActs, show keys4.take 4 = keys4 from rfl]
  simp only [List.append_assoc]
theorem end_ok : ∀ a ∈ endActs, ActOk a := by
  intro a ha
  have : a ∈ [dropAct 0, dropAct 1, dropAct 2, dropAct 3] ++ keys4.map askAct ++ [beginAct] ++ keys4.map getAct := ha
  simp only [keys4, List.map_cons, List.map_nil, List.mem_append, List.mem_cons, List.not_mem_nil, or_false] at this
  rcases this with ((h | h) | h) | h
  · rcases h with rfl | rfl | rfl | rfl <;> exact ⟨by decide, by decide⟩
  · rcases h with rfl | rfl | rfl | rfl <;> exact ⟨by decide, by decide⟩
  · rw [h]; exact ⟨by decide, by decide⟩
  · rcases h with rfl | rfl | rfl | rfl <;> exact ⟨by decide, by decide⟩
theorem keyOf_small {k : Nat} (h : k < 4) : keyOf k = keys4.getD k default := by
  match k, h with
  | 0, _ => decide +kernel
  | 1, _ => decide +kernel
  | 2, _ => decide +kernel
  | 3, _ => decide +kernel
set_option maxRecDepth 100000 in
set_option maxHeartbeats 4000000 in
theorem topResolved_walk (w : World) (l : List RawM) (A : Option Addr) (q : Nat) (hr : RawsAt w (· < w.heap.size) A l) :
    Calls Tryd.prog 14 #[.slice A l.length q] w fun e w' => e = .returned (.bool true) ∧ Below w.heap.size w w' := by
  have HAC := Lib.hid (show Calls Tryd.prog 32 #[.slice A l.length q, .int .i64 80, .int .i64 4] w (ActsOut (actsM 4 l (min l.length 80)) w) from acts_any A q l 80 (by decide) 4 (by decide) (by decide) w hr)
  have hfit := actsM_fit l (min l.length 80)
  obtain ⟨ac, hac⟩ : ∃ ac, ac = actsM 4 l (min l.length 80) := ⟨_, rfl⟩
  have hal : ac.length ≤ 80 := by rw [hac, actsM_len]; omega
  have hao : ∀ a ∈ ac, ActOk a := by rw [hac]; exact actsM_ok (by omega)
  rw [← hac] at HAC hfit
  have HAO := Lib.hid hao
  have HRES := Lib.hid (resolved hal hfit (by rw [hac]; exact actsM_key l _))
  have HFIT := Lib.hid hfit
  clear hr hac hao hfit
  go_enter Tryd.func14, Tryd.ntmps14
  go_wp2_with fail
  refine HAC.out.mono ?_
  rintro e w1 ⟨A1, c1, rfl, hown1, hb1⟩
  have hact1 : ActsAt w1 (· < w1.heap.size) A1 ac := SeqAt.acts (OwnsActs.acts hown1 (by omega) HAO.out).2.2 (fun b hb => hb.2) (fun _ _ _ => rfl)
  have HACT1 := Lib.hid hact1
  have HRUN := Lib.hid (topRun_any A1 c1 ac w1 hact1 (by omega))
  have HB1 := Lib.hid hb1
  clear hown1 hb1 hact1
  go_wp2_with fail
  refine HRUN.out.mono ?_
  rintro e w2 ⟨g, RA, n, rc, CA, m, cc, rfl, hwo, hans, _, hb2⟩
  obtain ⟨WO, hWO⟩ : ∃ WO, WO = runWo (startW 4) ac := ⟨_, rfl⟩
  rw [← hWO] at hwo ⊢
  obtain ⟨W3, hW3, k0, k1, k2, hb3, hs3⟩ := box3_new w2 (.slice RA n rc) (.int .i64 WO.clock) (.slice CA m cc) 67
  have hb23 := below_next hb2 hb3
  have hact3 : ActsAt W3 (· < W3.heap.size) A1 ac := SeqAt.acts HACT1.out (fun b hb => Nat.lt_of_lt_of_le hb hb23.size) (fun b j hb' => hb23.cell (p := ⟨b, j, none⟩) hb')
  have hans3 : AnsDone g ac.length (runAns (startW 4) ac) W3 := hans.kept (hb3.block g hans.lt)
  have HACT3 := Lib.hid hact3
  have HANS3 := Lib.hid hans3
  have HB3 := Lib.hid (below_next HB1.out hb23)
  have HW3 := Lib.hid hW3
  have HCO := Lib.hid (committed_run (show ac.length ≤ 400 by omega) HFIT.out HAO.out A1 c1 g ac.length W3 hact3 hans3)
  clear hwo hans hb2 hW3 hb3 hWO hb23 hact3 hans3
  go_wp2_with fail
  rw [← HW3.out]
  refine HCO.out.mono ?_
  rintro e w4 ⟨A2, c2, A3, c3, rfl, hdeals, hseen, hb4, _⟩
  have HD := Lib.hid hdeals
  have HB4 := Lib.hid (below_next HB3.out hb4)
  have HACT4 := Lib.hid (show ActsAt w4 (· < w4.heap.size) A1 ac from SeqAt.acts HACT3.out (fun b hb => Nat.lt_of_lt_of_le hb hb4.size) (fun b j hb' => hb4.cell (p := ⟨b, j, none⟩) hb'))
  obtain ⟨DS, hDS⟩ : ∃ DS, DS = (ghostL ac (runAns (startW 4) ac) ac.length).ds := ⟨_, rfl⟩
  rw [← hDS] at HD HRES ⊢
  clear hdeals hseen hb4 hDS HANS3 HACT3 HCO HRUN HAC HACT1 k0 k1 k2 HFIT HB3 HB1
  go_wp2_with fail
  refine (clone_any A1 c1 ac w4 HACT4.out (by omega)).mono ?_
  rintro e w5 ⟨A5, c5, rfl, hown5, hb5⟩
  have HO5 := Lib.hid hown5
  have HB5 := Lib.hid hb5
  clear hown5 hb5
  go_wp2
  go_loopw [9, 39] (fun v i wr => ∃ (k : Nat) (As : Option Addr) (cs : Nat), k ≤ 4 ∧ i = .int .i64 k ∧ v = .slice As (ac.length + k) cs ∧ OwnsActs wr w4.heap.size (.slice As (ac.length + k) cs) (dropped ac k) ∧ Below w4.heap.size w4 wr) (fun _ i _ => 4 - (intOf i).toNat)
  case atStart => exact ⟨0, _, _, Nat.zero_le _, rfl, rfl, by rw [dropped, List.range_zero, List.map_nil, List.append_nil]; exact HO5.out, HB5.out⟩
  case round =>
    obtain ⟨k, As, cs, hk, rfl, rfl, hown, hb⟩ := hrel
    by_cases hlt : k < 4
    · have HAP := Lib.hid (fun ty => app_act (ty := ty) wr w4 w4.heap.size cs As (dropped ac k) (dropAct k) (by rw [dropped_len]; exact hown) (by rw [dropped_len]; omega) hb.size hb)
      rw [dropped_len] at HAP
      have j0 : (0 : Int) ≤ (k : Int) := by omega
      have j1 : (k : Int) < 4 := by omega
      clear hown hb
      go_wp2_with (at_builtin; refine (wpList_append_run _ rfl (.tmp 42) (.tmp 45) 49 rfl (.slice As (ac.length + k) cs) (.slice (some ⟨wr.heap.size, 0, none⟩) 1 1) rfl rfl (HAP.out _) ?_); rintro v1 w6 ⟨A6, c6, rfl, hown6, hb6⟩; have HO6 := Lib.hid hown6; have HB6 := Lib.hid hb6; clear hown6 hb6)
      go_roundw
      case rel => exact ⟨k + 1, A6, c6, by omega, by go_num, rfl, by rw [dropped_succ]; exact HO6.out, HB6.out⟩
      case measure => simp [intOf]; omega
    · have hke : k = 4 := by omega
      subst hke
      have HOW := Lib.hid hown
      have HBW := Lib.hid hb
      clear hown hb hk hlt
      go_wp2
      try simp only [show ((4 : Nat) : Int) = 4 from rfl]
      go_loopw [9, 48] (fun v i wr => ∃ (k : Nat) (As : Option Addr) (cs : Nat), k ≤ 4 ∧ i = .int .i64 k ∧ v = .slice As (ac.length + 4 + k) cs ∧ OwnsActs wr w4.heap.size (.slice As (ac.length + 4 + k) cs) (asked ac k) ∧ Below w4.heap.size w4 wr) (fun _ i _ => 4 - (intOf i).toNat)
      case atStart => exact ⟨0, _, _, Nat.zero_le _, rfl, rfl, by rw [asked, List.take_zero, List.map_nil, List.append_nil]; exact HOW.out, HBW.out⟩
      case round =>
        obtain ⟨k, As, cs, hk, rfl, rfl, hown, hb⟩ := hrel
        by_cases hlt : k < 4
        · have HOWK := Lib.hid hown
          have HBK := Lib.hid hb
          have j0 : (0 : Int) ≤ (k : Int) := by omega
          have j1 : (k : Int) < 4 := by omega
          clear hown hb
          go_wp2_with fail
          refine (kKey_any k wr (by constructor <;> omega)).mono ?_
          rintro e w6 ⟨rfl, hb6⟩
          have hbk := below_next HBK.out hb6
          have HAP := Lib.hid (fun ty => app_act (ty := ty) w6 w4 w4.heap.size cs As (asked ac k) (askAct (keyOf k)) (by rw [asked_len _ hk]; exact HOWK.out.kept hb6) (by rw [asked_len _ hk]; omega) hbk.size hbk)
          rw [asked_len _ hk] at HAP
          obtain ⟨ky, hky⟩ : ∃ ky, ky = keyOf k := ⟨_, rfl⟩
          have HKY := Lib.hid hky
          rw [← hky] at HAP ⊢
          clear hbk hb6 hky
          go_wp2_with (at_builtin; refine (wpList_append_run _ rfl (.tmp 51) (.tmp 55) 49 rfl (.slice As (ac.length + 4 + k) cs) (.slice (some ⟨w6.heap.size, 0, none⟩) 1 1) rfl rfl (HAP.out _) ?_); rintro v1 w7 ⟨A6, c6, rfl, hown6, hb6⟩; have HO6 := Lib.hid hown6; have HB6 := Lib.hid hb6; clear hown6 hb6)
          go_roundw
          case rel => exact ⟨k + 1, A6, c6, by omega, by go_num, rfl, by rw [asked_succ _ hlt, ← HKY.out]; exact HO6.out, HB6.out⟩
          case measure => simp [intOf]; omega
        · have hke : k = 4 := by omega
          subst hke
          have HOW := Lib.hid hown
          have HBW := Lib.hid hb
          have HAP := Lib.hid (fun ty => app_act (ty := ty) wr w4 w4.heap.size cs As (asked ac 4) beginAct (by rw [asked_len _ (Nat.le_refl 4)]; exact hown) (by rw [asked_len _ (Nat.le_refl 4)]; omega) hb.size hb)
          rw [asked_len _ (Nat.le_refl 4)] at HAP
          clear hown hb hk hlt
          go_wp2_with (at_builtin; refine (wpList_append_run _ rfl (.tmp 58) (.tmp 60) 49 rfl (.slice As (ac.length + 4 + 4) cs) (.slice (some ⟨wr.heap.size, 0, none⟩) 1 1) rfl rfl (HAP.out _) ?_); rintro v1 w6 ⟨A6, c6, rfl, hown6, hb6⟩; have HO6 := Lib.hid hown6; have HB6 := Lib.hid hb6; clear hown6 hb6)
          try simp only [show ((4 : Nat) : Int) = 4 from rfl]
          go_loopw [9, 62] (fun v i wr => ∃ (k : Nat) (As : Option Addr) (cs : Nat), k ≤ 4 ∧ i = .int .i64 k ∧ v = .slice As (ac.length + 4 + 4 + 1 + k) cs ∧ OwnsActs wr w4.heap.size (.slice As (ac.length + 4 + 4 + 1 + k) cs) (gotten ac k) ∧ Below w4.heap.size w4 wr) (fun _ i _ => 4 - (intOf i).toNat)
          case atStart => exact ⟨0, _, _, Nat.zero_le _, rfl, rfl, by rw [gotten, List.take_zero, List.map_nil, List.append_nil]; exact HO6.out, HB6.out⟩
          case round =>
            obtain ⟨k, As, cs, hk, rfl, rfl, hown, hb⟩ := hrel
            by_cases hlt : k < 4
            · have HOWK := Lib.hid hown
              have HBK := Lib.hid hb
              have j0 : (0 : Int) ≤ (k : Int) := by omega
              have j1 : (k : Int) < 4 := by omega
              have hgl : (gotten ac k).length = ac.length + 4 + 4 + 1 + k := by rw [gotten_len _ hk]
              clear hown hb
              go_wp2_with fail
              refine (kKey_any k wr (by constructor <;> omega)).mono ?_
              rintro e w7 ⟨rfl, hb7⟩
              have hbk := below_next HBK.out hb7
              have HAP := Lib.hid (fun ty => app_act (ty := ty) w7 w4 w4.heap.size cs As (gotten ac k) (getAct (keyOf k)) (by rw [hgl]; exact HOWK.out.kept hb7) (by rw [hgl]; omega) hbk.size hbk)
              rw [hgl] at HAP
              obtain ⟨ky, hky⟩ : ∃ ky, ky = keyOf k := ⟨_, rfl⟩
              have HKY := Lib.hid hky
              rw [← hky] at HAP ⊢
              clear hbk hb7 hky hgl
              go_wp2_with (at_builtin; refine (wpList_append_run _ rfl (.tmp 65) (.tmp 69) 49 rfl (.slice As (ac.length + 4 + 4 + 1 + k) cs) (.slice (some ⟨w7.heap.size, 0, none⟩) 1 1) rfl rfl (HAP.out _) ?_); rintro v1 w8 ⟨A7, c7, rfl, hown7, hb7⟩; have HO7 := Lib.hid hown7; have HB7 := Lib.hid hb7; clear hown7 hb7)
              go_roundw
              case rel => exact ⟨k + 1, A7, c7, by omega, by go_num, rfl, by rw [gotten_succ _ hlt, ← HKY.out]; exact HO7.out, HB7.out⟩
              case measure => simp [intOf]; omega
            · have hke : k = 4 := by omega
              subst hke
              have hel : (gotten ac 4).length = ac.length + 4 + 4 + 1 + 4 := by rw [gotten_len _ (Nat.le_refl 4)]
              have hokL : ∀ a ∈ gotten ac 4, ActOk a := by
                rw [gotten_all]
                intro a ha
                rcases List.mem_append.1 ha with ha | ha
                · exact HAO.out a ha
                · exact end_ok a ha
              have hactL : ActsAt wr (· < wr.heap.size) As (gotten ac 4) := SeqAt.acts (OwnsActs.acts hown (by rw [hel]; omega) hokL).2.2 (fun b hb => hb.2) (fun _ _ _ => rfl)
              have HRUN := Lib.hid (topRun_any As cs (gotten ac 4) wr hactL (by rw [hel]; omega))
              rw [← gotten_all] at HRES
              obtain ⟨L, hL⟩ : ∃ L, L = gotten ac 4 := ⟨_, rfl⟩
              rw [← hL] at HRUN HRES hel
              obtain ⟨N, hN⟩ : ∃ N, N = ac.length + 4 + 4 + 1 + 4 := ⟨_, rfl⟩
              have hrun := HRUN.out
              rw [hel] at hrun
              have HRU := Lib.hid hrun
              have HBW := Lib.hid hb
              have HEL := Lib.hid hel
              clear hown hb hokL hactL hL hel hrun HRUN hk hlt HAO
              go_wp2_with fail
              refine HRU.out.mono ?_
              rintro e w7 ⟨g', RA', n', rc', CA', m', cc', rfl, hwo', hans', _, hb7⟩
              rw [HEL.out, ← hN]
              obtain ⟨WL, hWL⟩ : ∃ WL, WL = runWo (startW 4) L := ⟨_, rfl⟩
              rw [← hWL] at hwo' HRES ⊢
              obtain ⟨W8, hW8, k0, k1, k2, hb8, hs8⟩ := box3_new w7 (.slice RA' n' rc') (.int .i64 WL.clock) (.slice CA' m' cc') 67
              have HWO := Lib.hid (hwo'.upto hb8).in_.rows
              have hn := hwo'.hn
              subst hn
              have h40 : WL.rows.length ≤ 1759218604441 := HWO.out.1
              have HANS8 := Lib.hid (hans'.kept (hb8.block g' hans'.lt))
              have HB8 := Lib.hid (below_next HBW.out (below_next hb7 hb8))
              have HW8 := Lib.hid hW8
              have HR1 := Lib.hid HRES.out.1
              have hbx : w7.heap.size < W8.heap.size := by omega
              clear hwo' hans' hb7 hW8 hb8 hWL HRU
              go_wp2
              rw [← HW8.out]
              try simp only [show ((4 : Nat) : Int) = 4 from rfl]
              go_loopw [83] (fun i wr => ∃ (k : Nat), k ≤ WL.rows.length ∧ i = .int .i64 k ∧ Below W8.heap.size W8 wr) (fun i _ => WL.rows.length - (intOf i).toNat)
              case atStart => exact ⟨0, Nat.zero_le _, rfl, Below.refl _ _⟩
              case round =>
                obtain ⟨k, hk, rfl, hb⟩ := hrel
                by_cases hm : k < WL.rows.length
                · obtain ⟨b, o, rfl, hbb, hrow⟩ := SeqAt.at_ (SeqAt.rows HWO.out (P' := (· < W8.heap.size)) (fun _ h => h) (fun b j hb' => hb.cell (p := ⟨b, j, none⟩) hb')) (getD_some (d := default) hm)
                  obtain ⟨r, hrd⟩ : ∃ r, r = WL.rows.getD k default := ⟨_, rfl⟩
                  rw [← hrd] at hrow
                  have hrl : r.ls = 0 := HR1.out r (by rw [hrd]; exact getD_mem hm)
                  obtain ⟨RC, cr, c4, hcr, hrecs⟩ := hrow.cr
                  have c0 := hrow.ck
                  have c1' := hrow.cs
                  have c2' := hrow.cp
                  have c3' := hrow.cv
                  rw [hrl] at c1'
                  have HB := Lib.hid hb
                  have j0 : (0 : Int) ≤ (k : Int) := by omega
                  have j1 : (k : Int) < (WL.rows.length : Int) := by omega
                  clear hrow hrecs hrd hb hcr hrl
                  go_wp2
                  go_roundw
                  case rel => exact ⟨k + 1, by omega, by go_num, below_alloc HB.out _⟩
                  case measure => simp [intOf]; omega
                · have hke : k = WL.rows.length := by omega
                  subst hke
                  have HB := Lib.hid hb
                  clear hb hk hm
                  go_wp2
                  go_loopw [92] (fun i wr => ∃ (k : Nat), k ≤ 4 ∧ i = .int .i64 k ∧ Below W8.heap.size W8 wr) (fun i _ => 4 - (intOf i).toNat)
                  case atStart => exact ⟨0, Nat.zero_le _, rfl, HB.out⟩
                  case round =>
                    obtain ⟨k, hk, rfl, hb⟩ := hrel
                    by_cases hlt : k < 4
                    · obtain ⟨y, hyd⟩ : ∃ y, y = (runAns (startW 4) L).getD (ac.length + 9 + k) default := ⟨_, rfl⟩
                      have hlenL : (runAns (startW 4) L).length = N := by rw [runAns_length, HEL.out, hN]
                      have hy : AnsAt wr g' ((ac.length + 9 + k) * 5) y := (HANS8.out.kept (hb.block g' HANS8.out.lt)).ans _ y (by rw [hyd]; exact getD_some (by rw [hlenL]; omega))
                      have hye := HRES.out.2 k hlt
                      rw [← hyd, ← keyOf_small hlt] at hye
                      rw [show ac.length + 9 + k = ac.length + 4 + 4 + 1 + k by omega] at hy
                      obtain ⟨ky, hky⟩ : ∃ ky, ky = keyOf k := ⟨_, rfl⟩
                      rw [← hky] at hye
                      obtain ⟨BD, hBD⟩ : ∃ BD, BD = bestD ky 1099511627776 ac.length DS := ⟨_, rfl⟩
                      rw [← hBD] at hye
                      subst hye
                      have q0 := hy.c
                      have q1 := hy.i
                      have q2 := hy.v
                      have q3 := hy.p
                      have q4 := hy.t
                      have HBK := Lib.hid hb
                      have HKY := Lib.hid hky
                      have HBD := Lib.hid hBD
                      have hgw : g' < wr.heap.size := Nat.lt_of_lt_of_le HANS8.out.lt hb.size
                      have j0 : (0 : Int) ≤ (k : Int) := by omega
                      have j1 : (k : Int) < 4 := by omega
                      have HN := Lib.hid hN
                      clear hy hyd hlenL hb hky hBD hN
                      go_wp2_with fail
                      obtain ⟨W9, hW9, y0, y1, y2, y3, y4, hb9, hs9⟩ := box_new wr (.int .i64 0) (.bool (decide (0 < BD.cm))) (.string ((lookW BD.ws ky).getD emptyS)) (.int .i64 1) (.int .i64 0) 59
                      rw [← hW9]
                      refine (kKey_any k W9 (by constructor <;> omega)).mono ?_
                      rintro e w10 ⟨rfl, hb10⟩
                      have hwl : wr.heap.size < W9.heap.size := by omega
                      have y0 := (hb10.cell (p := ⟨wr.heap.size, 0, none⟩) hwl).trans y0
                      have y1 := (hb10.cell (p := ⟨wr.heap.size, 1, none⟩) hwl).trans y1
                      have y2 := (hb10.cell (p := ⟨wr.heap.size, 2, none⟩) hwl).trans y2
                      have hb810 : Below W8.heap.size W8 w10 := below_next (below_next HBK.out hb9) hb10
                      have hwl10 : wr.heap.size < w10.heap.size := Nat.lt_of_lt_of_le hwl hb10.size
                      have HVAL := Lib.hid (value_any A2 c2 DS ky 1099511627776 ac.length w10 (SeqAt.deals HD.out (below_next HB8.out hb810)) (by rw [HKY.out, keyOf_small hlt]; match k, hlt with | 0, _ => decide | 1, _ => decide | 2, _ => decide | 3, _ => decide))
                      rw [← HBD.out] at HVAL
                      rw [← HKY.out]
                      have HB10 := Lib.hid hb810
                      clear hW9 hb9 hb10 hb810 q0 q1 q2 q3 q4 y3 y4
                      go_wp2_with fail
                      refine HVAL.out.mono ?_
                      rintro e w11 ⟨rfl, hb11⟩
                      have y0 := (hb11.cell (p := ⟨wr.heap.size, 0, none⟩) hwl10).trans y0
                      have y1 := (hb11.cell (p := ⟨wr.heap.size, 1, none⟩) hwl10).trans y1
                      have y2 := (hb11.cell (p := ⟨wr.heap.size, 2, none⟩) hwl10).trans y2
                      have HB11 := Lib.hid (below_next HB10.out hb11)
                      clear hb11
                      go_wp2
                      go_roundw
                      case rel => exact ⟨k + 1, by omega, by go_num, HB11.out⟩
                      case measure => simp [intOf]; omega
                    · have hke : k = 4 := by omega
                      subst hke
                      have HBK := Lib.hid hb
                      clear hb
                      go_wp2
                      go_ret
                      exact ⟨rfl, below_next (below_next HB4.out HB8.out) HBK.out⟩
end Go.Proofs.YtambkjnhfejfaabDoor
