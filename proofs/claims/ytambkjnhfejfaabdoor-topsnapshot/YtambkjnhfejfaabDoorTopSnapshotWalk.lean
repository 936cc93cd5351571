/-
  The walk of rickyardtop.TopSnapshot: it returns true and turns no old memory. Conditions: the raw numbers lie in memory.
-/
import Derived.Test.YtambkjnhfejfaabDoorG38
import Derived.BigQuiet
import Derived.Deep.QuietTactic
import Derived.Deep.RegionHeld3
namespace Go.Proofs.YtambkjnhfejfaabDoor
open Go.RowKit Go.Maps

theorem TrackAt.upto {w w' : World} {b o : Nat} {d : TrackM} (h : TrackAt w b o d) (hb : Below w.heap.size w w') (hlt : b < w.heap.size) : TrackAt w' b o d := by
  obtain ⟨bm, n, h1, h2⟩ := h.m
  have e : ∀ k, w'.cell? ⟨b, k, none⟩ = w.cell? ⟨b, k, none⟩ := fun k => hb.cell (p := ⟨b, k, none⟩) hlt
  exact ⟨(e _).trans h.p, (e _).trans h.s, (e _).trans h.c, ⟨bm, n, (e _).trans h1, h2.upto hb⟩⟩
theorem seenL_at (l : List ActM) (x : List AnsM) {k m : Nat} (h : k < m) : (seenL l x m)[k]? = some (seenT l x k) := by
  rw [seenL, List.getElem?_map, List.getElem?_range h]; rfl
theorem wantM_eq (l : List ActM) (x : List AnsM) (k : Nat) : wantM l x k = if (lookW (seenT l x k).ws (l.getD k default).key).isSome then ((lookW (seenT l x k).ws (l.getD k default).key).getD emptyS, true) else ((lookW (bestD (l.getD k default).key (seenT l x k).st k (ghostL l x l.length).ds).ws (l.getD k default).key).getD emptyS, decide (0 < (bestD (l.getD k default).key (seenT l x k).st k (ghostL l x l.length).ds).cm)) := rfl
theorem act_box (wr : World) (k c : Int) (y v : ByteArray) : ∃ W5, W5 = wr.alloc (.cells #[.int .i64 k, .int .i64 c, .string y, .string v] 52) ∧ Below wr.heap.size wr W5 ∧ W5.cell? ⟨wr.heap.size, 0, none⟩ = some (.int .i64 k) ∧ W5.cell? ⟨wr.heap.size, 1, none⟩ = some (.int .i64 c) ∧ W5.cell? ⟨wr.heap.size, 2, none⟩ = some (.string y) ∧ W5.cell? ⟨wr.heap.size, 3, none⟩ = some (.string v) := by
  refine ⟨_, rfl, below_alloc (Below.refl _ _) _, ?_, ?_, ?_, ?_⟩ <;> simp
set_option maxRecDepth 100000 in
set_option maxHeartbeats 4000000 in
theorem topSnapshot_walk (w : World) (l : List RawM) (A : Option Addr) (q : Nat) (hr : RawsAt w (· < w.heap.size) A l) :
    Calls Tryd.prog 11 #[.slice A l.length q] w fun e w' => e = .returned (.bool true) ∧ Below w.heap.size w w' := by
  have HAC := Lib.hid (show Calls Tryd.prog 32 #[.slice A l.length q, .int .i64 90, .int .i64 4] w (ActsOut (actsM 4 l (min l.length 90)) w) from acts_any A q l 90 (by decide) 4 (by decide) (by decide) w hr)
  have hfit := actsM_fit l (min l.length 90)
  obtain ⟨ac, hac⟩ : ∃ ac, ac = actsM 4 l (min l.length 90) := ⟨_, rfl⟩
  have hal : ac.length ≤ 90 := by rw [hac, actsM_len]; omega
  have hao : ∀ a ∈ ac, ActOk a := by rw [hac]; exact actsM_ok (by omega)
  rw [← hac] at HAC hfit
  have HAO := Lib.hid hao
  have HFIT := Lib.hid hfit
  clear hr hac hao hfit
  go_enter Tryd.func11, Tryd.ntmps11
  go_wp2_with fail
  refine HAC.out.mono ?_
  rintro e w1 ⟨A1, c1, rfl, hown1, hb1⟩
  have hact1 : ActsAt w1 (· < w1.heap.size) A1 ac := SeqAt.acts (OwnsActs.acts hown1 (by omega) HAO.out).2.2 (fun b hb => hb.2) (fun _ _ _ => rfl)
  have HACT1 := Lib.hid hact1
  have HRUN := Lib.hid (topRun_any A1 c1 ac w1 hact1 (by omega))
  have HB1 := Lib.hid hb1
  clear hown1 hb1 hact1
  go_wp2_with fail
  refine HRUN.out.mono ?_
  rintro e w2 ⟨g, RA, n, rc, CA, m, cc, rfl, hwo, hans, _, hb2⟩
  obtain ⟨WO, hWO⟩ : ∃ WO, WO = runWo (startW 4) ac := ⟨_, rfl⟩
  rw [← hWO] at hwo ⊢
  obtain ⟨W3, hW3, k0, k1, k2, hb3, hs3⟩ := box3_new w2 (.slice RA n rc) (.int .i64 WO.clock) (.slice CA m cc) 67
  have hb23 := below_next hb2 hb3
  have hact3 : ActsAt W3 (· < W3.heap.size) A1 ac := SeqAt.acts HACT1.out (fun b hb => Nat.lt_of_lt_of_le hb hb23.size) (fun b j hb' => hb23.cell (p := ⟨b, j, none⟩) hb')
  have hans3 : AnsDone g ac.length (runAns (startW 4) ac) W3 := hans.kept (hb3.block g hans.lt)
  have HACT3 := Lib.hid hact3
  have HANS3 := Lib.hid hans3
  have HB3 := Lib.hid (below_next HB1.out hb23)
  have HW3 := Lib.hid hW3
  have HCO := Lib.hid (committed_run (show ac.length ≤ 400 by omega) HFIT.out HAO.out A1 c1 g ac.length W3 hact3 hans3)
  clear hwo hans hb2 hW3 hb3 hWO hb23 hact3 hans3
  go_wp2_with fail
  rw [← HW3.out]
  refine HCO.out.mono ?_
  rintro e w4 ⟨A2, c2, A3, c3, rfl, hdeals, hseen, hb4, _⟩
  have HD := Lib.hid hdeals
  have HS := Lib.hid hseen
  have HB4 := Lib.hid hb4
  have HACT4 := Lib.hid (show ActsAt w4 (· < w4.heap.size) A1 ac from SeqAt.acts HACT3.out (fun b hb => Nat.lt_of_lt_of_le hb hb4.size) (fun b j hb' => hb4.cell (p := ⟨b, j, none⟩) hb'))
  have HANS4 := Lib.hid (show AnsDone g ac.length (runAns (startW 4) ac) w4 from HANS3.out.kept (hb4.block g HANS3.out.lt))
  have HSNAP := Lib.hid (fun k hk => snapshot (l := ac) (show ac.length ≤ 400 by omega) HFIT.out (k := k) hk)
  have hgl := HANS4.out.lt
  have hxl : (runAns (startW 4) ac).length = ac.length := runAns_length _ _
  obtain ⟨x, hx⟩ : ∃ x, x = runAns (startW 4) ac := ⟨_, rfl⟩
  rw [← hx] at HD HS HANS4 HSNAP hxl ⊢
  have HXL := Lib.hid hxl
  clear hdeals hseen hb4 hx hxl HANS3 HACT3 HCO HRUN HAC HACT1 k0 k1 k2
  go_wp2
  go_loopw [33] (fun i wr => ∃ k : Nat, k ≤ ac.length ∧ i = .int .i64 k ∧ Below w4.heap.size w4 wr) (fun i _ => ac.length - (intOf i).toNat)
  case atStart => exact ⟨0, Nat.zero_le _, rfl, Below.refl _ _⟩
  case round =>
    obtain ⟨k, hk, rfl, hb⟩ := hrel
    by_cases hm : k < ac.length
    · obtain ⟨b, o, rfl, hbb, hax⟩ := SeqAt.at_ (SeqAt.acts HACT4.out (P' := (· < w4.heap.size)) (fun _ h => h) (fun b j hb' => hb.cell (p := ⟨b, j, none⟩) hb')) (getD_some (d := default) hm)
      obtain ⟨b', o', rfl, hbb', htx⟩ := SeqAt.at_ HS.out (seenL_at ac x hm)
      have htx := htx.upto hb hbb'
      have hsn := HSNAP.out k hm
      rw [wantM_eq] at hsn
      obtain ⟨T, hT⟩ : ∃ T, T = seenT ac x k := ⟨_, rfl⟩
      obtain ⟨a, had⟩ : ∃ a, a = ac.getD k default := ⟨_, rfl⟩
      obtain ⟨y, hyd⟩ : ∃ y, y = x.getD k default := ⟨_, rfl⟩
      have hy : AnsAt wr g (k * 5) y := (HANS4.out.kept (hb.block g hgl)).ans k y (by rw [hyd]; exact getD_some (by rw [HXL.out]; exact hm))
      rw [← had] at hax
      rw [← hT] at htx
      rw [← hT, ← had, ← hyd] at hsn
      obtain ⟨bm, nm, t3, hmap⟩ := htx.m
      have t1 := htx.s
      have x0 := hax.k
      have x1 := hax.c
      have x2 := hax.y
      have x3 := hax.v
      have q0 := hy.c
      have q1 := hy.i
      have q2 := hy.v
      have HAOK := Lib.hid hax.ok
      have HB := Lib.hid hb
      have HMAP := Lib.hid hmap
      have HDW := Lib.hid (SeqAt.deals HD.out hb)
      have hbw : b < wr.heap.size := Nat.lt_of_lt_of_le hbb hb.size
      have hbw' : b' < wr.heap.size := Nat.lt_of_lt_of_le hbb' hb.size
      have hgw : g < wr.heap.size := Nat.lt_of_lt_of_le hgl hb.size
      have j0 : (0 : Int) ≤ (k : Int) := by omega
      have j1 : (k : Int) < (ac.length : Int) := by omega
      clear hax htx hy hb hT had hyd hmap
      obtain ⟨ak, cc', ay, av⟩ := a
      obtain ⟨yc, yi, yv, yp, yt⟩ := y
      dsimp only at x0 x1 x2 x3 q0 q1 q2 hsn HAOK
      have HSN := Lib.hid hsn
      clear hsn
      by_cases h2 : ak = 2
      · subst h2
        by_cases hyc : yc = 0
        · subst hyc
          have hsn := HSN.out rfl rfl
          obtain ⟨W5, hW5, hb5, z0, z1, z2, z3⟩ := act_box wr 2 cc' ay av
          have HW5 := Lib.hid hW5
          have hlk : ∀ n, _ := fun n => MapAt.look (w := W5.drewN n) ((HMAP.out.upto hb5).blk rfl) (s := ay) HAOK.out.1
          have hlo : ∀ n, _ := fun n => MapAt.look_ok (w := W5.drewN n) ((HMAP.out.upto hb5).blk rfl) (s := ay) HAOK.out.1
          have p1 := (hb5.cell (p := ⟨b', o' + k * 4 + 1, none⟩) hbw').trans t1
          have p3 := (hb5.cell (p := ⟨b', o' + k * 4 + 3, none⟩) hbw').trans t3
          have r1 := (hb5.cell (p := ⟨g, k * 5 + 1, none⟩) hgw).trans q1
          have r2 := (hb5.cell (p := ⟨g, k * 5 + 2, none⟩) hgw).trans q2
          have HB5 := Lib.hid (HB.out.trans (hb5.mono HB.out.size))
          cases hth : (lookW T.ws ay).isSome with
          | true =>
            rw [if_pos hth] at hsn
            injection hsn with e1 e2
            subst e1 e2
            rw [hth] at hlo
            clear hb5 hW5
            go_wp2
            rw [← HW5.out]
            clear t1 t3 q1 q2 x0 x1 x2 x3
            go_quiet (fail)
            obtain ⟨n1, rfl⟩ : ∃ n1, n1 = nq := ⟨_, rfl⟩
            go_wp2
            obtain ⟨W6, hW6⟩ : ∃ W6, W6 = W5.drewN n1 := ⟨_, rfl⟩
            have hlo6 : ∀ n, _ := fun n => hlo (n1 + n)
            simp only [← World.drewN_drewN, ← hW6] at hlo6
            rw [← hW6]
            have hce : ∀ a, W6.cell? a = W5.cell? a := fun a => by rw [hW6]; rfl
            have p1 := (hce _).trans p1
            have p3 := (hce _).trans p3
            have z2 := (hce _).trans z2
            have r1 := (hce _).trans r1
            have r2 := (hce _).trans r2
            have HB6 := Lib.hid (show Below w4.heap.size w4 W6 by rw [hW6]; exact below_drewN HB5.out _)
            clear hlo hlk hW6 hce
            go_quiet (fail)
            obtain ⟨n2, rfl⟩ : ∃ n2, n2 = nq := ⟨_, rfl⟩
            go_wp2
            go_roundw
            case rel => exact ⟨k + 1, by omega, by go_num, below_drewN HB6.out _⟩
            case measure => simp [intOf]; omega
          | false =>
            rw [if_neg (by rw [hth]; decide)] at hsn
            injection hsn with e1 e2
            subst e1 e2
            rw [hth] at hlo
            clear hb5 hW5
            go_wp2
            rw [← HW5.out]
            clear t1 t3 q1 q2 x0 x1 x2 x3
            go_quiet (fail)
            obtain ⟨n1, rfl⟩ : ∃ n1, n1 = nq := ⟨_, rfl⟩
            go_wp2
            obtain ⟨W6, hW6⟩ : ∃ W6, W6 = W5.drewN n1 := ⟨_, rfl⟩
            have hlo6 : ∀ n, _ := fun n => hlo (n1 + n)
            simp only [← World.drewN_drewN, ← hW6] at hlo6
            rw [← hW6]
            have hce : ∀ a, W6.cell? a = W5.cell? a := fun a => by rw [hW6]; rfl
            have p1 := (hce _).trans p1
            have p3 := (hce _).trans p3
            have z2 := (hce _).trans z2
            have r1 := (hce _).trans r1
            have r2 := (hce _).trans r2
            have HB6 := Lib.hid (show Below w4.heap.size w4 W6 by rw [hW6]; exact below_drewN HB5.out _)
            clear hlo hlk hW6 hce
            go_quiet (fail)
            obtain ⟨n2, rfl⟩ : ∃ n2, n2 = nq := ⟨_, rfl⟩
            go_wp2_with fail
            obtain ⟨W7, hW7⟩ : ∃ W7, W7 = W6.drewN n2 := ⟨_, rfl⟩
            rw [← hW7]
            have hce : ∀ a, W7.cell? a = W6.cell? a := fun a => by rw [hW7]; rfl
            have p1 := (hce _).trans p1
            have z2 := (hce _).trans z2
            have r1 := (hce _).trans r1
            have r2 := (hce _).trans r2
            have HB7 := Lib.hid (show Below w4.heap.size w4 W7 by rw [hW7]; exact below_drewN HB6.out _)
            have hg7 : g < W7.heap.size := Nat.lt_of_lt_of_le hgl HB7.out.size
            have HVAL := Lib.hid (value_any A2 c2 (ghostL ac x ac.length).ds ay T.st k W7.drew (SeqAt.deals HD.out (below_drew HB7.out)) HAOK.out.1)
            obtain ⟨BD, hBD⟩ : ∃ BD, BD = bestD ay T.st k (ghostL ac x ac.length).ds := ⟨_, rfl⟩
            rw [← hBD] at HVAL r1 r2
            clear hW7 hce p3 hlo6 hBD
            have HSK := Lib.hid (show ∀ W, Below W7.heap.size W7 W → W.cell? ⟨b', o' + k * 4 + 1, none⟩ = some (.int .i64 T.st) ∧ W.cell? ⟨wr.heap.size, 2, none⟩ = some (.string ay) from fun W hW => ⟨(hW.cell (p := ⟨b', o' + k * 4 + 1, none⟩) (World.block_lt_of_cell? W7 _ p1)).trans p1, (hW.cell (p := ⟨wr.heap.size, 2, none⟩) (World.block_lt_of_cell? W7 _ z2)).trans z2⟩)
            refine wp_region_held_drew (S := fun W => W.cell? ⟨b', o' + k * 4 + 1, none⟩ = some (.int .i64 T.st) ∧ W.cell? ⟨wr.heap.size, 2, none⟩ = some (.string ay)) (by kernel_rfl) ?_ (fun hHeld => ?_)
            · exact ⟨p1, z2⟩
            (refine wpAnyH_take (i := 0) (oi := ?_) (v := ?_) ?_ (by kernel_rfl) ?_ ?_ ?_ ?_ (by assumption) ?_; rotate_left 2; (simp only [List.getElem?_toArray, List.getElem?_cons_zero]; rfl); kernel_rfl; kernel_rfl; exact fun _ _ _ h => h; (refine Or.inl ⟨by rfl, ?_⟩; intro w hSw; (try dsimp only at hSw); go_simp; (first | done | with_reducible rfl)); (try simp only [Act.put, List.setIfInBounds_toArray, List.set_cons_zero, List.set_cons_succ]))
            (first | (refine wpAnyH_take (i := 1) (oi := ?_) (v := ?_) ?_ (by kernel_rfl) ?_ ?_ ?_ ?_ (by assumption) ?_; rotate_left 2; (simp only [List.getElem?_toArray, List.getElem?_cons_zero, List.getElem?_cons_succ]; rfl); kernel_rfl; kernel_rfl; exact fun _ _ _ h => h; (refine Or.inl ⟨by rfl, ?_⟩; intro w hSw; (try dsimp only at hSw); go_simp; (first | done | with_reducible rfl)); (try simp only [Act.put, List.setIfInBounds_toArray, List.set_cons_zero, List.set_cons_succ])) | (refine wpAnyH_take (i := 1) (oi := ?_) (v := undef) ?_ (by kernel_rfl) ?_ ?_ ?_ ?_ (by assumption) ?_; rotate_left 1; (simp only [List.getElem?_toArray, List.getElem?_cons_zero, List.getElem?_cons_succ]; rfl); kernel_rfl; kernel_rfl; exact fun _ _ _ h => h; exact Or.inr ⟨by rfl, rfl⟩; (try simp only [Act.put, List.setIfInBounds_toArray, List.set_cons_zero, List.set_cons_succ])))
            (first | (refine wpAnyH_take (i := 2) (oi := ?_) (v := ?_) ?_ (by kernel_rfl) ?_ ?_ ?_ ?_ (by assumption) ?_; rotate_left 2; (simp only [List.getElem?_toArray, List.getElem?_cons_zero, List.getElem?_cons_succ]; rfl); kernel_rfl; kernel_rfl; exact fun _ _ _ h => h; (refine Or.inl ⟨by rfl, ?_⟩; intro w hSw; (try dsimp only at hSw); go_simp; (first | done | with_reducible rfl)); (try simp only [Act.put, List.setIfInBounds_toArray, List.set_cons_zero, List.set_cons_succ])) | (refine wpAnyH_take (i := 2) (oi := ?_) (v := undef) ?_ (by kernel_rfl) ?_ ?_ ?_ ?_ (by assumption) ?_; rotate_left 1; (simp only [List.getElem?_toArray, List.getElem?_cons_zero, List.getElem?_cons_succ]; rfl); kernel_rfl; kernel_rfl; exact fun _ _ _ h => h; exact Or.inr ⟨by rfl, rfl⟩; (try simp only [Act.put, List.setIfInBounds_toArray, List.set_cons_zero, List.set_cons_succ])))
            (first | (refine wpAnyH_take (i := 3) (oi := ?_) (v := ?_) ?_ (by kernel_rfl) ?_ ?_ ?_ ?_ (by assumption) ?_; rotate_left 2; (simp only [List.getElem?_toArray, List.getElem?_cons_zero, List.getElem?_cons_succ]; rfl); kernel_rfl; kernel_rfl; exact fun _ _ _ h => h; (refine Or.inl ⟨by rfl, ?_⟩; intro w hSw; (try dsimp only at hSw); go_simp; (first | done | with_reducible rfl)); (try simp only [Act.put, List.setIfInBounds_toArray, List.set_cons_zero, List.set_cons_succ])) | (refine wpAnyH_take (i := 3) (oi := ?_) (v := undef) ?_ (by kernel_rfl) ?_ ?_ ?_ ?_ (by assumption) ?_; rotate_left 1; (simp only [List.getElem?_toArray, List.getElem?_cons_zero, List.getElem?_cons_succ]; rfl); kernel_rfl; kernel_rfl; exact fun _ _ _ h => h; exact Or.inr ⟨by rfl, rfl⟩; (try simp only [Act.put, List.setIfInBounds_toArray, List.set_cons_zero, List.set_cons_succ])))
            (first | (refine wpAnyH_take (i := 4) (oi := ?_) (v := ?_) ?_ (by kernel_rfl) ?_ ?_ ?_ ?_ (by assumption) ?_; rotate_left 2; (simp only [List.getElem?_toArray, List.getElem?_cons_zero, List.getElem?_cons_succ]; rfl); kernel_rfl; kernel_rfl; exact fun _ _ _ h => h; (refine Or.inl ⟨by rfl, ?_⟩; intro w hSw; (try dsimp only at hSw); go_simp; (first | done | with_reducible rfl)); (try simp only [Act.put, List.setIfInBounds_toArray, List.set_cons_zero, List.set_cons_succ])) | (refine wpAnyH_take (i := 4) (oi := ?_) (v := undef) ?_ (by kernel_rfl) ?_ ?_ ?_ ?_ (by assumption) ?_; rotate_left 1; (simp only [List.getElem?_toArray, List.getElem?_cons_zero, List.getElem?_cons_succ]; rfl); kernel_rfl; kernel_rfl; exact fun _ _ _ h => h; exact Or.inr ⟨by rfl, rfl⟩; (try simp only [Act.put, List.setIfInBounds_toArray, List.set_cons_zero, List.set_cons_succ])))
            (first | (refine wpAnyH_take (i := 5) (oi := ?_) (v := ?_) ?_ (by kernel_rfl) ?_ ?_ ?_ ?_ (by assumption) ?_; rotate_left 2; (simp only [List.getElem?_toArray, List.getElem?_cons_zero, List.getElem?_cons_succ]; rfl); kernel_rfl; kernel_rfl; exact fun _ _ _ h => h; (refine Or.inl ⟨by rfl, ?_⟩; intro w hSw; (try dsimp only at hSw); go_simp; (first | done | with_reducible rfl)); (try simp only [Act.put, List.setIfInBounds_toArray, List.set_cons_zero, List.set_cons_succ])) | (refine wpAnyH_take (i := 5) (oi := ?_) (v := undef) ?_ (by kernel_rfl) ?_ ?_ ?_ ?_ (by assumption) ?_; rotate_left 1; (simp only [List.getElem?_toArray, List.getElem?_cons_zero, List.getElem?_cons_succ]; rfl); kernel_rfl; kernel_rfl; exact fun _ _ _ h => h; exact Or.inr ⟨by rfl, rfl⟩; (try simp only [Act.put, List.setIfInBounds_toArray, List.set_cons_zero, List.set_cons_succ])))
            (first | (refine wpAnyH_take (i := 6) (oi := ?_) (v := ?_) ?_ (by kernel_rfl) ?_ ?_ ?_ ?_ (by assumption) ?_; rotate_left 2; (simp only [List.getElem?_toArray, List.getElem?_cons_zero, List.getElem?_cons_succ]; rfl); kernel_rfl; kernel_rfl; exact fun _ _ _ h => h; (refine Or.inl ⟨by rfl, ?_⟩; intro w hSw; (try dsimp only at hSw); go_simp; (first | done | with_reducible rfl)); (try simp only [Act.put, List.setIfInBounds_toArray, List.set_cons_zero, List.set_cons_succ])) | (refine wpAnyH_take (i := 6) (oi := ?_) (v := undef) ?_ (by kernel_rfl) ?_ ?_ ?_ ?_ (by assumption) ?_; rotate_left 1; (simp only [List.getElem?_toArray, List.getElem?_cons_zero, List.getElem?_cons_succ]; rfl); kernel_rfl; kernel_rfl; exact fun _ _ _ h => h; exact Or.inr ⟨by rfl, rfl⟩; (try simp only [Act.put, List.setIfInBounds_toArray, List.set_cons_zero, List.set_cons_succ])))
            (first | (refine wpAnyH_take (i := 7) (oi := ?_) (v := ?_) ?_ (by kernel_rfl) ?_ ?_ ?_ ?_ (by assumption) ?_; rotate_left 2; (simp only [List.getElem?_toArray, List.getElem?_cons_zero, List.getElem?_cons_succ]; rfl); kernel_rfl; kernel_rfl; exact fun _ _ _ h => h; (refine Or.inl ⟨by rfl, ?_⟩; intro w hSw; (try dsimp only at hSw); go_simp; (first | done | with_reducible rfl)); (try simp only [Act.put, List.setIfInBounds_toArray, List.set_cons_zero, List.set_cons_succ])) | (refine wpAnyH_take (i := 7) (oi := ?_) (v := undef) ?_ (by kernel_rfl) ?_ ?_ ?_ ?_ (by assumption) ?_; rotate_left 1; (simp only [List.getElem?_toArray, List.getElem?_cons_zero, List.getElem?_cons_succ]; rfl); kernel_rfl; kernel_rfl; exact fun _ _ _ h => h; exact Or.inr ⟨by rfl, rfl⟩; (try simp only [Act.put, List.setIfInBounds_toArray, List.set_cons_zero, List.set_cons_succ])))
            (first | (refine wpAnyH_take (i := 8) (oi := ?_) (v := ?_) ?_ (by kernel_rfl) ?_ ?_ ?_ ?_ (by assumption) ?_; rotate_left 2; (simp only [List.getElem?_toArray, List.getElem?_cons_zero, List.getElem?_cons_succ]; rfl); kernel_rfl; kernel_rfl; exact fun _ _ _ h => h; (refine Or.inl ⟨by rfl, ?_⟩; intro w hSw; (try dsimp only at hSw); go_simp; (first | done | with_reducible rfl)); (try simp only [Act.put, List.setIfInBounds_toArray, List.set_cons_zero, List.set_cons_succ])) | (refine wpAnyH_take (i := 8) (oi := ?_) (v := undef) ?_ (by kernel_rfl) ?_ ?_ ?_ ?_ (by assumption) ?_; rotate_left 1; (simp only [List.getElem?_toArray, List.getElem?_cons_zero, List.getElem?_cons_succ]; rfl); kernel_rfl; kernel_rfl; exact fun _ _ _ h => h; exact Or.inr ⟨by rfl, rfl⟩; (try simp only [Act.put, List.setIfInBounds_toArray, List.set_cons_zero, List.set_cons_succ])))
            (refine wpAnyH_ready (rs := [9]) (by kernel_rfl) (by simp) ?_; refine AllReadyH.cons (o := ?_) ?_ (fun K hK => ?_) AllReadyH.nil; rotate_left 1; (simp only [List.getElem?_toArray, List.getElem?_cons_zero, List.getElem?_cons_succ]; rfl); go_simp)
            refine HVAL.out.mono ?_
            rintro e w8 ⟨rfl, hb8⟩
            have hb78 : Below W7.heap.size W7 w8 := below_next (below_drew (Below.refl _ _)) hb8
            have r1 := (hb8.cell (p := ⟨g, k * 5 + 1, none⟩) hg7).trans r1
            have r2 := (hb8.cell (p := ⟨g, k * 5 + 2, none⟩) hg7).trans r2
            have HB8 := Lib.hid (below_next HB7.out hb78)
            have HSK8 := Lib.hid (HSK.out w8 hb78)
            clear hb8 hb78 p1 z2
            clear hHeld
            (refine hK.out _ _ ?_ (fun hHeld => ?_); exact HSK8.out; clear hK K)
            (first | (refine wpAnyH_take (i := 10) (oi := ?_) (v := ?_) ?_ (by kernel_rfl) ?_ ?_ ?_ ?_ (by assumption) ?_; rotate_left 2; (simp only [List.getElem?_toArray, List.getElem?_cons_zero, List.getElem?_cons_succ]; rfl); kernel_rfl; kernel_rfl; exact fun _ _ _ h => h; (refine Or.inl ⟨by rfl, ?_⟩; intro w hSw; (try dsimp only at hSw); go_simp; (first | done | with_reducible rfl)); (try simp only [Act.put, List.setIfInBounds_toArray, List.set_cons_zero, List.set_cons_succ])) | (refine wpAnyH_take (i := 10) (oi := ?_) (v := undef) ?_ (by kernel_rfl) ?_ ?_ ?_ ?_ (by assumption) ?_; rotate_left 1; (simp only [List.getElem?_toArray, List.getElem?_cons_zero, List.getElem?_cons_succ]; rfl); kernel_rfl; kernel_rfl; exact fun _ _ _ h => h; exact Or.inr ⟨by rfl, rfl⟩; (try simp only [Act.put, List.setIfInBounds_toArray, List.set_cons_zero, List.set_cons_succ])))
            (first | (refine wpAnyH_take (i := 11) (oi := ?_) (v := ?_) ?_ (by kernel_rfl) ?_ ?_ ?_ ?_ (by assumption) ?_; rotate_left 2; (simp only [List.getElem?_toArray, List.getElem?_cons_zero, List.getElem?_cons_succ]; rfl); kernel_rfl; kernel_rfl; exact fun _ _ _ h => h; (refine Or.inl ⟨by rfl, ?_⟩; intro w hSw; (try dsimp only at hSw); go_simp; (first | done | with_reducible rfl)); (try simp only [Act.put, List.setIfInBounds_toArray, List.set_cons_zero, List.set_cons_succ])) | (refine wpAnyH_take (i := 11) (oi := ?_) (v := undef) ?_ (by kernel_rfl) ?_ ?_ ?_ ?_ (by assumption) ?_; rotate_left 1; (simp only [List.getElem?_toArray, List.getElem?_cons_zero, List.getElem?_cons_succ]; rfl); kernel_rfl; kernel_rfl; exact fun _ _ _ h => h; exact Or.inr ⟨by rfl, rfl⟩; (try simp only [Act.put, List.setIfInBounds_toArray, List.set_cons_zero, List.set_cons_succ])))
            (first | (refine wpAnyH_take (i := 12) (oi := ?_) (v := ?_) ?_ (by kernel_rfl) ?_ ?_ ?_ ?_ (by assumption) ?_; rotate_left 2; (simp only [List.getElem?_toArray, List.getElem?_cons_zero, List.getElem?_cons_succ]; rfl); kernel_rfl; kernel_rfl; exact fun _ _ _ h => h; (refine Or.inl ⟨by rfl, ?_⟩; intro w hSw; (try dsimp only at hSw); go_simp; (first | done | with_reducible rfl)); (try simp only [Act.put, List.setIfInBounds_toArray, List.set_cons_zero, List.set_cons_succ])) | (refine wpAnyH_take (i := 12) (oi := ?_) (v := undef) ?_ (by kernel_rfl) ?_ ?_ ?_ ?_ (by assumption) ?_; rotate_left 1; (simp only [List.getElem?_toArray, List.getElem?_cons_zero, List.getElem?_cons_succ]; rfl); kernel_rfl; kernel_rfl; exact fun _ _ _ h => h; exact Or.inr ⟨by rfl, rfl⟩; (try simp only [Act.put, List.setIfInBounds_toArray, List.set_cons_zero, List.set_cons_succ])))
            (first | (refine wpAnyH_take (i := 13) (oi := ?_) (v := ?_) ?_ (by kernel_rfl) ?_ ?_ ?_ ?_ (by assumption) ?_; rotate_left 2; (simp only [List.getElem?_toArray, List.getElem?_cons_zero, List.getElem?_cons_succ]; rfl); kernel_rfl; kernel_rfl; exact fun _ _ _ h => h; (refine Or.inl ⟨by rfl, ?_⟩; intro w hSw; (try dsimp only at hSw); go_simp; (first | done | with_reducible rfl)); (try simp only [Act.put, List.setIfInBounds_toArray, List.set_cons_zero, List.set_cons_succ])) | (refine wpAnyH_take (i := 13) (oi := ?_) (v := undef) ?_ (by kernel_rfl) ?_ ?_ ?_ ?_ (by assumption) ?_; rotate_left 1; (simp only [List.getElem?_toArray, List.getElem?_cons_zero, List.getElem?_cons_succ]; rfl); kernel_rfl; kernel_rfl; exact fun _ _ _ h => h; exact Or.inr ⟨by rfl, rfl⟩; (try simp only [Act.put, List.setIfInBounds_toArray, List.set_cons_zero, List.set_cons_succ])))
            (first | (refine wpAnyH_take (i := 14) (oi := ?_) (v := ?_) ?_ (by kernel_rfl) ?_ ?_ ?_ ?_ (by assumption) ?_; rotate_left 2; (simp only [List.getElem?_toArray, List.getElem?_cons_zero, List.getElem?_cons_succ]; rfl); kernel_rfl; kernel_rfl; exact fun _ _ _ h => h; (refine Or.inl ⟨by rfl, ?_⟩; intro w hSw; (try dsimp only at hSw); go_simp; (first | done | with_reducible rfl)); (try simp only [Act.put, List.setIfInBounds_toArray, List.set_cons_zero, List.set_cons_succ])) | (refine wpAnyH_take (i := 14) (oi := ?_) (v := undef) ?_ (by kernel_rfl) ?_ ?_ ?_ ?_ (by assumption) ?_; rotate_left 1; (simp only [List.getElem?_toArray, List.getElem?_cons_zero, List.getElem?_cons_succ]; rfl); kernel_rfl; kernel_rfl; exact fun _ _ _ h => h; exact Or.inr ⟨by rfl, rfl⟩; (try simp only [Act.put, List.setIfInBounds_toArray, List.set_cons_zero, List.set_cons_succ])))
            refine wpAnyH_done (by kernel_rfl) ?_ _
            clear hHeld
            go_wp2
            go_roundw
            case rel => exact ⟨k + 1, by omega, by go_num, HB8.out⟩
            case measure => simp [intOf]; omega
        · have d0 : (yc != 0) = true := by simpa using hyc
          go_wp2
          go_roundw
          case rel => exact ⟨k + 1, by omega, by go_num, below_alloc HB.out _⟩
          case measure => simp [intOf]; omega
      · have d2 : (ak != 2) = true := by simpa using h2
        go_wp2
        go_roundw
        case rel => exact ⟨k + 1, by omega, by go_num, below_alloc HB.out _⟩
        case measure => simp [intOf]; omega
    · have hke : k = ac.length := by omega
      subst hke
      have HB := Lib.hid hb
      clear hb
      go_wp2
      go_ret
      exact ⟨rfl, below_next (below_next HB3.out HB4.out) HB.out⟩
end Go.Proofs.YtambkjnhfejfaabDoor
