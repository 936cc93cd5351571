/-
  The walk of rickyardkeep.LocksHold: it returns true and turns no old memory. Conditions: the raw numbers lie in memory.
-/
import Derived.Test.YtambkjnhfejfaabDoorG32
import Derived.Test.YtambkjnhfejfaabDoorG26
namespace Go.Proofs.YtambkjnhfejfaabDoor
open Go.RowKit

theorem int_new (w : World) (a : Int) : ∃ W, W = w.alloc (.cells #[.int .i64 a] 3) ∧ Below w.heap.size w W ∧ W.cell? ⟨w.heap.size, 0, none⟩ = some (.int .i64 a) ∧ W.heap.size = w.heap.size + 1 :=
  ⟨_, rfl, below_alloc (Below.refl _ _) _, by simp, by simp⟩
theorem cell_next {w w' : World} {g o : Nat} {v : Value} (h : w.cell? ⟨g, o, none⟩ = some v) (hb : Below w.heap.size w w') : w'.cell? ⟨g, o, none⟩ = some v :=
  (hb.cell (p := ⟨g, o, none⟩) (World.block_lt_of_cell? w _ h)).trans h
set_option maxRecDepth 100000 in
set_option maxHeartbeats 2000000 in
theorem locksHold_walk (w : World) (l : List RawM) (A : Option Addr) (q : Nat) (hr : RawsAt w (· < w.heap.size) A l) (n : Int) (hn : i64 n) (m : Int) (hm : i64 m) :
    Calls Tryd.prog 4 #[.slice A l.length q, .int .i64 n, .int .i64 m] w fun e w' => e = .returned (.bool true) ∧ Below w.heap.size w w' := by
  have HR := Lib.hid (kRow_any A q l w hr)
  have hk := rowsM_keep l (min l.length 40)
  obtain ⟨r, hrd⟩ : ∃ r, r = rowsM l (min l.length 40) := ⟨_, rfl⟩
  rw [← hrd] at HR hk
  obtain ⟨b0, b1⟩ := pick_bd n (show (0 : Int) < 60 by decide)
  obtain ⟨b2, b3⟩ := pick_bd m (show (0 : Int) < 50 by decide)
  have HP := Lib.hid (fun W => picked_any n 60 W hn (by decide) (by decide))
  have HQ := Lib.hid (fun W => picked_any m 50 W hm (by decide) (by decide))
  obtain ⟨p, hp⟩ : ∃ p, p = pickM n 60 := ⟨_, rfl⟩
  obtain ⟨t, ht⟩ : ∃ t, t = pickM m 50 := ⟨_, rfl⟩
  rw [← hp] at b0 b1 HP
  rw [← ht] at b2 b3 HQ
  have hs : inB (1 + p) 1 1099511627776 = true := inB_true.2 ⟨by omega, by omega⟩
  have hs5 : inB (1 + p + 5) 1 1099511627776 = true := inB_true.2 ⟨by omega, by omega⟩
  have h40 : min l.length 40 ≤ 40 := by omega
  have HK := Lib.hid hk
  clear hrd hr hk hp ht
  go_enter Tryd.func4, Tryd.ntmps4
  go_wp2_with fail
  refine HR.out.mono ?_
  rintro e w1 ⟨B, c, rfl, hin, hb1⟩
  obtain ⟨W0, hW, k0, k1, k2, k3, k4, hbW, hsW⟩ := box_new w1 (.string r.key) (.int .i64 r.ls) (.string r.lp) (.string r.val) (.slice B r.recs.length c) 27
  have HW := Lib.hid hW
  have HI0 := Lib.hid (hin.upto hbW)
  have HB0 := Lib.hid (below_next hb1 hbW)
  clear hW hin hb1 hbW hsW
  go_wp2_with fail
  rw [← HW.out]
  refine (HP.out _).mono ?_
  rintro e w2 ⟨rfl, rfl⟩
  obtain ⟨W1, hW1, hbW1, s0, hsW1⟩ := int_new w2 (1 + p)
  have HW1 := Lib.hid hW1
  have HI := Lib.hid (HI0.out.upto hbW1)
  have HB1 := Lib.hid (below_next HB0.out hbW1)
  have hlt0 : w1.heap.size < w2.heap.size := World.block_lt_of_cell? w2 _ k0
  obtain ⟨l0, l1, l2, l3, l4, _⟩ := boxS k0 k1 k2 k3 k4 hbW1
  obtain ⟨a, ec, hx⟩ : ∃ a ec, lockOp (1 + p) ⟨#[98]⟩ ⟨#[109, 105, 110, 101]⟩ r = (a, ec) := ⟨_, _, rfl⟩
  have HU := Lib.hid (lockFn_op r B r.recs.length c (1 + p) ⟨#[98]⟩ ⟨#[109, 105, 110, 101]⟩ W1 HI.out (by decide) (by decide))
  rw [hx] at HU
  clear hW1 hbW1 hsW1 HI0
  go_wp2_with fail
  rw [← HW1.out]
  refine HU.out.mono ?_
  rintro e w3 ⟨B3, c3, rfl, hrec, hnc, hb3⟩
  clear k0 k1 k2 k3 k4
  obtain ⟨g0, g1, g2, g3, g4, _⟩ := boxS l0 l1 l2 l3 l4 hb3
  have s1 := cell_next s0 hb3
  have HI3 := Lib.hid (HI.out.upto hb3)
  have HB3 := Lib.hid (below_next HB1.out hb3)
  have hlt3 : w1.heap.size < w3.heap.size := World.block_lt_of_cell? w3 _ g0
  have hlts : w2.heap.size < w3.heap.size := World.block_lt_of_cell? w3 _ s1
  obtain ⟨W4, hW4, a0, a1, a2, a3, a4, hbW4, hsW4⟩ := box_new w3 (.string a.key) (.int .i64 a.ls) (.string a.lp) (.string a.val) (.slice B3 a.recs.length c3) 27
  have HW4 := Lib.hid hW4
  have HI4 := Lib.hid (HI3.out.upto hbW4)
  have HB4 := Lib.hid (below_next HB3.out hbW4)
  obtain ⟨m0, m1, m2, m3, m4, _⟩ := boxS g0 g1 g2 g3 g4 hbW4
  have s4 := cell_next s1 hbW4
  clear hlt0 l0 l1 l2 l3 l4 s0
  by_cases he : ec = 0
  · subst he
    obtain ⟨a', b, d, z1, z2, z3, z4, z5, z6, z7, z8, z9, z10, z11, z12⟩ := lock_holds (pk := ⟨#[98]⟩) (pv := ⟨#[109, 105, 110, 101]⟩) (po := ⟨#[111, 116, 104, 101, 114]⟩) (s := 1 + p) (p := t) HK.out (by omega) (by decide +kernel) (by decide) b2 b3 (by rw [hx])
    have haa : a' = a := by rw [hx] at z1; exact (congrArg Prod.fst z1).symm
    subst haa
    have hsz : RowOk a' := by
      have := lockOp_ok (st := 1 + p) (pk := ⟨#[98]⟩) (pv := ⟨#[109, 105, 110, 101]⟩) HK.out.sz (by unfold i64; omega) (by decide) (by decide) (by rw [hx])
      rw [hx] at this; exact this
    have hszb : RowOk b := by have := commitOp_ok (st := 1 + p) (cm := 1 + p + 5) hsz (by rw [z5]); rw [z5] at this; exact this
    have hszd : RowOk d := by have := undoOp_ok (st := 1 + p) hsz (by rw [z7]); rw [z7] at this; exact this
    have HIA := Lib.hid (show OpIn W4 a' B3 a'.recs.length c3 from ⟨⟨rfl, hrec.upto hbW4, hsz.k, hsz.p, hsz.v⟩, hnc.2⟩)
    have HF := Lib.hid (fun W (hb : Below W4.heap.size W4 W) => lockFn_op a' B3 a'.recs.length c3 (100 + t) ⟨#[98]⟩ ⟨#[111, 116, 104, 101, 114]⟩ W (HIA.out.upto hb) (by decide) (by decide))
    rw [z3] at HF
    have HF := Lib.hid (show ∀ W, Below W4.heap.size W4 W → Calls Tryd.prog 19 #[rV a' B3 a'.recs.length c3, .int .i64 (100 + t), .string ⟨#[98]⟩, .string ⟨#[111, 116, 104, 101, 114]⟩] W (RowOut2 ⟨#[]⟩ 0 ⟨#[]⟩ ⟨#[]⟩ [] 7 W) from HF.out)
    have HSB := Lib.hid hszb
    have HSD := Lib.hid hszd
    have HZ := Lib.hid (And.intro z2 (And.intro z4 (And.intro z5 (And.intro z6 (And.intro z7 (And.intro z8 (And.intro z9 (And.intro z10 (And.intro z11 z12)))))))))
    clear z1 z2 z3 z4 z5 z6 z7 z8 z9 z10 z11 z12 hsz hszb hszd hx HU hrec hnc hb3 hW4 hbW4 hsW4
    go_wp2_with fail
    rw [← HW4.out]
    have hg4 : w3.heap.size < W4.heap.size := World.block_lt_of_cell? W4 _ a0
    have hsum : IntKind.i64.wrap (100 + t) = 100 + t := IntWalk.i64_in _ (by omega)
    have HSK := Lib.hid (show ∀ W, Below W4.heap.size W4 W → W.cell? ⟨w3.heap.size, 0, none⟩ = some (.string a'.key) ∧ W.cell? ⟨w3.heap.size, 1, none⟩ = some (.int .i64 a'.ls) ∧ W.cell? ⟨w3.heap.size, 2, none⟩ = some (.string a'.lp) ∧ W.cell? ⟨w3.heap.size, 3, none⟩ = some (.string a'.val) ∧ W.cell? ⟨w3.heap.size, 4, none⟩ = some (.slice B3 a'.recs.length c3) from fun W hb => ⟨(hb.cell (p := ⟨w3.heap.size, 0, none⟩) hg4).trans a0, (hb.cell (p := ⟨w3.heap.size, 1, none⟩) hg4).trans a1, (hb.cell (p := ⟨w3.heap.size, 2, none⟩) hg4).trans a2, (hb.cell (p := ⟨w3.heap.size, 3, none⟩) hg4).trans a3, (hb.cell (p := ⟨w3.heap.size, 4, none⟩) hg4).trans a4⟩)
    go_cut [16] (fun s16 wx => s16 = .int .i64 7 ∧ Below W4.heap.size W4 wx)
    case first =>
      refine wp_region_held_drew (S := fun W => W.cell? ⟨w3.heap.size, 0, none⟩ = some (.string a'.key) ∧ W.cell? ⟨w3.heap.size, 1, none⟩ = some (.int .i64 a'.ls) ∧ W.cell? ⟨w3.heap.size, 2, none⟩ = some (.string a'.lp) ∧ W.cell? ⟨w3.heap.size, 3, none⟩ = some (.string a'.val) ∧ W.cell? ⟨w3.heap.size, 4, none⟩ = some (.slice B3 a'.recs.length c3)) (by kernel_rfl) ?_ (fun hHeld => ?_)
      · exact ⟨a0, a1, a2, a3, a4⟩
      (refine wpAnyH_take (i := 0) (oi := ?_) (v := ?_) ?_ (by kernel_rfl) ?_ ?_ ?_ ?_ (by assumption) ?_; rotate_left 2; (simp only [List.getElem?_toArray, List.getElem?_cons_zero]; rfl); kernel_rfl; kernel_rfl; exact fun _ _ _ h => h; (refine Or.inl ⟨by rfl, ?_⟩; intro w hSw; (try dsimp only at hSw); go_simp; (first | done | with_reducible rfl)); (try simp only [Act.put, List.setIfInBounds_toArray, List.set_cons_zero, List.set_cons_succ]))
      (first | (refine wpAnyH_take (i := 1) (oi := ?_) (v := ?_) ?_ (by kernel_rfl) ?_ ?_ ?_ ?_ (by assumption) ?_; rotate_left 2; (simp only [List.getElem?_toArray, List.getElem?_cons_zero, List.getElem?_cons_succ]; rfl); kernel_rfl; kernel_rfl; exact fun _ _ _ h => h; (refine Or.inl ⟨by rfl, ?_⟩; intro w hSw; (try dsimp only at hSw); go_simp; (first | done | with_reducible rfl)); (try simp only [Act.put, List.setIfInBounds_toArray, List.set_cons_zero, List.set_cons_succ])) | (refine wpAnyH_take (i := 1) (oi := ?_) (v := undef) ?_ (by kernel_rfl) ?_ ?_ ?_ ?_ (by assumption) ?_; rotate_left 1; (simp only [List.getElem?_toArray, List.getElem?_cons_zero, List.getElem?_cons_succ]; rfl); kernel_rfl; kernel_rfl; exact fun _ _ _ h => h; exact Or.inr ⟨by rfl, rfl⟩; (try simp only [Act.put, List.setIfInBounds_toArray, List.set_cons_zero, List.set_cons_succ])))
      refine wpAnyH_ready (rs := [2, 8]) (by kernel_rfl) (by simp) ?_
      refine AllReadyH.cons (o := ?_) ?_ (fun K hK => ?_) ?_
      rotate_left 1
      · (simp only [List.getElem?_toArray, List.getElem?_cons_zero, List.getElem?_cons_succ]; rfl)
      · go_simp
        refine (HQ.out _).mono ?_
        rintro e w' ⟨rfl, hw⟩
        rw [hw]
        clear hw w'
        clear hHeld
        (refine hK.out _ _ ?_ (fun hHeld => ?_); exact HSK.out _ (below_drew (Below.refl _ _)); clear hK K)
        (first | (refine wpAnyH_take (i := 3) (oi := ?_) (v := ?_) ?_ (by kernel_rfl) ?_ ?_ ?_ ?_ (by assumption) ?_; rotate_left 2; (simp only [List.getElem?_toArray, List.getElem?_cons_zero, List.getElem?_cons_succ]; rfl); kernel_rfl; kernel_rfl; exact fun _ _ _ h => h; (refine Or.inl ⟨by rfl, ?_⟩; intro w hSw; (try dsimp only at hSw); go_simp; (first | done | with_reducible rfl)); (try simp only [Act.put, List.setIfInBounds_toArray, List.set_cons_zero, List.set_cons_succ])) | (refine wpAnyH_take (i := 3) (oi := ?_) (v := undef) ?_ (by kernel_rfl) ?_ ?_ ?_ ?_ (by assumption) ?_; rotate_left 1; (simp only [List.getElem?_toArray, List.getElem?_cons_zero, List.getElem?_cons_succ]; rfl); kernel_rfl; kernel_rfl; exact fun _ _ _ h => h; exact Or.inr ⟨by rfl, rfl⟩; (try simp only [Act.put, List.setIfInBounds_toArray, List.set_cons_zero, List.set_cons_succ])))
        refine wpAnyH_ready (rs := [4, 8]) (by kernel_rfl) (by simp) ?_
        refine AllReadyH.cons (o := ?_) ?_ (fun K hK => ?_) ?_
        rotate_left 1
        · (simp only [List.getElem?_toArray, List.getElem?_cons_zero, List.getElem?_cons_succ]; rfl)
        · go_simp
          refine (HF.out _ (below_drew (Below.refl _ _))).mono ?_
          rintro e w5 ⟨B5, c5, rfl, _, _, hb5⟩
          have HB5 := Lib.hid (show Below W4.heap.size W4 w5 from below_next (below_drew (Below.refl _ _)) hb5)
          clear hb5
          clear hHeld
          (refine hK.out _ _ ?_ (fun hHeld => ?_); exact HSK.out _ HB5.out; clear hK K)
          (first | (refine wpAnyH_take (i := 5) (oi := ?_) (v := ?_) ?_ (by kernel_rfl) ?_ ?_ ?_ ?_ (by assumption) ?_; rotate_left 2; (simp only [List.getElem?_toArray, List.getElem?_cons_zero, List.getElem?_cons_succ]; rfl); kernel_rfl; kernel_rfl; exact fun _ _ _ h => h; (refine Or.inl ⟨by rfl, ?_⟩; intro w hSw; (try dsimp only at hSw); go_simp; (first | done | with_reducible rfl)); (try simp only [Act.put, List.setIfInBounds_toArray, List.set_cons_zero, List.set_cons_succ])) | (refine wpAnyH_take (i := 5) (oi := ?_) (v := undef) ?_ (by kernel_rfl) ?_ ?_ ?_ ?_ (by assumption) ?_; rotate_left 1; (simp only [List.getElem?_toArray, List.getElem?_cons_zero, List.getElem?_cons_succ]; rfl); kernel_rfl; kernel_rfl; exact fun _ _ _ h => h; exact Or.inr ⟨by rfl, rfl⟩; (try simp only [Act.put, List.setIfInBounds_toArray, List.set_cons_zero, List.set_cons_succ])))
          (first | (refine wpAnyH_take (i := 6) (oi := ?_) (v := ?_) ?_ (by kernel_rfl) ?_ ?_ ?_ ?_ (by assumption) ?_; rotate_left 2; (simp only [List.getElem?_toArray, List.getElem?_cons_zero, List.getElem?_cons_succ]; rfl); kernel_rfl; kernel_rfl; exact fun _ _ _ h => h; (refine Or.inl ⟨by rfl, ?_⟩; intro w hSw; (try dsimp only at hSw); go_simp; (first | done | with_reducible rfl)); (try simp only [Act.put, List.setIfInBounds_toArray, List.set_cons_zero, List.set_cons_succ])) | (refine wpAnyH_take (i := 6) (oi := ?_) (v := undef) ?_ (by kernel_rfl) ?_ ?_ ?_ ?_ (by assumption) ?_; rotate_left 1; (simp only [List.getElem?_toArray, List.getElem?_cons_zero, List.getElem?_cons_succ]; rfl); kernel_rfl; kernel_rfl; exact fun _ _ _ h => h; exact Or.inr ⟨by rfl, rfl⟩; (try simp only [Act.put, List.setIfInBounds_toArray, List.set_cons_zero, List.set_cons_succ])))
          (first | (refine wpAnyH_take (i := 7) (oi := ?_) (v := ?_) ?_ (by kernel_rfl) ?_ ?_ ?_ ?_ (by assumption) ?_; rotate_left 2; (simp only [List.getElem?_toArray, List.getElem?_cons_zero, List.getElem?_cons_succ]; rfl); kernel_rfl; kernel_rfl; exact fun _ _ _ h => h; (refine Or.inl ⟨by rfl, ?_⟩; intro w hSw; (try dsimp only at hSw); go_simp; (first | done | with_reducible rfl)); (try simp only [Act.put, List.setIfInBounds_toArray, List.set_cons_zero, List.set_cons_succ])) | (refine wpAnyH_take (i := 7) (oi := ?_) (v := undef) ?_ (by kernel_rfl) ?_ ?_ ?_ ?_ (by assumption) ?_; rotate_left 1; (simp only [List.getElem?_toArray, List.getElem?_cons_zero, List.getElem?_cons_succ]; rfl); kernel_rfl; kernel_rfl; exact fun _ _ _ h => h; exact Or.inr ⟨by rfl, rfl⟩; (try simp only [Act.put, List.setIfInBounds_toArray, List.set_cons_zero, List.set_cons_succ])))
          (refine wpAnyH_ready (rs := [8]) (by kernel_rfl) (by simp) ?_; refine AllReadyH.cons (o := ?_) ?_ (fun K hK => ?_) AllReadyH.nil; rotate_left 1; (simp only [List.getElem?_toArray, List.getElem?_cons_zero, List.getElem?_cons_succ]; rfl); go_simp)
          clear hHeld
          (refine hK.out _ _ ?_ (fun hHeld => ?_); exact HSK.out _ (below_alloc HB5.out _); clear hK K)
          (refine wpAnyH_ready (rs := [9]) (by kernel_rfl) (by simp) ?_; refine AllReadyH.cons (o := ?_) ?_ (fun K hK => ?_) AllReadyH.nil; rotate_left 1; (simp only [List.getElem?_toArray, List.getElem?_cons_zero, List.getElem?_cons_succ]; rfl); go_simp)
          clear hHeld
          (refine hK.out _ _ ?_ (fun hHeld => ?_); exact HSK.out _ (below_alloc HB5.out _); clear hK K)
          (first | (refine wpAnyH_take (i := 10) (oi := ?_) (v := ?_) ?_ (by kernel_rfl) ?_ ?_ ?_ ?_ (by assumption) ?_; rotate_left 2; (simp only [List.getElem?_toArray, List.getElem?_cons_zero, List.getElem?_cons_succ]; rfl); kernel_rfl; kernel_rfl; exact fun _ _ _ h => h; (refine Or.inl ⟨by rfl, ?_⟩; intro w hSw; (try dsimp only at hSw); go_simp; (first | done | with_reducible rfl)); (try simp only [Act.put, List.setIfInBounds_toArray, List.set_cons_zero, List.set_cons_succ])) | (refine wpAnyH_take (i := 10) (oi := ?_) (v := undef) ?_ (by kernel_rfl) ?_ ?_ ?_ ?_ (by assumption) ?_; rotate_left 1; (simp only [List.getElem?_toArray, List.getElem?_cons_zero, List.getElem?_cons_succ]; rfl); kernel_rfl; kernel_rfl; exact fun _ _ _ h => h; exact Or.inr ⟨by rfl, rfl⟩; (try simp only [Act.put, List.setIfInBounds_toArray, List.set_cons_zero, List.set_cons_succ])))
          refine wpAnyH_done (by kernel_rfl) ?_ _
          clear hHeld
          go_wp2_with fail
          go_meet
          exact ⟨rfl, below_alloc HB5.out _⟩

        · refine AllReadyH.cons (o := ?_) ?_ (fun K hK => ?_) AllReadyH.nil
          rotate_left 1
          · (simp only [List.getElem?_toArray, List.getElem?_cons_zero, List.getElem?_cons_succ]; rfl)
          · go_simp
            clear hHeld
            (refine hK.out _ _ ?_ (fun hHeld => ?_); exact HSK.out _ (below_alloc (below_drew (Below.refl _ _)) _); clear hK K)
            (refine wpAnyH_ready (rs := [4]) (by kernel_rfl) (by simp) ?_; refine AllReadyH.cons (o := ?_) ?_ (fun K hK => ?_) AllReadyH.nil; rotate_left 1; (simp only [List.getElem?_toArray, List.getElem?_cons_zero, List.getElem?_cons_succ]; rfl); go_simp)
            refine (HF.out _ (below_alloc (below_drew (Below.refl _ _)) _)).mono ?_
            rintro e w5 ⟨B5, c5, rfl, _, _, hb5⟩
            have HB5 := Lib.hid (show Below W4.heap.size W4 w5 from below_next (below_alloc (below_drew (Below.refl _ _)) _) hb5)
            have hbx := (RowBox.new W4.drew ⟨⟨#[]⟩, 0, ⟨#[]⟩, ⟨#[]⟩, []⟩ none 0 0).upto hb5 (by simp)
            have HBX := Lib.hid hbx
            have y0 : w5.cell? ⟨W4.heap.size, 0, none⟩ = some (.string ⟨#[]⟩) := hbx.k
            have y1 : w5.cell? ⟨W4.heap.size, 1, none⟩ = some (.int .i64 0) := hbx.s
            have y2 : w5.cell? ⟨W4.heap.size, 2, none⟩ = some (.string ⟨#[]⟩) := hbx.p
            have y3 : w5.cell? ⟨W4.heap.size, 3, none⟩ = some (.string ⟨#[]⟩) := hbx.v
            have y4 : w5.cell? ⟨W4.heap.size, 4, none⟩ = some (.slice none 0 0) := hbx.l
            have f0 : w5.frozen? ⟨W4.heap.size, 0, none⟩ = false := hbx.f 0
            have f1 : w5.frozen? ⟨W4.heap.size, 1, none⟩ = false := hbx.f 1
            have f2 : w5.frozen? ⟨W4.heap.size, 2, none⟩ = false := hbx.f 2
            have f3 : w5.frozen? ⟨W4.heap.size, 3, none⟩ = false := hbx.f 3
            have f4 : w5.frozen? ⟨W4.heap.size, 4, none⟩ = false := hbx.f 4
            clear hbx
            clear hb5
            clear hHeld
            (refine hK.out _ _ ?_ (fun hHeld => ?_); exact HSK.out _ HB5.out; clear hK K)
            (first | (refine wpAnyH_take (i := 5) (oi := ?_) (v := ?_) ?_ (by kernel_rfl) ?_ ?_ ?_ ?_ (by assumption) ?_; rotate_left 2; (simp only [List.getElem?_toArray, List.getElem?_cons_zero, List.getElem?_cons_succ]; rfl); kernel_rfl; kernel_rfl; exact fun _ _ _ h => h; (refine Or.inl ⟨by rfl, ?_⟩; intro w hSw; (try dsimp only at hSw); go_simp; (first | done | with_reducible rfl)); (try simp only [Act.put, List.setIfInBounds_toArray, List.set_cons_zero, List.set_cons_succ])) | (refine wpAnyH_take (i := 5) (oi := ?_) (v := undef) ?_ (by kernel_rfl) ?_ ?_ ?_ ?_ (by assumption) ?_; rotate_left 1; (simp only [List.getElem?_toArray, List.getElem?_cons_zero, List.getElem?_cons_succ]; rfl); kernel_rfl; kernel_rfl; exact fun _ _ _ h => h; exact Or.inr ⟨by rfl, rfl⟩; (try simp only [Act.put, List.setIfInBounds_toArray, List.set_cons_zero, List.set_cons_succ])))
            (first | (refine wpAnyH_take (i := 6) (oi := ?_) (v := ?_) ?_ (by kernel_rfl) ?_ ?_ ?_ ?_ (by assumption) ?_; rotate_left 2; (simp only [List.getElem?_toArray, List.getElem?_cons_zero, List.getElem?_cons_succ]; rfl); kernel_rfl; kernel_rfl; exact fun _ _ _ h => h; (refine Or.inl ⟨by rfl, ?_⟩; intro w hSw; (try dsimp only at hSw); go_simp; (first | done | with_reducible rfl)); (try simp only [Act.put, List.setIfInBounds_toArray, List.set_cons_zero, List.set_cons_succ])) | (refine wpAnyH_take (i := 6) (oi := ?_) (v := undef) ?_ (by kernel_rfl) ?_ ?_ ?_ ?_ (by assumption) ?_; rotate_left 1; (simp only [List.getElem?_toArray, List.getElem?_cons_zero, List.getElem?_cons_succ]; rfl); kernel_rfl; kernel_rfl; exact fun _ _ _ h => h; exact Or.inr ⟨by rfl, rfl⟩; (try simp only [Act.put, List.setIfInBounds_toArray, List.set_cons_zero, List.set_cons_succ])))
            (first | (refine wpAnyH_take (i := 7) (oi := ?_) (v := ?_) ?_ (by kernel_rfl) ?_ ?_ ?_ ?_ (by assumption) ?_; rotate_left 2; (simp only [List.getElem?_toArray, List.getElem?_cons_zero, List.getElem?_cons_succ]; rfl); kernel_rfl; kernel_rfl; exact fun _ _ _ h => h; (refine Or.inl ⟨by rfl, ?_⟩; intro w hSw; (try dsimp only at hSw); go_simp; (first | done | with_reducible rfl)); (try simp only [Act.put, List.setIfInBounds_toArray, List.set_cons_zero, List.set_cons_succ])) | (refine wpAnyH_take (i := 7) (oi := ?_) (v := undef) ?_ (by kernel_rfl) ?_ ?_ ?_ ?_ (by assumption) ?_; rotate_left 1; (simp only [List.getElem?_toArray, List.getElem?_cons_zero, List.getElem?_cons_succ]; rfl); kernel_rfl; kernel_rfl; exact fun _ _ _ h => h; exact Or.inr ⟨by rfl, rfl⟩; (try simp only [Act.put, List.setIfInBounds_toArray, List.set_cons_zero, List.set_cons_succ])))
            (refine wpAnyH_ready (rs := [9]) (by kernel_rfl) (by simp) ?_; refine AllReadyH.cons (o := ?_) ?_ (fun K hK => ?_) AllReadyH.nil; rotate_left 1; (simp only [List.getElem?_toArray, List.getElem?_cons_zero, List.getElem?_cons_succ]; rfl); go_simp)
            clear hHeld
            (refine hK.out _ _ ?_ (fun hHeld => ?_); exact HSK.out _ (below_set5 HB5.out (Nat.le_refl _) 0 _ _ _ _ _); clear hK K)
            (first | (refine wpAnyH_take (i := 10) (oi := ?_) (v := ?_) ?_ (by kernel_rfl) ?_ ?_ ?_ ?_ (by assumption) ?_; rotate_left 2; (simp only [List.getElem?_toArray, List.getElem?_cons_zero, List.getElem?_cons_succ]; rfl); kernel_rfl; kernel_rfl; exact fun _ _ _ h => h; (refine Or.inl ⟨by rfl, ?_⟩; intro w hSw; (try dsimp only at hSw); go_simp; (first | done | with_reducible rfl)); (try simp only [Act.put, List.setIfInBounds_toArray, List.set_cons_zero, List.set_cons_succ])) | (refine wpAnyH_take (i := 10) (oi := ?_) (v := undef) ?_ (by kernel_rfl) ?_ ?_ ?_ ?_ (by assumption) ?_; rotate_left 1; (simp only [List.getElem?_toArray, List.getElem?_cons_zero, List.getElem?_cons_succ]; rfl); kernel_rfl; kernel_rfl; exact fun _ _ _ h => h; exact Or.inr ⟨by rfl, rfl⟩; (try simp only [Act.put, List.setIfInBounds_toArray, List.set_cons_zero, List.set_cons_succ])))
            refine wpAnyH_done (by kernel_rfl) ?_ _
            clear hHeld
            go_wp2_with fail
            go_meet
            exact ⟨rfl, below_set5 HB5.out (Nat.le_refl _) 0 _ _ _ _ _⟩

      · refine AllReadyH.cons (o := ?_) ?_ (fun K hK => ?_) AllReadyH.nil
        rotate_left 1
        · (simp only [List.getElem?_toArray, List.getElem?_cons_zero, List.getElem?_cons_succ]; rfl)
        · go_simp
          clear hHeld
          (refine hK.out _ _ ?_ (fun hHeld => ?_); exact HSK.out _ (below_alloc (below_drew (Below.refl _ _)) _); clear hK K)
          (refine wpAnyH_ready (rs := [2]) (by kernel_rfl) (by simp) ?_; refine AllReadyH.cons (o := ?_) ?_ (fun K hK => ?_) AllReadyH.nil; rotate_left 1; (simp only [List.getElem?_toArray, List.getElem?_cons_zero, List.getElem?_cons_succ]; rfl); go_simp)
          refine (HQ.out _).mono ?_
          rintro e w' ⟨rfl, hw⟩
          rw [hw]
          clear hw w'
          clear hHeld
          (refine hK.out _ _ ?_ (fun hHeld => ?_); exact HSK.out _ (below_alloc (below_drew (Below.refl _ _)) _); clear hK K)
          (first | (refine wpAnyH_take (i := 3) (oi := ?_) (v := ?_) ?_ (by kernel_rfl) ?_ ?_ ?_ ?_ (by assumption) ?_; rotate_left 2; (simp only [List.getElem?_toArray, List.getElem?_cons_zero, List.getElem?_cons_succ]; rfl); kernel_rfl; kernel_rfl; exact fun _ _ _ h => h; (refine Or.inl ⟨by rfl, ?_⟩; intro w hSw; (try dsimp only at hSw); go_simp; (first | done | with_reducible rfl)); (try simp only [Act.put, List.setIfInBounds_toArray, List.set_cons_zero, List.set_cons_succ])) | (refine wpAnyH_take (i := 3) (oi := ?_) (v := undef) ?_ (by kernel_rfl) ?_ ?_ ?_ ?_ (by assumption) ?_; rotate_left 1; (simp only [List.getElem?_toArray, List.getElem?_cons_zero, List.getElem?_cons_succ]; rfl); kernel_rfl; kernel_rfl; exact fun _ _ _ h => h; exact Or.inr ⟨by rfl, rfl⟩; (try simp only [Act.put, List.setIfInBounds_toArray, List.set_cons_zero, List.set_cons_succ])))
          (refine wpAnyH_ready (rs := [4]) (by kernel_rfl) (by simp) ?_; refine AllReadyH.cons (o := ?_) ?_ (fun K hK => ?_) AllReadyH.nil; rotate_left 1; (simp only [List.getElem?_toArray, List.getElem?_cons_zero, List.getElem?_cons_succ]; rfl); go_simp)
          refine (HF.out _ (below_alloc (below_drew (Below.refl _ _)) _)).mono ?_
          rintro e w5 ⟨B5, c5, rfl, _, _, hb5⟩
          have HB5 := Lib.hid (show Below W4.heap.size W4 w5 from below_next (below_alloc (below_drew (Below.refl _ _)) _) hb5)
          have hbx := (RowBox.new W4.drew ⟨⟨#[]⟩, 0, ⟨#[]⟩, ⟨#[]⟩, []⟩ none 0 0).upto hb5 (by simp)
          have HBX := Lib.hid hbx
          have y0 : w5.cell? ⟨W4.heap.size, 0, none⟩ = some (.string ⟨#[]⟩) := hbx.k
          have y1 : w5.cell? ⟨W4.heap.size, 1, none⟩ = some (.int .i64 0) := hbx.s
          have y2 : w5.cell? ⟨W4.heap.size, 2, none⟩ = some (.string ⟨#[]⟩) := hbx.p
          have y3 : w5.cell? ⟨W4.heap.size, 3, none⟩ = some (.string ⟨#[]⟩) := hbx.v
          have y4 : w5.cell? ⟨W4.heap.size, 4, none⟩ = some (.slice none 0 0) := hbx.l
          have f0 : w5.frozen? ⟨W4.heap.size, 0, none⟩ = false := hbx.f 0
          have f1 : w5.frozen? ⟨W4.heap.size, 1, none⟩ = false := hbx.f 1
          have f2 : w5.frozen? ⟨W4.heap.size, 2, none⟩ = false := hbx.f 2
          have f3 : w5.frozen? ⟨W4.heap.size, 3, none⟩ = false := hbx.f 3
          have f4 : w5.frozen? ⟨W4.heap.size, 4, none⟩ = false := hbx.f 4
          clear hbx
          clear hb5
          clear hHeld
          (refine hK.out _ _ ?_ (fun hHeld => ?_); exact HSK.out _ HB5.out; clear hK K)
          (first | (refine wpAnyH_take (i := 5) (oi := ?_) (v := ?_) ?_ (by kernel_rfl) ?_ ?_ ?_ ?_ (by assumption) ?_; rotate_left 2; (simp only [List.getElem?_toArray, List.getElem?_cons_zero, List.getElem?_cons_succ]; rfl); kernel_rfl; kernel_rfl; exact fun _ _ _ h => h; (refine Or.inl ⟨by rfl, ?_⟩; intro w hSw; (try dsimp only at hSw); go_simp; (first | done | with_reducible rfl)); (try simp only [Act.put, List.setIfInBounds_toArray, List.set_cons_zero, List.set_cons_succ])) | (refine wpAnyH_take (i := 5) (oi := ?_) (v := undef) ?_ (by kernel_rfl) ?_ ?_ ?_ ?_ (by assumption) ?_; rotate_left 1; (simp only [List.getElem?_toArray, List.getElem?_cons_zero, List.getElem?_cons_succ]; rfl); kernel_rfl; kernel_rfl; exact fun _ _ _ h => h; exact Or.inr ⟨by rfl, rfl⟩; (try simp only [Act.put, List.setIfInBounds_toArray, List.set_cons_zero, List.set_cons_succ])))
          (first | (refine wpAnyH_take (i := 6) (oi := ?_) (v := ?_) ?_ (by kernel_rfl) ?_ ?_ ?_ ?_ (by assumption) ?_; rotate_left 2; (simp only [List.getElem?_toArray, List.getElem?_cons_zero, List.getElem?_cons_succ]; rfl); kernel_rfl; kernel_rfl; exact fun _ _ _ h => h; (refine Or.inl ⟨by rfl, ?_⟩; intro w hSw; (try dsimp only at hSw); go_simp; (first | done | with_reducible rfl)); (try simp only [Act.put, List.setIfInBounds_toArray, List.set_cons_zero, List.set_cons_succ])) | (refine wpAnyH_take (i := 6) (oi := ?_) (v := undef) ?_ (by kernel_rfl) ?_ ?_ ?_ ?_ (by assumption) ?_; rotate_left 1; (simp only [List.getElem?_toArray, List.getElem?_cons_zero, List.getElem?_cons_succ]; rfl); kernel_rfl; kernel_rfl; exact fun _ _ _ h => h; exact Or.inr ⟨by rfl, rfl⟩; (try simp only [Act.put, List.setIfInBounds_toArray, List.set_cons_zero, List.set_cons_succ])))
          (first | (refine wpAnyH_take (i := 7) (oi := ?_) (v := ?_) ?_ (by kernel_rfl) ?_ ?_ ?_ ?_ (by assumption) ?_; rotate_left 2; (simp only [List.getElem?_toArray, List.getElem?_cons_zero, List.getElem?_cons_succ]; rfl); kernel_rfl; kernel_rfl; exact fun _ _ _ h => h; (refine Or.inl ⟨by rfl, ?_⟩; intro w hSw; (try dsimp only at hSw); go_simp; (first | done | with_reducible rfl)); (try simp only [Act.put, List.setIfInBounds_toArray, List.set_cons_zero, List.set_cons_succ])) | (refine wpAnyH_take (i := 7) (oi := ?_) (v := undef) ?_ (by kernel_rfl) ?_ ?_ ?_ ?_ (by assumption) ?_; rotate_left 1; (simp only [List.getElem?_toArray, List.getElem?_cons_zero, List.getElem?_cons_succ]; rfl); kernel_rfl; kernel_rfl; exact fun _ _ _ h => h; exact Or.inr ⟨by rfl, rfl⟩; (try simp only [Act.put, List.setIfInBounds_toArray, List.set_cons_zero, List.set_cons_succ])))
          (refine wpAnyH_ready (rs := [9]) (by kernel_rfl) (by simp) ?_; refine AllReadyH.cons (o := ?_) ?_ (fun K hK => ?_) AllReadyH.nil; rotate_left 1; (simp only [List.getElem?_toArray, List.getElem?_cons_zero, List.getElem?_cons_succ]; rfl); go_simp)
          clear hHeld
          (refine hK.out _ _ ?_ (fun hHeld => ?_); exact HSK.out _ (below_set5 HB5.out (Nat.le_refl _) 0 _ _ _ _ _); clear hK K)
          (first | (refine wpAnyH_take (i := 10) (oi := ?_) (v := ?_) ?_ (by kernel_rfl) ?_ ?_ ?_ ?_ (by assumption) ?_; rotate_left 2; (simp only [List.getElem?_toArray, List.getElem?_cons_zero, List.getElem?_cons_succ]; rfl); kernel_rfl; kernel_rfl; exact fun _ _ _ h => h; (refine Or.inl ⟨by rfl, ?_⟩; intro w hSw; (try dsimp only at hSw); go_simp; (first | done | with_reducible rfl)); (try simp only [Act.put, List.setIfInBounds_toArray, List.set_cons_zero, List.set_cons_succ])) | (refine wpAnyH_take (i := 10) (oi := ?_) (v := undef) ?_ (by kernel_rfl) ?_ ?_ ?_ ?_ (by assumption) ?_; rotate_left 1; (simp only [List.getElem?_toArray, List.getElem?_cons_zero, List.getElem?_cons_succ]; rfl); kernel_rfl; kernel_rfl; exact fun _ _ _ h => h; exact Or.inr ⟨by rfl, rfl⟩; (try simp only [Act.put, List.setIfInBounds_toArray, List.set_cons_zero, List.set_cons_succ])))
          refine wpAnyH_done (by kernel_rfl) ?_ _
          clear hHeld
          go_wp2_with fail
          go_meet
          exact ⟨rfl, below_set5 HB5.out (Nat.le_refl _) 0 _ _ _ _ _⟩

    obtain ⟨rfl, hbc⟩ := hcut
    obtain ⟨x0, x1, x2, x3, x4⟩ := HSK.out wc hbc
    have s5 := cell_next s4 hbc
    have HIA5 := Lib.hid (HIA.out.upto hbc)
    have HB5 := Lib.hid (below_next HB4.out hbc)
    have HS := Lib.hid (status_ok a'.key a'.lp a'.val a'.ls B3 a'.recs.length c3 a'.recs (1 + p) wc HIA5.out.i HZ.out.1 hs)
    rw [HZ.out.2.1] at HS
    have i5 : IntKind.i64.wrap (1 + p + 5) = 1 + p + 5 := IntWalk.i64_in _ (by omega)
    clear g0 g1 g2 g3 g4 m0 m1 m2 m3 m4 a0 a1 a2 a3 a4 s1 s4 hbc HSK HQ hg4 HF hlt3 hlts hsum
    go_wp2_with fail
    refine HS.out.mono ?_
    rintro e w6 ⟨rfl, hb6⟩
    obtain ⟨u0, u1, u2, u3, u4, _⟩ := boxS x0 x1 x2 x3 x4 hb6
    have s6 := cell_next s5 hb6
    have HIA6 := Lib.hid (HIA5.out.upto hb6)
    have HB6 := Lib.hid (below_next HB5.out hb6)
    have HC := Lib.hid (commitFn_op a' B3 a'.recs.length c3 (1 + p) (1 + p + 5) w6 HIA6.out)
    rw [HZ.out.2.2.1] at HC
    clear x0 x1 x2 x3 x4 s5 hb6 HS
    go_wp2_with fail
    refine HC.out.mono ?_
    rintro e w7 ⟨B7, c7, rfl, hrec, hnc, hb7⟩
    obtain ⟨x0, x1, x2, x3, x4, _⟩ := boxS u0 u1 u2 u3 u4 hb7
    have s7 := cell_next s6 hb7
    have hx7 : w3.heap.size < w7.heap.size := World.block_lt_of_cell? w7 _ x0
    have hs7 : w2.heap.size < w7.heap.size := World.block_lt_of_cell? w7 _ s7
    obtain ⟨W8, hW8, b0', b1', b2', b3', b4', hbW8, hsW8⟩ := box_new w7 (.string b.key) (.int .i64 b.ls) (.string b.lp) (.string b.val) (.slice B7 b.recs.length c7) 27
    have HW8 := Lib.hid hW8
    have hb68 := hb7.trans (hbW8.mono hb7.size)
    have HIA8 := Lib.hid (HIA6.out.upto hb68)
    have HIB8 := Lib.hid (show OpIn W8 b B7 b.recs.length c7 from ⟨⟨rfl, hrec.upto hbW8, HSB.out.k, HSB.out.p, HSB.out.v⟩, hnc.2⟩)
    have HB8 := Lib.hid (below_next HB6.out hb68)
    have HU8 := Lib.hid (undoFn_op a' B3 a'.recs.length c3 (1 + p) W8 HIA8.out)
    rw [HZ.out.2.2.2.2.1] at HU8
    have s8 := cell_next s7 hbW8
    clear hrec hnc hb7 hW8 hbW8 hsW8 hb68 u0 u1 u2 u3 u4 s6 HC
    go_wp2_with fail
    rw [← HW8.out]
    refine HU8.out.mono ?_
    rintro e w9 ⟨B9, c9, rfl, hrec, hnc, hb9⟩
    clear x0 x1 x2 x3 x4 s7 hx7 hs7
    obtain ⟨v0, v1, v2, v3, v4, _⟩ := boxS b0' b1' b2' b3' b4' hb9
    have s9 := cell_next s8 hb9
    have hx9 : w7.heap.size < w9.heap.size := World.block_lt_of_cell? w9 _ v0
    have hs9 : w2.heap.size < w9.heap.size := World.block_lt_of_cell? w9 _ s9
    obtain ⟨W10, hW10, d0', d1', d2', d3', d4', hbW10, hsW10⟩ := box_new w9 (.string d.key) (.int .i64 d.ls) (.string d.lp) (.string d.val) (.slice B9 d.recs.length c9) 27
    have HW10 := Lib.hid hW10
    have hb810 := hb9.trans (hbW10.mono hb9.size)
    have HIB10 := Lib.hid (HIB8.out.upto hb810)
    have HID10 := Lib.hid (show OpIn W10 d B9 d.recs.length c9 from ⟨⟨rfl, hrec.upto hbW10, HSD.out.k, HSD.out.p, HSD.out.v⟩, hnc.2⟩)
    have HB10 := Lib.hid (below_next HB8.out hb810)
    have HR10 := Lib.hid (read_all b B7 c7 (1 + p + 5) W10 HIB10.out.i HZ.out.2.2.2.1 hs5)
    rw [HZ.out.2.2.2.2.2.2.1] at HR10
    obtain ⟨x0, x1, x2, x3, x4, _⟩ := boxS v0 v1 v2 v3 v4 hbW10
    have s10 := cell_next s9 hbW10
    clear hrec hnc hb9 hW10 hbW10 hsW10 hb810 b0' b1' b2' b3' b4' s8 HU8
    go_wp2_with fail
    rw [← HW10.out]
    refine HR10.out.mono ?_
    rintro e w11 ⟨rfl, hb11⟩
    clear v0 v1 v2 v3 v4 s9 hx9 hs9
    obtain ⟨v0, v1, v2, v3, v4, _⟩ := boxS x0 x1 x2 x3 x4 hb11
    obtain ⟨e0, e1, e2, e3, e4, _⟩ := boxS d0' d1' d2' d3' d4' hb11
    have s11 := cell_next s10 hb11
    have HB11 := Lib.hid (below_next HB10.out hb11)
    have HIB11 := Lib.hid (HIB10.out.upto hb11)
    have HID11 := Lib.hid (HID10.out.upto hb11)
    have HU11 := Lib.hid (undoFn_op b B7 b.recs.length c7 (1 + p) w11 HIB11.out)
    rw [HZ.out.2.2.2.2.2.2.2.1] at HU11
    have HU11 := Lib.hid (show Calls Tryd.prog 24 #[rV b B7 b.recs.length c7, .int .i64 (1 + p)] w11 (RowOut2 ⟨#[]⟩ 0 ⟨#[]⟩ ⟨#[]⟩ [] 6 w11) from HU11.out)
    clear x0 x1 x2 x3 x4 d0' d1' d2' d3' d4' s10 hb11 HR10
    go_wp2_with fail
    refine HU11.out.mono ?_
    rintro e w12 ⟨B12, c12, rfl, _, _, hb12⟩
    obtain ⟨x0, x1, x2, x3, x4, _⟩ := boxS e0 e1 e2 e3 e4 hb12
    have s12 := cell_next s11 hb12
    have hx12 : w9.heap.size < w12.heap.size := World.block_lt_of_cell? w12 _ x0
    have hs12 : w2.heap.size < w12.heap.size := World.block_lt_of_cell? w12 _ s12
    obtain ⟨W13, hW13, q0, q1, q2, q3, q4, hbW13, hsW13⟩ := box_new w12 (.string ⟨#[]⟩) (.int .i64 0) (.string ⟨#[]⟩) (.string ⟨#[]⟩) (.slice B12 0 c12) 27
    have HW13 := Lib.hid hW13
    have hb1113 := hb12.trans (hbW13.mono hb12.size)
    have HID13 := Lib.hid (HID11.out.upto hb1113)
    have HB13 := Lib.hid (below_next HB11.out hb1113)
    have HL13 := Lib.hid (lockFn_op d B9 d.recs.length c9 (1 + p) ⟨#[98]⟩ ⟨#[109, 105, 110, 101]⟩ W13 HID13.out (by decide) (by decide))
    rw [HZ.out.2.2.2.2.2.2.2.2.1] at HL13
    have HL13 := Lib.hid (show Calls Tryd.prog 19 #[rV d B9 d.recs.length c9, .int .i64 (1 + p), .string ⟨#[98]⟩, .string ⟨#[109, 105, 110, 101]⟩] W13 (RowOut2 ⟨#[]⟩ 0 ⟨#[]⟩ ⟨#[]⟩ [] 9 W13) from HL13.out)
    obtain ⟨y0, y1, y2, y3, y4, _⟩ := boxS x0 x1 x2 x3 x4 hbW13
    have s13 := cell_next s12 hbW13
    clear v0 v1 v2 v3 v4 e0 e1 e2 e3 e4 s11 hb12 hW13 hbW13 hsW13 hb1113 HU11 q0 q1 q2 q3 q4
    go_wp2_with fail
    rw [show w12.alloc (.cells #[.string ⟨#[]⟩, .int .i64 0, .string ⟨#[]⟩, .string ⟨#[]⟩, .slice B12 0 c12] 27) = W13 from HW13.out.symm]
    refine HL13.out.mono ?_
    rintro e w14 ⟨B14, c14, rfl, _, _, hb14⟩
    clear x0 x1 x2 x3 x4 s12 hx12 hs12
    obtain ⟨x0, x1, x2, x3, x4, _⟩ := boxS y0 y1 y2 y3 y4 hb14
    have s14 := cell_next s13 hb14
    have hx14 : w9.heap.size < w14.heap.size := World.block_lt_of_cell? w14 _ x0
    have hs14 : w2.heap.size < w14.heap.size := World.block_lt_of_cell? w14 _ s14
    obtain ⟨W15, hW15, q0, q1, q2, q3, q4, hbW15, hsW15⟩ := box_new w14 (.string ⟨#[]⟩) (.int .i64 0) (.string ⟨#[]⟩) (.string ⟨#[]⟩) (.slice B14 0 c14) 27
    have HW15 := Lib.hid hW15
    have hb1315 := hb14.trans (hbW15.mono hb14.size)
    have HID15 := Lib.hid (HID13.out.upto hb1315)
    have HB15 := Lib.hid (below_next HB13.out hb1315)
    have HC15 := Lib.hid (commitFn_op d B9 d.recs.length c9 (1 + p) (1 + p + 5) W15 HID15.out)
    rw [HZ.out.2.2.2.2.2.2.2.2.2] at HC15
    have HC15 := Lib.hid (show Calls Tryd.prog 23 #[rV d B9 d.recs.length c9, .int .i64 (1 + p), .int .i64 (1 + p + 5)] W15 (RowOut2 ⟨#[]⟩ 0 ⟨#[]⟩ ⟨#[]⟩ [] 9 W15) from HC15.out)
    clear y0 y1 y2 y3 y4 s13 hb14 hW15 hbW15 hsW15 hb1315 HL13 q0 q1 q2 q3 q4
    go_wp2_with fail
    rw [show w14.alloc (.cells #[.string ⟨#[]⟩, .int .i64 0, .string ⟨#[]⟩, .string ⟨#[]⟩, .slice B14 0 c14] 27) = W15 from HW15.out.symm]
    refine HC15.out.mono ?_
    rintro e w16 ⟨B16, c16, rfl, _, _, hb16⟩
    go_wp2
    go_ret
    exact ⟨rfl, below_alloc (below_next HB15.out hb16) _⟩
  · have d0 : (ec != 0) = true := by simpa using he
    have HS := Lib.hid (status_ok r.key r.lp r.val r.ls B r.recs.length c r.recs (1 + p) W4 HI4.out.i HK.out.ok hs)
    have herr := lock_err (pk := ⟨#[98]⟩) (pv := ⟨#[109, 105, 110, 101]⟩) HK.out h40 hs (by decide +kernel) (by decide) (by rw [hx]; exact he)
    rw [hx] at herr
    dsimp only at herr
    clear he hrec hnc hb3 hx HU a0 a1 a2 a3 a4 hW4 hbW4 hsW4
    go_wp2_with fail
    rw [← HW4.out]
    refine HS.out.mono ?_
    rintro e w5 ⟨rfl, hb5⟩
    obtain ⟨x0, x1, x2, x3, x4, _⟩ := boxS m0 m1 m2 m3 m4 hb5
    have s5 := cell_next s4 hb5
    have HI5 := Lib.hid (HI4.out.upto hb5)
    have HB5 := Lib.hid (below_next HB4.out hb5)
    have HL := Lib.hid (lateContains_any (1 + p) r.recs B r.recs.length c w2.heap.size 0 w5 rfl HI5.out.i.l s5)
    clear g0 g1 g2 g3 g4 m0 m1 m2 m3 m4 s1 s4 hb5
    go_wp2_with fail
    refine HL.out.mono ?_
    rintro e w6 ⟨rfl, hb6⟩
    obtain ⟨y0, y1, y2, y3, y4, _⟩ := boxS x0 x1 x2 x3 x4 hb6
    have HB6 := Lib.hid (below_next HB5.out hb6)
    clear x0 x1 x2 x3 x4 hb6
    rcases herr with ⟨h3, rfl⟩ | ⟨h3, h8, rfl⟩ | ⟨h3, h8, h7, rfl⟩
    · rw [h3]
      clear h3
      go_wp2
      go_ret
      exact ⟨rfl, HB6.out⟩
    · have d3 : (stOf r.ls (1 + p) r.recs == 3) = false := by simpa using h3
      rw [h8]
      clear h3 h8
      go_wp2
      go_ret
      exact ⟨rfl, HB6.out⟩
    · have d3 : (stOf r.ls (1 + p) r.recs == 3) = false := by simpa using h3
      have d7 : (r.ls != 0) = true := by simpa using h7
      rw [h8]
      clear h3 h8 h7
      go_wp2
      go_ret
      exact ⟨rfl, HB6.out⟩
end Go.Proofs.YtambkjnhfejfaabDoor
