/-
  Contracts of functions of the program and words for memory, several texts in one: TFail, TCommitNext. Conditions: those stated with each.
-/
import Derived.Test.YtambkjnhfejfaacGreatDoorG13
import Derived.Test.YtambkjnhfejfaacGreatDoorG22
namespace Go.Proofs.YtambkjnhfejfaacGreatDoor
open Go.RowKit

section
variable {w : World} {t : Bool} {Z : Nat → Prop} {B bx bC : Nat} {wo : WoM} {C : Nat} {c : ClM}
set_option maxRecDepth 100000 in
set_option maxHeartbeats 4000000 in
theorem fail_any (h : Own w t Z B bx bC wo) (hc : wo.cls[C]? = some c) (hr : RowsOk wo.rows) (hst : inB c.st 1 1099511627776 = true) (hph : c.ph ≠ 0) :
    Calls Tryz.prog 75 #[.pointer (some ⟨bx, 0, none⟩), .pointer (some ⟨bC, C * 5, none⟩)] w fun e w' => e = .returned (.tuple #[]) ∧ Own w' t Z B bx bC (failW wo C c) ∧ Keeps B Z w w' := by
  obtain ⟨bR, rc, wb, x0, hrc, _, hco⟩ := h.core
  have hC := (List.getElem?_eq_some_iff.1 hc).1
  have hcl := hco.cls C c hc
  obtain ⟨A, q, c3, hq, hws⟩ := hcl.cw
  have c1 := hcl.cs
  have hlen : c.ws.length ≤ 4398046511104 := hws.1
  have hbC : bC < w.heap.size := hco.cB.2.1
  have hbx : bx < w.heap.size := h.xB.2
  have hwb : wb C < w.heap.size := (hco.wB C hC).2.1
  have hneC : bC ≠ bR := fun e => hco.ne e.symm
  have hneX : bx ≠ bR := fun e => hco.rB.2.2 (.inl e.symm)
  have hneW : wb C ≠ bR := (hco.wB C hC).2.2.2.1
  have HO := Lib.hid h
  have HC := Lib.hid hc
  have HR := Lib.hid hr
  have HW := Lib.hid hws
  have HX0 := Lib.hid x0
  have HC1 := Lib.hid c1
  have HPH := Lib.hid hph
  clear h hc hr hws x0 c1 hrc hco hcl hq hph
  go_enter Tryz.func75, Tryz.ntmps75
  go_wp2
  go_loopw [13] (fun i wr => ∃ k : Nat, k ≤ c.ws.length ∧ i = .int .i64 k ∧ Own wr t Z B bx bC ⟨failRows c.st (c.ws.take k) wo.rows, wo.clock, wo.cls⟩ ∧ Keeps B Z w wr ∧ w.heap.size ≤ wr.heap.size ∧ ∀ b, b < w.heap.size → b ≠ bR → wr.heap[b]? = w.heap[b]?) (fun i _ => c.ws.length - (intOf i).toNat)
  case atStart => exact ⟨0, Nat.zero_le _, rfl, HO.out, Keeps.refl _ _ _, Nat.le_refl _, fun _ _ _ => rfl⟩
  case round =>
    obtain ⟨k, hk, rfl, ho, hkp, hsz, ht⟩ := hrel
    have HOR := Lib.hid ho
    have HKP := Lib.hid hkp
    have HT := Lib.hid ht
    have d1 : wr.cell? ⟨bC, C * 5 + 1, none⟩ = some (.int .i64 c.st) := (World.cell?_of_block (w := w) (a := ⟨bC, C * 5 + 1, none⟩) (ht bC hbC hneC)).trans HC1.out
    have dx : wr.cell? ⟨bx, 0, none⟩ = some (.slice (some ⟨bR, 0, none⟩) wo.rows.length rc) := (World.cell?_of_block (w := w) (a := ⟨bx, 0, none⟩) (ht bx hbx hneX)).trans HX0.out
    have HDX := Lib.hid dx
    have hbCr : bC < wr.heap.size := by omega
    clear ho hkp dx
    by_cases hm : k < c.ws.length
    · have hws' : WrsAt wr (· = wb C) A c.ws := SeqAt.wrs HW.out (fun _ h => h) fun b o hb => World.cell?_of_block (w := w) (a := ⟨b, o, none⟩) (ht b (by rw [hb]; exact hwb) (by rw [hb]; exact hneW))
      obtain ⟨b, o, rfl, hbb, hr⟩ := SeqAt.at_ hws' (getD_some (d := default) hm)
      obtain ⟨x, hx0⟩ : ∃ x, x = c.ws.getD k default := ⟨_, rfl⟩
      rw [← hx0] at hr
      obtain ⟨e0, e1, eok⟩ := hr
      have j0 : (0 : Int) ≤ (k : Int) := by omega
      have htk : c.ws.take (k + 1) = c.ws.take k ++ [x] := by rw [List.take_succ_eq_append_getElem hm, hx0]; simp [List.getD, hm]
      have HTK := Lib.hid htk
      obtain ⟨xk, xv⟩ := x
      dsimp only at e0 e1
      obtain ⟨W0, hW0⟩ : ∃ W0, W0 = wr.alloc (.cells #[.string xk, .string xv] 107) := ⟨_, rfl⟩
      have hb0 : Below wr.heap.size wr W0 := by rw [hW0]; exact below_alloc (Below.refl _ _) _
      have hs0 : W0.heap.size = wr.heap.size + 1 := by rw [hW0]; simp
      have g0 : W0.cell? ⟨wr.heap.size, 0, none⟩ = some (.string xk) := by rw [hW0]; simp
      have g1 := (hb0.cell (p := ⟨bC, C * 5 + 1, none⟩) hbCr).trans d1
      have HW0 := Lib.hid hW0
      have HB0 := Lib.hid hb0
      have HRK := Lib.hid (failRows_ok (st := c.st) (l := c.ws.take k) HR.out)
      have hg : wr.heap.size < W0.heap.size := by omega
      clear hx0 htk hW0 hb0 hs0 hws' ht hbb
      go_wp2
      rw [← HW0.out]
      refine wp_region_held_drew (S := fun W => W.cell? ⟨wr.heap.size, 0, none⟩ = some (.string xk) ∧ W.cell? ⟨bC, C * 5 + 1, none⟩ = some (.int .i64 c.st)) (by kernel_rfl) ?_ (fun hHeld => ?_)
      · exact ⟨g0, g1⟩
      (refine wpAnyH_take (i := 0) (oi := ?_) (v := ?_) ?_ (by kernel_rfl) ?_ ?_ ?_ ?_ (by assumption) ?_; rotate_left 2; (simp only [List.getElem?_toArray, List.getElem?_cons_zero]; rfl); kernel_rfl; kernel_rfl; exact fun _ _ _ h => h; (refine Or.inl ⟨by rfl, ?_⟩; intro w hSw; (try dsimp only at hSw); go_simp; (first | done | with_reducible rfl)); (try simp only [Act.put, List.setIfInBounds_toArray, List.set_cons_zero, List.set_cons_succ]))
      (first | (refine wpAnyH_take (i := 1) (oi := ?_) (v := ?_) ?_ (by kernel_rfl) ?_ ?_ ?_ ?_ (by assumption) ?_; rotate_left 2; (simp only [List.getElem?_toArray, List.getElem?_cons_zero, List.getElem?_cons_succ]; rfl); kernel_rfl; kernel_rfl; exact fun _ _ _ h => h; (refine Or.inl ⟨by rfl, ?_⟩; intro w hSw; (try dsimp only at hSw); go_simp; (first | done | with_reducible rfl)); (try simp only [Act.put, List.setIfInBounds_toArray, List.set_cons_zero, List.set_cons_succ])) | (refine wpAnyH_take (i := 1) (oi := ?_) (v := undef) ?_ (by kernel_rfl) ?_ ?_ ?_ ?_ (by assumption) ?_; rotate_left 1; (simp only [List.getElem?_toArray, List.getElem?_cons_zero, List.getElem?_cons_succ]; rfl); kernel_rfl; kernel_rfl; exact fun _ _ _ h => h; exact Or.inr ⟨by rfl, rfl⟩; (try simp only [Act.put, List.setIfInBounds_toArray, List.set_cons_zero, List.set_cons_succ])))
      (first | (refine wpAnyH_take (i := 2) (oi := ?_) (v := ?_) ?_ (by kernel_rfl) ?_ ?_ ?_ ?_ (by assumption) ?_; rotate_left 2; (simp only [List.getElem?_toArray, List.getElem?_cons_zero, List.getElem?_cons_succ]; rfl); kernel_rfl; kernel_rfl; exact fun _ _ _ h => h; (refine Or.inl ⟨by rfl, ?_⟩; intro w hSw; (try dsimp only at hSw); go_simp; (first | done | with_reducible rfl)); (try simp only [Act.put, List.setIfInBounds_toArray, List.set_cons_zero, List.set_cons_succ])) | (refine wpAnyH_take (i := 2) (oi := ?_) (v := undef) ?_ (by kernel_rfl) ?_ ?_ ?_ ?_ (by assumption) ?_; rotate_left 1; (simp only [List.getElem?_toArray, List.getElem?_cons_zero, List.getElem?_cons_succ]; rfl); kernel_rfl; kernel_rfl; exact fun _ _ _ h => h; exact Or.inr ⟨by rfl, rfl⟩; (try simp only [Act.put, List.setIfInBounds_toArray, List.set_cons_zero, List.set_cons_succ])))
      (first | (refine wpAnyH_take (i := 3) (oi := ?_) (v := ?_) ?_ (by kernel_rfl) ?_ ?_ ?_ ?_ (by assumption) ?_; rotate_left 2; (simp only [List.getElem?_toArray, List.getElem?_cons_zero, List.getElem?_cons_succ]; rfl); kernel_rfl; kernel_rfl; exact fun _ _ _ h => h; (refine Or.inl ⟨by rfl, ?_⟩; intro w hSw; (try dsimp only at hSw); go_simp; (first | done | with_reducible rfl)); (try simp only [Act.put, List.setIfInBounds_toArray, List.set_cons_zero, List.set_cons_succ])) | (refine wpAnyH_take (i := 3) (oi := ?_) (v := undef) ?_ (by kernel_rfl) ?_ ?_ ?_ ?_ (by assumption) ?_; rotate_left 1; (simp only [List.getElem?_toArray, List.getElem?_cons_zero, List.getElem?_cons_succ]; rfl); kernel_rfl; kernel_rfl; exact fun _ _ _ h => h; exact Or.inr ⟨by rfl, rfl⟩; (try simp only [Act.put, List.setIfInBounds_toArray, List.set_cons_zero, List.set_cons_succ])))
      (first | (refine wpAnyH_take (i := 4) (oi := ?_) (v := ?_) ?_ (by kernel_rfl) ?_ ?_ ?_ ?_ (by assumption) ?_; rotate_left 2; (simp only [List.getElem?_toArray, List.getElem?_cons_zero, List.getElem?_cons_succ]; rfl); kernel_rfl; kernel_rfl; exact fun _ _ _ h => h; (refine Or.inl ⟨by rfl, ?_⟩; intro w hSw; (try dsimp only at hSw); go_simp; (first | done | with_reducible rfl)); (try simp only [Act.put, List.setIfInBounds_toArray, List.set_cons_zero, List.set_cons_succ])) | (refine wpAnyH_take (i := 4) (oi := ?_) (v := undef) ?_ (by kernel_rfl) ?_ ?_ ?_ ?_ (by assumption) ?_; rotate_left 1; (simp only [List.getElem?_toArray, List.getElem?_cons_zero, List.getElem?_cons_succ]; rfl); kernel_rfl; kernel_rfl; exact fun _ _ _ h => h; exact Or.inr ⟨by rfl, rfl⟩; (try simp only [Act.put, List.setIfInBounds_toArray, List.set_cons_zero, List.set_cons_succ])))
      (first | (refine wpAnyH_take (i := 5) (oi := ?_) (v := ?_) ?_ (by kernel_rfl) ?_ ?_ ?_ ?_ (by assumption) ?_; rotate_left 2; (simp only [List.getElem?_toArray, List.getElem?_cons_zero, List.getElem?_cons_succ]; rfl); kernel_rfl; kernel_rfl; exact fun _ _ _ h => h; (refine Or.inl ⟨by rfl, ?_⟩; intro w hSw; (try dsimp only at hSw); go_simp; (first | done | with_reducible rfl)); (try simp only [Act.put, List.setIfInBounds_toArray, List.set_cons_zero, List.set_cons_succ])) | (refine wpAnyH_take (i := 5) (oi := ?_) (v := undef) ?_ (by kernel_rfl) ?_ ?_ ?_ ?_ (by assumption) ?_; rotate_left 1; (simp only [List.getElem?_toArray, List.getElem?_cons_zero, List.getElem?_cons_succ]; rfl); kernel_rfl; kernel_rfl; exact fun _ _ _ h => h; exact Or.inr ⟨by rfl, rfl⟩; (try simp only [Act.put, List.setIfInBounds_toArray, List.set_cons_zero, List.set_cons_succ])))
      (first | (refine wpAnyH_take (i := 6) (oi := ?_) (v := ?_) ?_ (by kernel_rfl) ?_ ?_ ?_ ?_ (by assumption) ?_; rotate_left 2; (simp only [List.getElem?_toArray, List.getElem?_cons_zero, List.getElem?_cons_succ]; rfl); kernel_rfl; kernel_rfl; exact fun _ _ _ h => h; (refine Or.inl ⟨by rfl, ?_⟩; intro w hSw; (try dsimp only at hSw); go_simp; (first | done | with_reducible rfl)); (try simp only [Act.put, List.setIfInBounds_toArray, List.set_cons_zero, List.set_cons_succ])) | (refine wpAnyH_take (i := 6) (oi := ?_) (v := undef) ?_ (by kernel_rfl) ?_ ?_ ?_ ?_ (by assumption) ?_; rotate_left 1; (simp only [List.getElem?_toArray, List.getElem?_cons_zero, List.getElem?_cons_succ]; rfl); kernel_rfl; kernel_rfl; exact fun _ _ _ h => h; exact Or.inr ⟨by rfl, rfl⟩; (try simp only [Act.put, List.setIfInBounds_toArray, List.set_cons_zero, List.set_cons_succ])))
      (refine wpAnyH_ready (rs := [7]) (by kernel_rfl) (by simp) ?_; refine AllReadyH.cons (o := ?_) ?_ (fun K hK => ?_) AllReadyH.nil; rotate_left 1; (simp only [List.getElem?_toArray, List.getElem?_cons_zero, List.getElem?_cons_succ]; rfl); go_simp)
      have HOW := Lib.hid ((HOR.out.upto HB0.out).drew)
      refine (statusIn_any xk c.st HOW.out HRK.out hst).mono ?_
      obtain ⟨s, hs⟩ : ∃ s, s = statIn (failRows c.st (c.ws.take k) wo.rows) xk c.st := ⟨_, rfl⟩
      rw [← hs]
      have HS := Lib.hid hs
      clear hs
      rintro e w1 ⟨rfl, hb1'⟩
      have hb1 : Below W0.heap.size W0 w1 := below_next (below_drew (Below.refl _ _)) hb1'
      have y0 := (hb1.cell (p := ⟨wr.heap.size, 0, none⟩) hg).trans g0
      have y1 := (hb1.cell (p := ⟨bC, C * 5 + 1, none⟩) (by show bC < _; omega)).trans g1
      have HB1 := Lib.hid hb1
      obtain ⟨s1, s2⟩ := s
      clear hb1 hb1' hHeld
      (refine hK.out _ _ ?_ (fun hHeld => ?_); exact ⟨y0, y1⟩; clear hK K)
      (first | (refine wpAnyH_take (i := 8) (oi := ?_) (v := ?_) ?_ (by kernel_rfl) ?_ ?_ ?_ ?_ (by assumption) ?_; rotate_left 2; (simp only [List.getElem?_toArray, List.getElem?_cons_zero, List.getElem?_cons_succ]; rfl); kernel_rfl; kernel_rfl; exact fun _ _ _ h => h; (refine Or.inl ⟨by rfl, ?_⟩; intro w hSw; (try dsimp only at hSw); go_simp; (first | done | with_reducible rfl)); (try simp only [Act.put, List.setIfInBounds_toArray, List.set_cons_zero, List.set_cons_succ])) | (refine wpAnyH_take (i := 8) (oi := ?_) (v := undef) ?_ (by kernel_rfl) ?_ ?_ ?_ ?_ (by assumption) ?_; rotate_left 1; (simp only [List.getElem?_toArray, List.getElem?_cons_zero, List.getElem?_cons_succ]; rfl); kernel_rfl; kernel_rfl; exact fun _ _ _ h => h; exact Or.inr ⟨by rfl, rfl⟩; (try simp only [Act.put, List.setIfInBounds_toArray, List.set_cons_zero, List.set_cons_succ])))
      (first | (refine wpAnyH_take (i := 9) (oi := ?_) (v := ?_) ?_ (by kernel_rfl) ?_ ?_ ?_ ?_ (by assumption) ?_; rotate_left 2; (simp only [List.getElem?_toArray, List.getElem?_cons_zero, List.getElem?_cons_succ]; rfl); kernel_rfl; kernel_rfl; exact fun _ _ _ h => h; (refine Or.inl ⟨by rfl, ?_⟩; intro w hSw; (try dsimp only at hSw); go_simp; (first | done | with_reducible rfl)); (try simp only [Act.put, List.setIfInBounds_toArray, List.set_cons_zero, List.set_cons_succ])) | (refine wpAnyH_take (i := 9) (oi := ?_) (v := undef) ?_ (by kernel_rfl) ?_ ?_ ?_ ?_ (by assumption) ?_; rotate_left 1; (simp only [List.getElem?_toArray, List.getElem?_cons_zero, List.getElem?_cons_succ]; rfl); kernel_rfl; kernel_rfl; exact fun _ _ _ h => h; exact Or.inr ⟨by rfl, rfl⟩; (try simp only [Act.put, List.setIfInBounds_toArray, List.set_cons_zero, List.set_cons_succ])))
      (first | (refine wpAnyH_take (i := 10) (oi := ?_) (v := ?_) ?_ (by kernel_rfl) ?_ ?_ ?_ ?_ (by assumption) ?_; rotate_left 2; (simp only [List.getElem?_toArray, List.getElem?_cons_zero, List.getElem?_cons_succ]; rfl); kernel_rfl; kernel_rfl; exact fun _ _ _ h => h; (refine Or.inl ⟨by rfl, ?_⟩; intro w hSw; (try dsimp only at hSw); go_simp; (first | done | with_reducible rfl)); (try simp only [Act.put, List.setIfInBounds_toArray, List.set_cons_zero, List.set_cons_succ])) | (refine wpAnyH_take (i := 10) (oi := ?_) (v := undef) ?_ (by kernel_rfl) ?_ ?_ ?_ ?_ (by assumption) ?_; rotate_left 1; (simp only [List.getElem?_toArray, List.getElem?_cons_zero, List.getElem?_cons_succ]; rfl); kernel_rfl; kernel_rfl; exact fun _ _ _ h => h; exact Or.inr ⟨by rfl, rfl⟩; (try simp only [Act.put, List.setIfInBounds_toArray, List.set_cons_zero, List.set_cons_succ])))
      (first | (refine wpAnyH_take (i := 11) (oi := ?_) (v := ?_) ?_ (by kernel_rfl) ?_ ?_ ?_ ?_ (by assumption) ?_; rotate_left 2; (simp only [List.getElem?_toArray, List.getElem?_cons_zero, List.getElem?_cons_succ]; rfl); kernel_rfl; kernel_rfl; exact fun _ _ _ h => h; (refine Or.inl ⟨by rfl, ?_⟩; intro w hSw; (try dsimp only at hSw); go_simp; (first | done | with_reducible rfl)); (try simp only [Act.put, List.setIfInBounds_toArray, List.set_cons_zero, List.set_cons_succ])) | (refine wpAnyH_take (i := 11) (oi := ?_) (v := undef) ?_ (by kernel_rfl) ?_ ?_ ?_ ?_ (by assumption) ?_; rotate_left 1; (simp only [List.getElem?_toArray, List.getElem?_cons_zero, List.getElem?_cons_succ]; rfl); kernel_rfl; kernel_rfl; exact fun _ _ _ h => h; exact Or.inr ⟨by rfl, rfl⟩; (try simp only [Act.put, List.setIfInBounds_toArray, List.set_cons_zero, List.set_cons_succ])))
      (first | (refine wpAnyH_take (i := 12) (oi := ?_) (v := ?_) ?_ (by kernel_rfl) ?_ ?_ ?_ ?_ (by assumption) ?_; rotate_left 2; (simp only [List.getElem?_toArray, List.getElem?_cons_zero, List.getElem?_cons_succ]; rfl); kernel_rfl; kernel_rfl; exact fun _ _ _ h => h; (refine Or.inl ⟨by rfl, ?_⟩; intro w hSw; (try dsimp only at hSw); go_simp; (first | done | with_reducible rfl)); (try simp only [Act.put, List.setIfInBounds_toArray, List.set_cons_zero, List.set_cons_succ])) | (refine wpAnyH_take (i := 12) (oi := ?_) (v := undef) ?_ (by kernel_rfl) ?_ ?_ ?_ ?_ (by assumption) ?_; rotate_left 1; (simp only [List.getElem?_toArray, List.getElem?_cons_zero, List.getElem?_cons_succ]; rfl); kernel_rfl; kernel_rfl; exact fun _ _ _ h => h; exact Or.inr ⟨by rfl, rfl⟩; (try simp only [Act.put, List.setIfInBounds_toArray, List.set_cons_zero, List.set_cons_succ])))
      refine wpAnyH_done (by kernel_rfl) ?_ _
      clear hHeld
      have hbr1 : Below wr.heap.size wr w1 := below_next HB0.out HB1.out
      by_cases q1 : s1 = 1
      · have q1' : (s1 == 1) = true := by simpa using q1
        have HQ := Lib.hid q1
        clear q1
        have hkey : hasK (rowKeys (failRows c.st (c.ws.take k) wo.rows)) xk = true := stat_has (st := c.st) (by rw [← HS.out]; show s1 ≠ 0; rw [HQ.out]; decide)
        have HNX := Lib.hid (show failRows c.st (c.ws.take (k + 1)) wo.rows = (chgRow (failRows c.st (c.ws.take k) wo.rows) xk (undoOp c.st)).1 by rw [HTK.out, failRows_snoc, ← HS.out, if_pos HQ.out])
        have HO1 := Lib.hid (HOR.out.upto hbr1)
        have HBR1 := Lib.hid hbr1
        clear hbr1
        go_wp2
        go_still_tail 7, (by kernel_rfl)
        change wpList _ _ _ _ _ w1.drew
        go_wp2_with fail
        refine (undoRow_found xk c.st HO1.out.drew HRK.out hkey).mono ?_
        rintro e w2 ⟨⟨rfl, ho2, hk2⟩, ht2⟩
        have hbx1 : bx < wr.heap.size := by omega
        have hdx1 : w1.drew.cell? ⟨bx, 0, none⟩ = some (.slice (some ⟨bR, 0, none⟩) wo.rows.length rc) := (HBR1.out.cell (p := ⟨bx, 0, none⟩) hbx1).trans HDX.out
        have ht2' := ht2 bR _ _ hdx1
        have hk02 : Keeps B Z w w2 := (HKP.out.next HBR1.out HO.out.base).trans ((Keeps.new (by have := HO.out.base; have := HBR1.out.size; show B ≤ w1.heap.size; omega) (below_drew (Below.refl _ _))).trans hk2)
        have hsz2 : w.heap.size ≤ w2.heap.size := hk02.bel.size
        have HO2 := Lib.hid ho2
        have HK2 := Lib.hid hk02
        have HT2 := Lib.hid ht2'
        clear ho2 hk2 ht2 ht2' hdx1 hk02
        go_wp2
        go_roundw
        case rel =>
          refine ⟨k + 1, by omega, by go_num, ?_, HK2.out, hsz2, fun b hb hne => ?_⟩
          · rw [HNX.out]; exact HO2.out
          · have hbr : b < wr.heap.size := by omega
            have h1 := HBR1.out.block b hbr
            exact ((HT2.out b (Nat.lt_of_lt_of_le hbr HBR1.out.size) hne).trans h1).trans (HT.out b hb hne)
        case measure => simp [intOf]; omega
      · have q1' : (s1 == 1) = false := by simpa using q1
        have HQ := Lib.hid q1
        clear q1
        have HNX := Lib.hid (show failRows c.st (c.ws.take (k + 1)) wo.rows = failRows c.st (c.ws.take k) wo.rows by rw [HTK.out, failRows_snoc, ← HS.out, if_neg HQ.out])
        have HBR1 := Lib.hid hbr1
        clear hbr1
        go_wp2
        go_roundw
        case rel =>
          refine ⟨k + 1, by omega, by go_num, ?_, HKP.out.next HBR1.out HO.out.base, Nat.le_trans hsz HBR1.out.size, fun b hb hne => ?_⟩
          · rw [HNX.out]; exact HOR.out.upto HBR1.out
          · exact (HBR1.out.block b (by omega)).trans (HT.out b hb hne)
        case measure => simp [intOf]; omega
    · have hke : k = c.ws.length := by omega
      subst hke
      clear ht d1
      go_wp2_with fail
      refine (drop_any HOR.out HC.out HPH.out).mono ?_
      rintro e w2 ⟨rfl, ho2, hk2⟩
      have HO2 := Lib.hid ho2
      have HK2 := Lib.hid hk2
      clear ho2 hk2
      go_wp2
      go_end0
      refine ⟨rfl, ?_, HKP.out.trans HK2.out⟩
      have h := HO2.out
      rw [List.take_length] at h
      exact h
end
end Go.Proofs.YtambkjnhfejfaacGreatDoor

namespace Go.Proofs.YtambkjnhfejfaacGreatDoor
open Go.RowKit

/-- Where an operation fails, the rows stay. -/
theorem chg_err {rows : List RowM} {key : ByteArray} {op : RowM → RowM × Int} (h : (chgRow rows key op).2 ≠ 0) : (chgRow rows key op).1 = rows := by
  unfold chgRow at h ⊢
  split
  · rename_i hk
    rw [if_pos hk] at h
    exact if_neg h
  · rename_i hk
    rw [if_neg hk] at h
    split
    · rfl
    · rename_i hl
      rw [if_neg hl] at h
      exact if_neg h

section
variable {w : World} {t : Bool} {Z : Nat → Prop} {B bx bC : Nat} {wo : WoM} {C : Nat} {c : ClM}
theorem Own.drewN (h : Own w t Z B bx bC wo) (n : Nat) : Own (w.drewN n) t Z B bx bC wo := h.upto (below_drewN (Below.refl _ _) n)
theorem Keeps.drewN {w' : World} (h : Keeps B Z w w') (hB : B ≤ w.heap.size) (n : Nat) : Keeps B Z w (w'.drewN n) := h.next (below_drewN (Below.refl _ _) n) hB
theorem commitRow_all (key : ByteArray) (hks : key.size ≤ maxLen) (st cm : Int) (h : Own w true Z B bx bC wo) (hr : RowsOk wo.rows) :
    Calls Tryz.prog 52 #[.pointer (some ⟨bx, 0, none⟩), .string key, .int .i64 st, .int .i64 cm] w (NumOut false Z B bx bC (⟨(chgRow wo.rows key (commitOp st cm)).1, wo.clock, wo.cls⟩, (chgRow wo.rows key (commitOp st cm)).2) w) := by
  by_cases hk : hasK (rowKeys wo.rows) key = true
  · exact (commitRow_found key st cm h hr hk).mono fun _ _ x => ⟨x.1.1, x.1.2.1.loose, x.1.2.2⟩
  · exact commitRow_new key hks st cm h hr (by simpa using hk)

set_option maxRecDepth 100000 in
set_option maxHeartbeats 4000000 in
theorem commitNext_any (h : Own w true Z B bx bC wo) (hc : wo.cls[C]? = some c) (hr : RowsOk wo.rows) (hst : inB c.st 1 1099511627776 = true) (hph : c.ph ≠ 0) {m : Nat} (hm : m < c.ws.length) (ham : c.at_ = m) :
    Calls Tryz.prog 49 #[.pointer (some ⟨bx, 0, none⟩), .pointer (some ⟨bC, C * 5, none⟩)] w (NumOut false Z B bx bC (commitW wo C c) w) := by
  obtain ⟨c0, c1, c2, c4, ⟨A, k, c3, hq, hws⟩, hok, _, _, _, hC⟩ := h.cl hc
  have hlen : c.ws.length ≤ 4398046511104 := hws.1
  obtain ⟨b, o, rfl, hbb, hr0⟩ := SeqAt.at_ hws (getD_some (d := default) hm)
  obtain ⟨x, hx0⟩ : ∃ x, x = c.ws.getD m default := ⟨_, rfl⟩
  rw [← hx0] at hr0
  obtain ⟨e0, e1, eok⟩ := hr0
  obtain ⟨xk, xv⟩ := x
  dsimp only at e0 e1
  obtain ⟨X, hX⟩ : ∃ X, X = chgRow wo.rows xk (commitOp c.st c.cm) := ⟨_, rfl⟩
  have HCW := Lib.hid (show commitW wo C c = (if X.2 ≠ 0 ∧ c.ph = 3 then (failW wo C c, 9) else if c.at_ + 1 = c.ws.length then (⟨X.1, wo.clock, wo.cls.set C idleC⟩, 0) else (⟨X.1, wo.clock, wo.cls.set C ⟨4, c.st, c.cm, c.ws, c.at_ + 1⟩⟩, 0)) by
    rw [commitW, ham, Int.toNat_natCast, ← hx0, hX])
  have HXE := Lib.hid (show X.2 ≠ 0 → X.1 = wo.rows by rw [hX]; exact chg_err)
  have HCR := Lib.hid (commitRow_all (w := w.drew) xk eok.1 c.st c.cm h.drew hr)
  rw [← hX] at HCR
  have HO := Lib.hid h
  have HC := Lib.hid hc
  have HR := Lib.hid hr
  have HPH := Lib.hid hph
  have HAM := Lib.hid ham
  have HOK := Lib.hid hok
  have j0 : (0 : Int) ≤ (m : Int) := by omega
  rw [ham] at c4
  clear h hc hr hws hph hX hx0 hok ham
  go_enter Tryz.func49, Tryz.ntmps49
  go_wp2
  go_still_tail 20, (by kernel_rfl)
  change wpList _ _ _ _ _ w.drew
  go_wp2_with fail
  refine HCR.out.mono ?_
  rintro e w1 ⟨rfl, ho1, hk1⟩
  obtain ⟨X1, X2⟩ := X
  dsimp only at ho1 HCW HXE
  have hk01 : Keeps B Z w w1 := ((Keeps.new HO.out.base (below_drew (Below.refl _ _))).trans hk1)
  obtain ⟨c0, c1, c2, c4, ⟨A', k', c3, _, _⟩, _, hf, hB, hZ, _⟩ := ho1.cl HC.out
  have f0 := hf (C * 5)
  have f4 := hf (C * 5 + 4)
  rw [HAM.out] at c4
  have HO1 := Lib.hid ho1
  have HK1 := Lib.hid hk01
  have HZ := Lib.hid hZ
  clear ho1 hk1 hf hZ hk01
  by_cases q0 : X2 = 0
  · have q0' : (X2 != 0) = false := by simpa using q0
    have HQ := Lib.hid q0
    clear q0
    go_wp2
    obtain ⟨W2, hW2⟩ : ∃ W2, W2 = (w1.setCell ⟨bC, C * 5, none⟩ (.int .i64 4)).setCell ⟨bC, C * 5 + 4, none⟩ (.int .i64 ((m : Int) + 1)) := ⟨_, rfl⟩
    have o1 := HO1.out.ph (v := 4) HC.out (by unfold i64; omega)
    have o2 := o1.at_ (v := (m : Int) + 1) (setC_get hC) (by unfold i64; omega)
    rw [setC_setC, ← hW2] at o2
    have hk2 : Keeps B Z w W2 := by rw [hW2]; exact (HK1.out.set (p := ⟨bC, C * 5, none⟩) hB HZ.out _).set (p := ⟨bC, C * 5 + 4, none⟩) hB HZ.out _
    obtain ⟨d0, d1, d2, d4, ⟨A2, k2, d3, _, _⟩, _⟩ := o2.cl (setC_get hC)
    dsimp only at d0 d1 d2 d3 d4
    rw [← hW2]
    have HO2 := Lib.hid o2
    have HK2 := Lib.hid hk2
    clear o1 o2 hk2 hW2 c0 c1 c2 c3 c4 f0 f4 e0 e1
    by_cases hl : m + 1 = c.ws.length
    · have hl' : ((m : Int) + 1 == (c.ws.length : Int)) = true := by rw [← hl]; simp
      have HF := Lib.hid (show commitW wo C c = (⟨X1, wo.clock, wo.cls.set C idleC⟩, 0) by rw [HCW.out, if_neg (fun e => e.1 HQ.out), if_pos (by rw [HAM.out]; omega)])
      clear hl
      go_quiet (fail)
      go_wp2_with fail
      refine (drop_any (HO2.out.drewN _) (setC_get hC) (by show (4 : Int) ≠ 0; decide)).mono ?_
      rintro e w3 ⟨rfl, ho3, hk3⟩
      rw [setC_setC] at ho3
      have HO3 := Lib.hid ho3
      have HK3 := Lib.hid hk3
      clear ho3 hk3
      go_wp2
      go_ret
      rw [HF.out]
      exact ⟨rfl, HO3.out, (HK2.out.drewN HO.out.base _).trans HK3.out⟩
    · have hl' : ((m : Int) + 1 == (c.ws.length : Int)) = false := by simpa using (show ¬ ((m : Int) + 1 = (c.ws.length : Int)) by omega)
      have HF := Lib.hid (show commitW wo C c = (⟨X1, wo.clock, wo.cls.set C ⟨4, c.st, c.cm, c.ws, (m : Int) + 1⟩⟩, 0) by rw [HCW.out, if_neg (fun e => e.1 HQ.out), if_neg (by rw [HAM.out]; omega), HAM.out])
      clear hl
      go_quiet (fail)
      go_wp2
      go_ret
      rw [HF.out]
      exact ⟨rfl, (HO2.out.drewN _), (HK2.out.drewN HO.out.base _)⟩
  · have q0' : (X2 != 0) = true := by simpa using q0
    have HQ := Lib.hid q0
    clear q0
    by_cases q3 : c.ph = 3
    · have q3' : (c.ph == 3) = true := by simpa using q3
      have HF := Lib.hid (show commitW wo C c = (failW wo C c, 9) by rw [HCW.out, if_pos ⟨HQ.out, q3⟩])
      clear q3
      have hX1 := HXE.out HQ.out
      subst hX1
      go_wp2_with fail
      refine (fail_any HO1.out HC.out HR.out hst HPH.out).mono ?_
      rintro e w3 ⟨rfl, ho3, hk3⟩
      have HO3 := Lib.hid ho3
      have HK3 := Lib.hid hk3
      clear ho3 hk3
      go_wp2
      go_ret
      rw [HF.out]
      exact ⟨rfl, HO3.out, HK1.out.trans HK3.out⟩
    · have q3' : (c.ph == 3) = false := by simpa using q3
      have HQ3 := Lib.hid q3
      clear q3
      go_wp2
      obtain ⟨W2, hW2⟩ : ∃ W2, W2 = (w1.setCell ⟨bC, C * 5, none⟩ (.int .i64 4)).setCell ⟨bC, C * 5 + 4, none⟩ (.int .i64 ((m : Int) + 1)) := ⟨_, rfl⟩
      have o1 := HO1.out.ph (v := 4) HC.out (by unfold i64; omega)
      have o2 := o1.at_ (v := (m : Int) + 1) (setC_get hC) (by unfold i64; omega)
      rw [setC_setC, ← hW2] at o2
      have hk2 : Keeps B Z w W2 := by rw [hW2]; exact (HK1.out.set (p := ⟨bC, C * 5, none⟩) hB HZ.out _).set (p := ⟨bC, C * 5 + 4, none⟩) hB HZ.out _
      obtain ⟨d0, d1, d2, d4, ⟨A2, k2, d3, _, _⟩, _⟩ := o2.cl (setC_get hC)
      dsimp only at d0 d1 d2 d3 d4
      rw [← hW2]
      have HO2 := Lib.hid o2
      have HK2 := Lib.hid hk2
      clear o1 o2 hk2 hW2 c0 c1 c2 c3 c4 f0 f4 e0 e1
      by_cases hl : m + 1 = c.ws.length
      · have hl' : ((m : Int) + 1 == (c.ws.length : Int)) = true := by rw [← hl]; simp
        have HF := Lib.hid (show commitW wo C c = (⟨X1, wo.clock, wo.cls.set C idleC⟩, 0) by rw [HCW.out, if_neg (fun e => HQ3.out e.2), if_pos (by rw [HAM.out]; omega)])
        clear hl
        go_quiet (fail)
        go_wp2_with fail
        refine (drop_any (HO2.out.drewN _) (setC_get hC) (by show (4 : Int) ≠ 0; decide)).mono ?_
        rintro e w3 ⟨rfl, ho3, hk3⟩
        rw [setC_setC] at ho3
        have HO3 := Lib.hid ho3
        have HK3 := Lib.hid hk3
        clear ho3 hk3
        go_wp2
        go_ret
        rw [HF.out]
        exact ⟨rfl, HO3.out, (HK2.out.drewN HO.out.base _).trans HK3.out⟩
      · have hl' : ((m : Int) + 1 == (c.ws.length : Int)) = false := by simpa using (show ¬ ((m : Int) + 1 = (c.ws.length : Int)) by omega)
        have HF := Lib.hid (show commitW wo C c = (⟨X1, wo.clock, wo.cls.set C ⟨4, c.st, c.cm, c.ws, (m : Int) + 1⟩⟩, 0) by rw [HCW.out, if_neg (fun e => HQ3.out e.2), if_neg (by rw [HAM.out]; omega), HAM.out])
        clear hl
        go_quiet (fail)
        go_wp2
        go_ret
        rw [HF.out]
        exact ⟨rfl, (HO2.out.drewN _), (HK2.out.drewN HO.out.base _)⟩
end
end Go.Proofs.YtambkjnhfejfaacGreatDoor
