/-
  Contracts of functions of the program and words for memory, several texts in one: TLockNext, TStep, TStep2, TStep3. Conditions: those stated with each.
-/
import Derived.Test.YtambkjnhfejfaaaGreatG23
import Derived.Test.YtambkjnhfejfaaaGreatG25
namespace Go.Proofs.YtambkjnhfejfaaaGreat
open Go.RowKit
section
variable {w : World} {Z : Nat → Prop} {B bx bC : Nat} {wo : WoM} {C : Nat} {c : ClM}
theorem lockRow_all (p1 p2 p3 q : Nat) (key pk pv : ByteArray) (st : Int) (hks : key.size ≤ maxLen) (hpk : pk.size ≤ maxLen) (hpv : pv.size ≤ maxLen) (hst : i64 st) (h : Own w true Z B bx bC wo) (hr : RowsOk wo.rows) (h1 : w.cell? ⟨p1, 0, none⟩ = some (.pointer (some ⟨bC, q, none⟩))) (h2 : w.cell? ⟨bC, q + 1, none⟩ = some (.int .i64 st)) (h3 : w.cell? ⟨p2, 0, none⟩ = some (.string pk)) (h4 : w.cell? ⟨p3, 1, none⟩ = some (.string pv)) :
 Calls Tryz.prog 79 #[.pointer (some ⟨bx, 0, none⟩), .string key, .func (.func 80) #[] #[.pointer (some ⟨p1, 0, none⟩), .pointer (some ⟨p2, 0, none⟩), .pointer (some ⟨p3, 0, none⟩)]] w (NumOut false Z B bx bC (⟨(chgRow wo.rows key (lockOp st pk pv)).1, wo.clock, wo.cls⟩, (chgRow wo.rows key (lockOp st pk pv)).2) w) := by
 have b1 := World.block_lt_of_cell? w _ h1
 have b2 := World.block_lt_of_cell? w _ h2
 have b3 := World.block_lt_of_cell? w _ h3
 have b4 := World.block_lt_of_cell? w _ h4
 have hF : ∀ (r : RowM) (A : Option Addr) (n c : Nat) (W : World), Below w.heap.size w W → OpIn W r A n c → Calls Tryz.prog 80 #[rV r A n c, .pointer (some ⟨p1, 0, none⟩), .pointer (some ⟨p2, 0, none⟩), .pointer (some ⟨p3, 0, none⟩)] W (OpOut (lockOp st pk pv r) W) :=
  fun r A n c W hb hin => lockOpFn r A n c st pk pv p1 p2 p3 bC q W hin hpk hpv ((hb.cell (p := ⟨p1, 0, none⟩) b1).trans h1) ((hb.cell (p := ⟨bC, q + 1, none⟩) b2).trans h2) ((hb.cell (p := ⟨p2, 0, none⟩) b3).trans h3) ((hb.cell (p := ⟨p3, 1, none⟩) b4).trans h4)
 have hE : ∀ args w, (callFunc 80 args).run Tryz.prog w = .ok (.enter 80 args) w := enters_of Tryz.func80 (by kernel_rfl) rfl
 by_cases hk : hasK (rowKeys wo.rows) key = true
 ·exact (change3_found _ p1 p2 p3 (lockOp st pk pv) hE hF key h hr hk (lockOp_ok (h.rowOk (rowAt_mem hk)) hst hpk hpv)).mono fun _ _ x => ⟨x.1.1, x.1.2.1.loose, x.1.2.2⟩
 ·exact change3_new _ p1 p2 p3 (lockOp st pk pv) hE hF key hks h hr (by simpa using hk) (lockOp_ok (fresh_ok hks) hst hpk hpv)
theorem setC_self (hc : wo.cls[C]? = some c) : wo.setC C c = wo := by
 have : wo.cls.set C c = wo.cls := by
  apply List.ext_getElem?
  intro i
  rw [List.getElem?_set]
  split
  ·rename_i e
   subst e
   split
   ·exact hc.symm
   ·rename_i hlt
    exact absurd (List.getElem?_eq_some_iff.1 hc).1 hlt
  ·rfl
 unfold WoM.setC
 rw [this]
theorem boxes_a (W0 : World) (pk xk xv : ByteArray) : ∃ W, W = ((W0.alloc (.cells #[.string pk] 9)).alloc (.cells #[.string xk, .string xv] 58)).drew ∧ Below W0.heap.size W0 W ∧ W.cell? ⟨W0.heap.size, 0, none⟩ = some (.string pk) ∧ W.cell? ⟨W0.heap.size + 1, 0, none⟩ = some (.string xk) ∧ W.cell? ⟨W0.heap.size + 1, 1, none⟩ = some (.string xv) :=
 ⟨_, rfl, below_drew (below_alloc (below_alloc (Below.refl _ _) _) _), by simp, by simp, by simp⟩
theorem boxes_b (W0 : World) (pk xk xv : ByteArray) : ∃ W, W = ((W0.alloc (.cells #[.string xk, .string xv] 58)).alloc (.cells #[.string pk] 9)).drew ∧ Below W0.heap.size W0 W ∧ W.cell? ⟨W0.heap.size + 1, 0, none⟩ = some (.string pk) ∧ W.cell? ⟨W0.heap.size, 0, none⟩ = some (.string xk) ∧ W.cell? ⟨W0.heap.size, 1, none⟩ = some (.string xv) :=
 ⟨_, rfl, below_drew (below_alloc (below_alloc (Below.refl _ _) _) _), by simp, by simp, by simp⟩
set_option maxRecDepth 100000 in
set_option maxHeartbeats 4000000 in
theorem lockNext_any (h : Own w true Z B bx bC wo) (hc : wo.cls[C]? = some c) (hr : RowsOk wo.rows) (hst : inB c.st 1 1099511627776 = true) (hph : c.ph ≠ 0) {m : Nat} (hm : m < c.ws.length) (ham : c.at_ = m) :
 Calls Tryz.prog 52 #[.pointer (some ⟨bx, 0, none⟩), .pointer (some ⟨bC, C * 5, none⟩)] w (NumOut false Z B bx bC (lockW wo C c) w) := by
 obtain ⟨c0, c1, c2, c4, ⟨A, k, c3, hq, hws⟩, hok, _, _, _, hC⟩ := h.cl hc
 have hlen : c.ws.length ≤ 4398046511104 := hws.1
 have hm0 : 0 < c.ws.length := by omega
 obtain ⟨b, o, rfl, hbb, hz⟩ := SeqAt.at_ hws (getD_some (d := default) hm0)
 obtain ⟨b', o', hA, _, hr0⟩ := SeqAt.at_ hws (getD_some (d := default) hm)
 cases hA
 obtain ⟨pk, hpk0⟩ : ∃ pk, pk = (c.ws.getD 0 default).k := ⟨_, rfl⟩
 obtain ⟨x, hx0⟩ : ∃ x, x = c.ws.getD m default := ⟨_, rfl⟩
 obtain ⟨z0, _, zok⟩ := hz
 rw [← hpk0, Nat.zero_mul, Nat.add_zero] at z0
 have hpk := zok.1
 rw [← hpk0] at hpk
 rw [← hx0] at hr0
 obtain ⟨e0, e1, eok⟩ := hr0
 obtain ⟨xk, xv⟩ := x
 dsimp only at e0 e1
 obtain ⟨X, hX⟩ : ∃ X, X = chgRow wo.rows xk (lockOp c.st pk xv) := ⟨_, rfl⟩
 have HLW := Lib.hid (show lockW wo C c = (if X.2 = 0 then (⟨X.1, wo.clock, wo.cls.set C { c with at_ := c.at_ + 1 }⟩, 0) else if X.2 = 7 then (wo.setC C c, 7) else (failW wo C c, X.2)) by
  rw [lockW, ham, Int.toNat_natCast, ← hx0, ← hpk0, hX])
 have HXE := Lib.hid (show X.2 ≠ 0 → X.1 = wo.rows by rw [hX]; exact chg_err)
 obtain ⟨W0, hW0⟩ : ∃ W0, W0 = w.alloc (.cells #[.pointer (some ⟨bC, C * 5, none⟩)] 72) := ⟨_, rfl⟩
 have hb0 : Below w.heap.size w W0 := by rw [hW0]; exact below_alloc (Below.refl _ _) _
 have hs0 : W0.heap.size = w.heap.size + 1 := by rw [hW0]; simp
 have g1 : W0.cell? ⟨w.heap.size, 0, none⟩ = some (.pointer (some ⟨bC, C * 5, none⟩)) := by rw [hW0]; simp
 have hbC : bC < w.heap.size := World.block_lt_of_cell? w _ c0
 rw [ham] at c4
 have d1 := (hb0.cell (p := ⟨bC, C * 5 + 1, none⟩) hbC).trans c1
 have d3 := (hb0.cell (p := ⟨bC, C * 5 + 3, none⟩) hbC).trans c3
 have d4 := (hb0.cell (p := ⟨bC, C * 5 + 4, none⟩) hbC).trans c4
 have y0 := (hb0.cell (p := ⟨b, o, none⟩) hbb).trans z0
 have y1 := (hb0.cell (p := ⟨b, o + m * 2, none⟩) hbb).trans e0
 have y2 := (hb0.cell (p := ⟨b, o + m * 2 + 1, none⟩) hbb).trans e1
 have HO := Lib.hid h
 have HC := Lib.hid hc
 have HR := Lib.hid hr
 have HPH := Lib.hid hph
 have HAM := Lib.hid ham
 have HOK := Lib.hid hok
 have HXX := Lib.hid hX
 have HW0 := Lib.hid hW0
 have HB0 := Lib.hid hb0
 have j0 : (0 : Int) ≤ (m : Int) := by omega
 have hs1 : w.heap.size < W0.heap.size := by omega
 have hs2 : bC < W0.heap.size := by omega
 have hs3 : b < W0.heap.size := by omega
 have HSK := Lib.hid (show ∀ W, Below W0.heap.size W0 W → W.cell? ⟨w.heap.size, 0, none⟩ = some (.pointer (some ⟨bC, C * 5, none⟩)) ∧ W.cell? ⟨bC, C * 5 + 3, none⟩ = some (.slice (some ⟨b, o, none⟩) c.ws.length k) ∧ W.cell? ⟨bC, C * 5 + 4, none⟩ = some (.int .i64 m) ∧ W.cell? ⟨b, o, none⟩ = some (.string pk) ∧ W.cell? ⟨b, o + m * 2, none⟩ = some (.string xk) ∧ W.cell? ⟨b, o + m * 2 + 1, none⟩ = some (.string xv) from
  fun W hb => ⟨(hb.cell (p := ⟨w.heap.size, 0, none⟩) hs1).trans g1, (hb.cell (p := ⟨bC, C * 5 + 3, none⟩) hs2).trans d3, (hb.cell (p := ⟨bC, C * 5 + 4, none⟩) hs2).trans d4, (hb.cell (p := ⟨b, o, none⟩) hs3).trans y0, (hb.cell (p := ⟨b, o + m * 2, none⟩) hs3).trans y1, (hb.cell (p := ⟨b, o + m * 2 + 1, none⟩) hs3).trans y2⟩)
 clear h hc hr hws hph hX hx0 hok ham hpk0 zok c0 c1 c2 c3 c4 z0 e0 e1 hW0 hb0
 go_enter Tryz.func52, Tryz.ntmps52
 go_wp2
 rw [← HW0.out]
 refine wp_region_held_drew (S := fun W => W.cell? ⟨w.heap.size, 0, none⟩ = some (.pointer (some ⟨bC, C * 5, none⟩)) ∧ W.cell? ⟨bC, C * 5 + 3, none⟩ = some (.slice (some ⟨b, o, none⟩) c.ws.length k) ∧ W.cell? ⟨bC, C * 5 + 4, none⟩ = some (.int .i64 m) ∧ W.cell? ⟨b, o, none⟩ = some (.string pk) ∧ W.cell? ⟨b, o + m * 2, none⟩ = some (.string xk) ∧ W.cell? ⟨b, o + m * 2 + 1, none⟩ = some (.string xv)) (by kernel_rfl) ?_ (fun hHeld => ?_)
 ·exact ⟨g1, d3, d4, y0, y1, y2⟩
 refine tq 0 ?_
 refine tq 1 ?_
 refine tq 2 ?_
 refine tq 3 ?_
 refine tq 4 ?_
 refine tq 5 ?_
 refine tq 6 ?_
 refine tq 7 ?_
 refine tq 8 ?_
 refine tq 9 ?_
 refine tq 10 ?_
 refine tq 11 ?_
 refine tq 12 ?_
 refine tq 13 ?_
 refine tq 14 ?_
 refine tq 15 ?_
 refine tq 16 ?_
 refine wpAnyH_ready (rs := [17, 18]) (by kernel_rfl) (by simp) ?_
 refine AllReadyH.cons (o := ?_) ?_ (fun K hK => ?_) ?_
 rotate_left 1
 ·(simp only [List.getElem?_toArray, List.getElem?_cons_zero, List.getElem?_cons_succ]; rfl)
 ·go_simp
  clear hHeld
  (refine hK.out _ _ ?_ (fun hHeld => ?_); exact HSK.out _ (by repeat (first | with_reducible exact Below.refl _ _ | with_reducible apply below_drew | with_reducible apply below_alloc | (with_reducible refine below_set ?_ (by show W0.heap.size ≤ _; omega) _))); clear hK K)
  (refine cop 18 (h := fun K hK => ?_); go_simp)
  clear hHeld
  (refine hK.out _ _ ?_ (fun hHeld => ?_); exact HSK.out _ (by repeat (first | with_reducible exact Below.refl _ _ | with_reducible apply below_drew | with_reducible apply below_alloc | (with_reducible refine below_set ?_ (by show W0.heap.size ≤ _; omega) _))); clear hK K)
  (refine cop 19 (h := fun K hK => ?_); go_simp)
  clear hHeld
  (refine hK.out _ _ ?_ (fun hHeld => ?_); exact HSK.out _ (by repeat (first | with_reducible exact Below.refl _ _ | with_reducible apply below_drew | with_reducible apply below_alloc | (with_reducible refine below_set ?_ (by show W0.heap.size ≤ _; omega) _))); clear hK K)
  (refine cop 20 (h := fun K hK => ?_); go_simp)
  clear hHeld
  (refine hK.out _ _ ?_ (fun hHeld => ?_); exact HSK.out _ (by repeat (first | with_reducible exact Below.refl _ _ | with_reducible apply below_drew | with_reducible apply below_alloc | (with_reducible refine below_set ?_ (by show W0.heap.size ≤ _; omega) _))); clear hK K)
  refine wpAnyH_done (by kernel_rfl) ?_ _
  clear hHeld
  obtain ⟨W3, hW3, hb3, k2, k3, k4⟩ := boxes_a W0 pk xk xv
  rw [← hW3]
  rw [hs0] at k2 k3 k4
  have k1 := (hb3.cell (p := ⟨w.heap.size, 0, none⟩) hs1).trans g1
  have k5 := (hb3.cell (p := ⟨bC, C * 5 + 1, none⟩) hs2).trans d1
  have hbw3 : Below w.heap.size w W3 := below_next HB0.out hb3
  have HBW := Lib.hid hbw3
  have HB3 := Lib.hid hb3
  have hs4 : w.heap.size < W3.heap.size := Nat.lt_of_lt_of_le hs1 hb3.size
  clear hW3 hb3 hbw3 d1 d3 d4 y0 y1 y2 g1
  go_wp2_with fail
  refine (lockRow_all w.heap.size (w.heap.size + 1) (w.heap.size + 1 + 1) (C * 5) xk pk xv c.st eok.1 hpk eok.2 HOK.out.s ((HO.out.more HB0.out (Nat.le_refl _) hs1).upto HB3.out) HR.out k1 k5 k2 k4).mono ?_
  rw [← HXX.out]
  rintro e w4 ⟨rfl, ho4, hk4⟩
  have k6 := (hk4.cell hs4 (.inr rfl) 0).trans k1
  have hk04 : Keeps B Z w w4 := (Keeps.new HO.out.base HBW.out).trans (hk4.less fun b e => .inl e)
  obtain ⟨X1, X2⟩ := X
  dsimp only at ho4 HLW HXE
  obtain ⟨c0, c1, c2, c4, ⟨A', k', c3, _, _⟩, _, hf, hB, hZ, _⟩ := ho4.cl HC.out
  have f4 := hf (C * 5 + 4)
  rw [HAM.out] at c4
  have HO4 := Lib.hid (ho4.less (Z' := Z) fun b e => .inl e)
  have HK4 := Lib.hid hk04
  have HZ := Lib.hid (show ¬ Z bC from fun e => hZ (.inl e))
  clear ho4 hk4 hf hZ hk04 k1 k2 k3 k4 k5 HXX
  by_cases q0 : X2 = 0
  ·subst q0
   have HF := Lib.hid (show lockW wo C c = (⟨X1, wo.clock, wo.cls.set C { c with at_ := (m : Int) + 1 }⟩, 0) by rw [HLW.out, if_pos rfl, HAM.out])
   go_wp2
   go_ret
   rw [HF.out]
   exact ⟨rfl, HO4.out.at_ (v := (m : Int) + 1) HC.out (by unfold i64; omega), HK4.out.set (p := ⟨bC, C * 5 + 4, none⟩) hB HZ.out _⟩
  ·have hX1 := HXE.out q0
   subst hX1
   by_cases q7 : X2 = 7
   ·subst q7
    have HF := Lib.hid (show lockW wo C c = (wo, 7) by rw [HLW.out, if_neg (by decide), if_pos rfl, setC_self HC.out])
    go_wp2
    go_ret
    rw [HF.out]
    exact ⟨rfl, HO4.out, HK4.out⟩
   ·have HF := Lib.hid (show lockW wo C c = (failW wo C c, X2) by rw [HLW.out, if_neg q0, if_neg q7])
    have q0' : (X2 == 0) = false := by simpa using q0
    have q7' : (X2 == 7) = false := by simpa using q7
    clear q0 q7
    go_wp2_with fail
    refine (fail_any HO4.out HC.out HR.out hst HPH.out).mono ?_
    rintro e w5 ⟨rfl, ho5, hk5⟩
    have HO5 := Lib.hid ho5
    have HK5 := Lib.hid hk5
    clear ho5 hk5
    go_wp2
    go_ret
    rw [HF.out]
    exact ⟨rfl, HO5.out, HK4.out.trans HK5.out⟩
 ·refine AllReadyH.cons (o := ?_) ?_ (fun K hK => ?_) AllReadyH.nil
  rotate_left 1
  ·(simp only [List.getElem?_toArray, List.getElem?_cons_zero, List.getElem?_cons_succ]; rfl)
  ·go_simp
   clear hHeld
   (refine hK.out _ _ ?_ (fun hHeld => ?_); exact HSK.out _ (by repeat (first | with_reducible exact Below.refl _ _ | with_reducible apply below_drew | with_reducible apply below_alloc | (with_reducible refine below_set ?_ (by show W0.heap.size ≤ _; omega) _))); clear hK K)
   (refine cop 17 (h := fun K hK => ?_); go_simp)
   clear hHeld
   (refine hK.out _ _ ?_ (fun hHeld => ?_); exact HSK.out _ (by repeat (first | with_reducible exact Below.refl _ _ | with_reducible apply below_drew | with_reducible apply below_alloc | (with_reducible refine below_set ?_ (by show W0.heap.size ≤ _; omega) _))); clear hK K)
   (refine cop 19 (h := fun K hK => ?_); go_simp)
   clear hHeld
   (refine hK.out _ _ ?_ (fun hHeld => ?_); exact HSK.out _ (by repeat (first | with_reducible exact Below.refl _ _ | with_reducible apply below_drew | with_reducible apply below_alloc | (with_reducible refine below_set ?_ (by show W0.heap.size ≤ _; omega) _))); clear hK K)
   (refine cop 20 (h := fun K hK => ?_); go_simp)
   clear hHeld
   (refine hK.out _ _ ?_ (fun hHeld => ?_); exact HSK.out _ (by repeat (first | with_reducible exact Below.refl _ _ | with_reducible apply below_drew | with_reducible apply below_alloc | (with_reducible refine below_set ?_ (by show W0.heap.size ≤ _; omega) _))); clear hK K)
   refine wpAnyH_done (by kernel_rfl) ?_ _
   clear hHeld
   obtain ⟨W3, hW3, hb3, k2, k3, k4⟩ := boxes_b W0 pk xk xv
   rw [← hW3]
   rw [hs0] at k2 k3 k4
   have k1 := (hb3.cell (p := ⟨w.heap.size, 0, none⟩) hs1).trans g1
   have k5 := (hb3.cell (p := ⟨bC, C * 5 + 1, none⟩) hs2).trans d1
   have hbw3 : Below w.heap.size w W3 := below_next HB0.out hb3
   have HBW := Lib.hid hbw3
   have HB3 := Lib.hid hb3
   have hs4 : w.heap.size < W3.heap.size := Nat.lt_of_lt_of_le hs1 hb3.size
   clear hW3 hb3 hbw3 d1 d3 d4 y0 y1 y2 g1
   go_wp2_with fail
   refine (lockRow_all w.heap.size (w.heap.size + 1 + 1) (w.heap.size + 1) (C * 5) xk pk xv c.st eok.1 hpk eok.2 HOK.out.s ((HO.out.more HB0.out (Nat.le_refl _) hs1).upto HB3.out) HR.out k1 k5 k2 k4).mono ?_
   rw [← HXX.out]
   rintro e w4 ⟨rfl, ho4, hk4⟩
   have k6 := (hk4.cell hs4 (.inr rfl) 0).trans k1
   have hk04 : Keeps B Z w w4 := (Keeps.new HO.out.base HBW.out).trans (hk4.less fun b e => .inl e)
   obtain ⟨X1, X2⟩ := X
   dsimp only at ho4 HLW HXE
   obtain ⟨c0, c1, c2, c4, ⟨A', k', c3, _, _⟩, _, hf, hB, hZ, _⟩ := ho4.cl HC.out
   have f4 := hf (C * 5 + 4)
   rw [HAM.out] at c4
   have HO4 := Lib.hid (ho4.less (Z' := Z) fun b e => .inl e)
   have HK4 := Lib.hid hk04
   have HZ := Lib.hid (show ¬ Z bC from fun e => hZ (.inl e))
   clear ho4 hk4 hf hZ hk04 k1 k2 k3 k4 k5 HXX
   by_cases q0 : X2 = 0
   ·subst q0
    have HF := Lib.hid (show lockW wo C c = (⟨X1, wo.clock, wo.cls.set C { c with at_ := (m : Int) + 1 }⟩, 0) by rw [HLW.out, if_pos rfl, HAM.out])
    go_wp2
    go_ret
    rw [HF.out]
    exact ⟨rfl, HO4.out.at_ (v := (m : Int) + 1) HC.out (by unfold i64; omega), HK4.out.set (p := ⟨bC, C * 5 + 4, none⟩) hB HZ.out _⟩
   ·have hX1 := HXE.out q0
    subst hX1
    by_cases q7 : X2 = 7
    ·subst q7
     have HF := Lib.hid (show lockW wo C c = (wo, 7) by rw [HLW.out, if_neg (by decide), if_pos rfl, setC_self HC.out])
     go_wp2
     go_ret
     rw [HF.out]
     exact ⟨rfl, HO4.out, HK4.out⟩
    ·have HF := Lib.hid (show lockW wo C c = (failW wo C c, X2) by rw [HLW.out, if_neg q0, if_neg q7])
     have q0' : (X2 == 0) = false := by simpa using q0
     have q7' : (X2 == 7) = false := by simpa using q7
     clear q0 q7
     go_wp2_with fail
     refine (fail_any HO4.out HC.out HR.out hst HPH.out).mono ?_
     rintro e w5 ⟨rfl, ho5, hk5⟩
     have HO5 := Lib.hid ho5
     have HK5 := Lib.hid hk5
     clear ho5 hk5
     go_wp2
     go_ret
     rw [HF.out]
     exact ⟨rfl, HO5.out, HK4.out.trans HK5.out⟩
end
section
variable {w : World} {Z : Nat → Prop} {B bx bC : Nat} {wo : WoM} {C : Nat} {c : ClM}
set_option maxRecDepth 100000 in
set_option maxHeartbeats 4000000 in
theorem step_close (h : Own w true Z B bx bC wo) (hc : wo.cls[C]? = some c) (hr : RowsOk wo.rows) (hst : inB c.st 1 1099511627776 = true) (hp : c.ph = 3 ∨ c.ph = 4) {m : Nat} (hm : m < c.ws.length) (ham : c.at_ = m) :
 Calls Tryz.prog 32 #[.pointer (some ⟨bx, 0, none⟩), .pointer (some ⟨bC, C * 5, none⟩)] w (AnsOut false Z B bx bC (stepW wo C c) w) := by
 obtain ⟨W0, hW, hb0, hs0, z0, z1, z2, z3, z4, zf⟩ := ans_new w
 have hg : w.heap.size < W0.heap.size := by omega
 have hph : c.ph ≠ 0 := by omega
 have HCN := Lib.hid (commitNext_any (h.more hb0 (Nat.le_refl _) hg) hc hr hst hph hm ham)
 obtain ⟨Y, hY⟩ : ∃ Y, Y = commitW wo C c := ⟨_, rfl⟩
 rw [← hY] at HCN
 have HSW := Lib.hid (show stepW wo C c = (Y.1, ansCode Y.2) by
  rw [stepW, if_neg (by omega), if_neg (by omega), if_pos hp, hY])
 have HW := Lib.hid hW
 have HB0 := Lib.hid hb0
 have HO0 := Lib.hid h
 have HZF := Lib.hid zf
 obtain ⟨c0, _⟩ := h.cl hc
 have hbC : bC < w.heap.size := World.block_lt_of_cell? w _ c0
 obtain ⟨Y1, Y2⟩ := Y
 dsimp only at HSW
 rcases hp with hp | hp
 all_goals
  rw [hp] at c0
  clear h hc hr hb0 hW zf hY hph ham
  go_enter Tryz.func32, Tryz.ntmps32
  go_wp2_with fail
  rw [← HW.out]
  refine HCN.out.mono ?_
  rintro e w1 ⟨rfl, ho1, hk1⟩
  obtain ⟨y0, y1, y2, y3, y4, g0, g1, g2, g3, g4⟩ := ans_later hk1 hg (.inr rfl) z0 z1 z2 z3 z4 HZF.out
  have HO1 := Lib.hid ho1
  have HK1 := Lib.hid hk1
  clear ho1 hk1
  go_wp2
  obtain ⟨hA, hK⟩ := ans_end HO0.out HB0.out rfl HO1.out HK1.out (.int .i64 Y2) (.bool false) (.string ⟨#[]⟩) (.int .i64 0) (.int .i64 0)
  rw [HSW.out]
  exact bodyPost_ret (v := ansV (ansCode Y2)) (by simp [results, Tryz.results32, go_sem, y0, y1, y2, y3, y4, ansCode]) rfl ⟨rfl, hA, hK⟩
set_option maxRecDepth 100000 in
set_option maxHeartbeats 4000000 in
theorem step_lock (h : Own w true Z B bx bC wo) (hc : wo.cls[C]? = some c) (hr : RowsOk wo.rows) (hst : inB c.st 1 1099511627776 = true) (hp : c.ph = 2) {m : Nat} (hm : m < c.ws.length) (ham : c.at_ = m) :
 Calls Tryz.prog 32 #[.pointer (some ⟨bx, 0, none⟩), .pointer (some ⟨bC, C * 5, none⟩)] w (AnsOut false Z B bx bC (stepW wo C c) w) := by
 obtain ⟨W0, hW, hb0, hs0, z0, z1, z2, z3, z4, zf⟩ := ans_new w
 have hg : w.heap.size < W0.heap.size := by omega
 have hph : c.ph ≠ 0 := by omega
 obtain ⟨Y, hY⟩ : ∃ Y, Y = lockW wo C c := ⟨_, rfl⟩
 have HCN := Lib.hid (fun n => lockNext_any ((h.more hb0 (Nat.le_refl _) hg).drewN n) hc hr hst hph hm ham)
 rw [← hY] at HCN
 have HSW := Lib.hid (show stepW wo C c = (Y.1, ansCode Y.2) by
  rw [stepW, if_neg (by omega), if_pos hp, if_neg (by omega), hY])
 have HW := Lib.hid hW
 have HB0 := Lib.hid hb0
 have HO0 := Lib.hid h
 have HZF := Lib.hid zf
 obtain ⟨c0, _, _, c4, ⟨A, k, c3, _, _⟩, _⟩ := h.cl hc
 have hbC : bC < w.heap.size := World.block_lt_of_cell? w _ c0
 have t0 : ((m : Int) == (c.ws.length : Int)) = false := by simpa using (show ¬ ((m : Int) = (c.ws.length : Int)) by omega)
 have hBW : B ≤ W0.heap.size := by have := h.base; omega
 obtain ⟨Y1, Y2⟩ := Y
 dsimp only at HSW
 rw [hp] at c0
 rw [ham] at c4
 clear h hc hr hb0 hW zf hY hph ham
 go_enter Tryz.func32, Tryz.ntmps32
 go_wp2
 go_quiet (fail)
 go_wp2_with fail
 rw [← HW.out]
 refine (HCN.out _).mono ?_
 rintro e w1 ⟨rfl, ho1, hk1'⟩
 have hk1 := ((Keeps.refl B (fun b => Z b ∨ b = w.heap.size) W0).drewN hBW _).trans hk1'
 obtain ⟨y0, y1, y2, y3, y4, g0, g1, g2, g3, g4⟩ := ans_later hk1 hg (.inr rfl) z0 z1 z2 z3 z4 HZF.out
 have HO1 := Lib.hid ho1
 have HK1 := Lib.hid hk1
 clear ho1 hk1 hk1'
 go_wp2
 obtain ⟨hA, hK⟩ := ans_end HO0.out HB0.out rfl HO1.out HK1.out (.int .i64 Y2) (.bool false) (.string ⟨#[]⟩) (.int .i64 0) (.int .i64 0)
 rw [HSW.out]
 exact bodyPost_ret (v := ansV (ansCode Y2)) (by simp [results, Tryz.results32, go_sem, y0, y1, y2, y3, y4, ansCode]) rfl ⟨rfl, hA, hK⟩
end
section
variable {w : World} {Z : Nat → Prop} {B bx bC : Nat} {wo : WoM} {C : Nat} {c : ClM}
set_option maxRecDepth 100000 in
set_option maxHeartbeats 4000000 in
theorem step_seal (h : Own w true Z B bx bC wo) (hc : wo.cls[C]? = some c) (h0 : 0 ≤ wo.clock) (h1 : wo.clock ≤ 1099511627376) (hp : c.ph = 2) (ham : c.at_ = c.ws.length) :
 Calls Tryz.prog 32 #[.pointer (some ⟨bx, 0, none⟩), .pointer (some ⟨bC, C * 5, none⟩)] w (AnsOut false Z B bx bC (stepW wo C c) w) := by
 obtain ⟨W0, hW, hb0, hs0, z0, z1, z2, z3, z4, zf⟩ := ans_new w
 have hg : w.heap.size < W0.heap.size := by omega
 have HCN := Lib.hid (fun n => seal_any ((h.more hb0 (Nat.le_refl _) hg).loose.drewN n) hc h0 h1)
 have HSW := Lib.hid (show stepW wo C c = sealW wo C c by
  rw [stepW, if_neg (by omega), if_pos hp, if_pos ham])
 have HW := Lib.hid hW
 have HB0 := Lib.hid hb0
 have HO0 := Lib.hid h
 have HZF := Lib.hid zf
 obtain ⟨c0, _, _, c4, ⟨A, k, c3, _, _⟩, _⟩ := h.cl hc
 have hbC : bC < w.heap.size := World.block_lt_of_cell? w _ c0
 have hBW : B ≤ W0.heap.size := by have := h.base; omega
 rw [hp] at c0
 rw [ham] at c4
 clear h hc hb0 hW zf ham
 go_enter Tryz.func32, Tryz.ntmps32
 go_wp2
 go_quiet (fail)
 go_wp2_with fail
 rw [← HW.out]
 refine (HCN.out _).mono ?_
 rintro e w1 ⟨rfl, ho1, hk1'⟩
 have hk1 := ((Keeps.refl B (fun b => Z b ∨ b = w.heap.size) W0).drewN hBW _).trans hk1'
 obtain ⟨y0, y1, y2, y3, y4, g0, g1, g2, g3, g4⟩ := ans_later hk1 hg (.inr rfl) z0 z1 z2 z3 z4 HZF.out
 have HO1 := Lib.hid ho1
 have HK1 := Lib.hid hk1
 clear ho1 hk1 hk1'
 go_wp2
 obtain ⟨hA, hK⟩ := ans_end HO0.out HB0.out rfl HO1.out HK1.out (.int .i64 0) (.bool false) (.string ⟨#[]⟩) (.int .i64 0) (.int .i64 (wo.clock + 1))
 rw [HSW.out]
 exact bodyPost_ret (v := ansV (ansTime (wo.clock + 1))) (by simp [results, Tryz.results32, go_sem, y0, y1, y2, y3, y4, ansTime, sealW]) rfl ⟨rfl, hA, hK⟩
end
theorem lockW_setC {wo : WoM} {C : Nat} {c c' : ClM} : lockW (wo.setC C c') C c = lockW wo C c := by
 simp [lockW, WoM.setC, failW]
section
variable {w : World} {Z : Nat → Prop} {B bx bC : Nat} {wo : WoM} {C : Nat} {c : ClM}
set_option maxRecDepth 100000 in
set_option maxHeartbeats 4000000 in
theorem step_none (h : Own w true Z B bx bC wo) (hc : wo.cls[C]? = some c) (hp : c.ph = 0) :
 Calls Tryz.prog 32 #[.pointer (some ⟨bx, 0, none⟩), .pointer (some ⟨bC, C * 5, none⟩)] w (AnsOut false Z B bx bC (stepW wo C c) w) := by
 have HSW := Lib.hid (show stepW wo C c = (wo, ansCode 6) by
  rw [stepW, if_neg (by omega), if_neg (by omega), if_neg (by omega)])
 have HO0 := Lib.hid h
 obtain ⟨c0, _⟩ := h.cl hc
 have hbC : bC < w.heap.size := World.block_lt_of_cell? w _ c0
 rw [hp] at c0
 clear h hc
 go_enter Tryz.func32, Tryz.ntmps32
 go_wp2
 rw [HSW.out]
 have hal : Below w.heap.size w (w.alloc (.cells #[.int .i64 6, .bool false, .string ⟨#[]⟩, .int .i64 0, .int .i64 0] 31)) := below_alloc (Below.refl _ _) _
 exact bodyPost_ret (v := ansV (ansCode 6)) (by simp [results, Tryz.results32, go_sem, ansCode]) rfl ⟨rfl, HO0.out.loose.upto hal, Keeps.new HO0.out.base hal⟩
set_option maxRecDepth 100000 in
set_option maxHeartbeats 4000000 in
theorem step_empty (h : Own w true Z B bx bC wo) (hc : wo.cls[C]? = some c) (hp : c.ph = 1) (hl : c.ws.length = 0) :
 Calls Tryz.prog 32 #[.pointer (some ⟨bx, 0, none⟩), .pointer (some ⟨bC, C * 5, none⟩)] w (AnsOut false Z B bx bC (stepW wo C c) w) := by
 obtain ⟨W0, hW, hb0, hs0, z0, z1, z2, z3, z4, zf⟩ := ans_new w
 have hg : w.heap.size < W0.heap.size := by omega
 have hph : c.ph ≠ 0 := by omega
 have HCN := Lib.hid (fun n => drop_any ((h.more hb0 (Nat.le_refl _) hg).loose.drewN n) hc hph)
 have HSW := Lib.hid (show stepW wo C c = (wo.setC C idleC, ansCode 0) by
  rw [stepW, if_pos hp, if_pos hl])
 have HW := Lib.hid hW
 have HB0 := Lib.hid hb0
 have HO0 := Lib.hid h
 have HZF := Lib.hid zf
 obtain ⟨c0, _, _, c4, ⟨A, k, c3, _, _⟩, _⟩ := h.cl hc
 have hbC : bC < w.heap.size := World.block_lt_of_cell? w _ c0
 have hBW : B ≤ W0.heap.size := by have := h.base; omega
 rw [hp] at c0
 rw [hl] at c3
 clear h hc hb0 hW zf hph
 go_enter Tryz.func32, Tryz.ntmps32
 go_wp2_with fail
 rw [← HW.out]
 refine (HCN.out 0).mono ?_
 rintro e w1 ⟨rfl, ho1, hk1'⟩
 have hk1 := ((Keeps.refl B (fun b => Z b ∨ b = w.heap.size) W0).drewN hBW _).trans hk1'
 obtain ⟨y0, y1, y2, y3, y4, g0, g1, g2, g3, g4⟩ := ans_later hk1 hg (.inr rfl) z0 z1 z2 z3 z4 HZF.out
 have HO1 := Lib.hid ho1
 have HK1 := Lib.hid hk1
 clear ho1 hk1 hk1'
 go_wp2
 obtain ⟨hA, hK⟩ := ans_end HO0.out HB0.out rfl HO1.out HK1.out (.int .i64 0) (.bool false) (.string ⟨#[]⟩) (.int .i64 0) (.int .i64 0)
 rw [HSW.out]
 exact bodyPost_ret (v := ansV (ansCode 0)) (by simp [results, Tryz.results32, go_sem, y0, y1, y2, y3, y4, ansCode]) rfl ⟨rfl, hA, hK⟩
set_option maxRecDepth 100000 in
set_option maxHeartbeats 4000000 in
theorem step_open (h : Own w true Z B bx bC wo) (hc : wo.cls[C]? = some c) (hr : RowsOk wo.rows) (hst : inB c.st 1 1099511627776 = true) (hp : c.ph = 1) (hm : 0 < c.ws.length) (ham : c.at_ = 0) :
 Calls Tryz.prog 32 #[.pointer (some ⟨bx, 0, none⟩), .pointer (some ⟨bC, C * 5, none⟩)] w (AnsOut false Z B bx bC (stepW wo C c) w) := by
 obtain ⟨c0, _, _, c4, ⟨A, k, c3, hk3, hws⟩, _, hf, hB, hZ, hC⟩ := h.cl hc
 have hlen : c.ws.length ≤ 4398046511104 := hws.1
 obtain ⟨V, hV⟩ : ∃ V, V = w.setCell ⟨bC, C * 5, none⟩ (.int .i64 2) := ⟨_, rfl⟩
 have hoV : Own V true Z B bx bC (wo.setC C { c with ph := 2 }) := by rw [hV]; exact h.ph (v := 2) hc (by unfold i64; omega)
 have hsV : V.heap.size = w.heap.size := by rw [hV]; exact (set1_same _ _ _).sz
 have hkV : Keeps B Z w V := by rw [hV]; exact (Keeps.refl _ _ _).set (p := ⟨bC, C * 5, none⟩) hB hZ _
 obtain ⟨W0, hW, hb0, hs0, z0, z1, z2, z3, z4, zf⟩ := ans_new V
 have hg : V.heap.size < W0.heap.size := by omega
 obtain ⟨Y, hY⟩ : ∃ Y, Y = lockW wo C { c with ph := 2 } := ⟨_, rfl⟩
 have HCN := Lib.hid (fun n => lockNext_any (m := 0) ((hoV.more hb0 (Nat.le_refl _) hg).drewN n) (setC_get hC) hr hst (show (2 : Int) ≠ 0 by decide) hm ham)
 rw [lockW_setC, ← hY] at HCN
 have HSW := Lib.hid (show stepW wo C c = (Y.1, ansCode Y.2) by
  rw [stepW, if_pos hp, if_neg (by omega), hY])
 have f0 := hf (C * 5)
 have HV := Lib.hid hV
 have HW := Lib.hid hW
 have HB0 := Lib.hid hb0
 have HO0 := Lib.hid hoV
 have HKV := Lib.hid hkV
 have HZF := Lib.hid zf
 have hbC : bC < w.heap.size := World.block_lt_of_cell? w _ c0
 have hBW : B ≤ W0.heap.size := by have := h.base; omega
 have t0 : ((c.ws.length : Int) == 0) = false := by simpa using (show ¬ ((c.ws.length : Int) = 0) by omega)
 obtain ⟨Y1, Y2⟩ := Y
 dsimp only at HSW
 rw [hp] at c0
 clear h hc hr hb0 hW zf hY ham hf hZ hV hoV hkV hws
 go_enter Tryz.func32, Tryz.ntmps32
 go_wp2_with fail
 rw [← HV.out, ← HW.out]
 refine (HCN.out 0).mono ?_
 rintro e w1 ⟨rfl, ho1, hk1'⟩
 have hk1 := ((Keeps.refl B (fun b => Z b ∨ b = V.heap.size) W0).drewN hBW _).trans hk1'
 obtain ⟨y0, y1, y2, y3, y4, g0, g1, g2, g3, g4⟩ := ans_later hk1 hg (.inr rfl) z0 z1 z2 z3 z4 HZF.out
 have HO1 := Lib.hid ho1
 have HK1 := Lib.hid hk1
 clear ho1 hk1 hk1'
 rw [hsV] at y0 y1 y2 y3 y4 g0 g1 g2 g3 g4
 go_wp2
 obtain ⟨hA, hK⟩ := ans_end HO0.out HB0.out rfl HO1.out HK1.out (.int .i64 Y2) (.bool false) (.string ⟨#[]⟩) (.int .i64 0) (.int .i64 0)
 rw [hsV] at hA hK
 rw [HSW.out]
 exact bodyPost_ret (v := ansV (ansCode Y2)) (by simp [results, Tryz.results32, go_sem, y0, y1, y2, y3, y4, ansCode]) rfl ⟨rfl, hA, HKV.out.trans hK⟩
end
end Go.Proofs.YtambkjnhfejfaaaGreat
