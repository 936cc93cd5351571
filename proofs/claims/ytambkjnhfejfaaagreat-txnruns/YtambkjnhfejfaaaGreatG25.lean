/-
  Contracts of functions of the program and words for memory, several texts in one: TFail, RUndo, TCommitNext. Conditions: those stated with each.
-/
import Derived.Test.YtambkjnhfejfaaaGreatG21
import Derived.Test.YtambkjnhfejfaaaGreatG24
namespace Go.Proofs.YtambkjnhfejfaaaGreat
open Go.RowKit
section
variable {w : World} {t : Bool} {Z : Nat → Prop} {B bx bC : Nat} {wo : WoM} {C : Nat} {c : ClM}
set_option maxRecDepth 100000 in
set_option maxHeartbeats 4000000 in
theorem fail_any (h : Own w t Z B bx bC wo) (hc : wo.cls[C]? = some c) (hr : RowsOk wo.rows) (hst : inB c.st 1 1099511627776 = true) (hph : c.ph ≠ 0) :
 Calls Tryz.prog 82 #[.pointer (some ⟨bx, 0, none⟩), .pointer (some ⟨bC, C * 5, none⟩)] w fun e w' => e = .returned (.tuple #[]) ∧ Own w' t Z B bx bC (failW wo C c) ∧ Keeps B Z w w' := by
 obtain ⟨bR, rc, wb, x0, hrc, _, hco⟩ := h.core
 have hC := (List.getElem?_eq_some_iff.1 hc).1
 have hcl := hco.cls C c hc
 obtain ⟨A, q, c3, hq, hws⟩ := hcl.cw
 have c1 := hcl.cs
 have hlen : c.ws.length ≤ 4398046511104 := hws.1
 have hbC : bC < w.heap.size := hco.cB.2.1
 have hbx : bx < w.heap.size := h.xB.2
 have hwb : wb C < w.heap.size := (hco.wB C hC).2.1
 have hneC : bC ≠ bR := fun e => hco.ne e.symm
 have hneX : bx ≠ bR := fun e => hco.rB.2.2 (.inl e.symm)
 have hneW : wb C ≠ bR := (hco.wB C hC).2.2.2.1
 have HO := Lib.hid h
 have HC := Lib.hid hc
 have HR := Lib.hid hr
 have HW := Lib.hid hws
 have HX0 := Lib.hid x0
 have HC1 := Lib.hid c1
 have HPH := Lib.hid hph
 clear h hc hr hws x0 c1 hrc hco hcl hq hph
 go_enter Tryz.func82, Tryz.ntmps82
 go_wp2
 go_loopw [13] (fun i wr => ∃ k : Nat, k ≤ c.ws.length ∧ i = .int .i64 k ∧ Own wr t Z B bx bC ⟨failRows c.st (c.ws.take k) wo.rows, wo.clock, wo.cls⟩ ∧ Keeps B Z w wr ∧ w.heap.size ≤ wr.heap.size ∧ ∀ b, b < w.heap.size → b ≠ bR → wr.heap[b]? = w.heap[b]?) (fun i _ => c.ws.length - (intOf i).toNat)
 case atStart => exact ⟨0, Nat.zero_le _, rfl, HO.out, Keeps.refl _ _ _, Nat.le_refl _, fun _ _ _ => rfl⟩
 case round =>
  obtain ⟨k, hk, rfl, ho, hkp, hsz, ht⟩ := hrel
  have HOR := Lib.hid ho
  have HKP := Lib.hid hkp
  have HT := Lib.hid ht
  have d1 : wr.cell? ⟨bC, C * 5 + 1, none⟩ = some (.int .i64 c.st) := (World.cell?_of_block (w := w) (a := ⟨bC, C * 5 + 1, none⟩) (ht bC hbC hneC)).trans HC1.out
  have dx : wr.cell? ⟨bx, 0, none⟩ = some (.slice (some ⟨bR, 0, none⟩) wo.rows.length rc) := (World.cell?_of_block (w := w) (a := ⟨bx, 0, none⟩) (ht bx hbx hneX)).trans HX0.out
  have HDX := Lib.hid dx
  have hbCr : bC < wr.heap.size := by omega
  clear ho hkp dx
  by_cases hm : k < c.ws.length
  ·have hws' : WrsAt wr (· = wb C) A c.ws := SeqAt.wrs HW.out (fun _ h => h) fun b o hb => World.cell?_of_block (w := w) (a := ⟨b, o, none⟩) (ht b (by rw [hb]; exact hwb) (by rw [hb]; exact hneW))
   obtain ⟨b, o, rfl, hbb, hr⟩ := SeqAt.at_ hws' (getD_some (d := default) hm)
   obtain ⟨x, hx0⟩ : ∃ x, x = c.ws.getD k default := ⟨_, rfl⟩
   rw [← hx0] at hr
   obtain ⟨e0, e1, eok⟩ := hr
   have j0 : (0 : Int) ≤ (k : Int) := by omega
   have htk : c.ws.take (k + 1) = c.ws.take k ++ [x] := by rw [List.take_succ_eq_append_getElem hm, hx0]; simp [List.getD, hm]
   have HTK := Lib.hid htk
   obtain ⟨xk, xv⟩ := x
   dsimp only at e0 e1
   obtain ⟨W0, hW0⟩ : ∃ W0, W0 = wr.alloc (.cells #[.string xk, .string xv] 58) := ⟨_, rfl⟩
   have hb0 : Below wr.heap.size wr W0 := by rw [hW0]; exact below_alloc (Below.refl _ _) _
   have hs0 : W0.heap.size = wr.heap.size + 1 := by rw [hW0]; simp
   have g0 : W0.cell? ⟨wr.heap.size, 0, none⟩ = some (.string xk) := by rw [hW0]; simp
   have g1 := (hb0.cell (p := ⟨bC, C * 5 + 1, none⟩) hbCr).trans d1
   have HW0 := Lib.hid hW0
   have HB0 := Lib.hid hb0
   have HRK := Lib.hid (failRows_ok (st := c.st) (l := c.ws.take k) HR.out)
   have hg : wr.heap.size < W0.heap.size := by omega
   clear hx0 htk hW0 hb0 hs0 hws' ht hbb
   go_wp2
   rw [← HW0.out]
   refine wp_region_held_drew (S := fun W => W.cell? ⟨wr.heap.size, 0, none⟩ = some (.string xk) ∧ W.cell? ⟨bC, C * 5 + 1, none⟩ = some (.int .i64 c.st)) (by kernel_rfl) ?_ (fun hHeld => ?_)
   ·exact ⟨g0, g1⟩
   refine tq 0 ?_
   refine tq 1 ?_
   refine tq 2 ?_
   refine tq 3 ?_
   refine tq 4 ?_
   refine tq 5 ?_
   refine tq 6 ?_
   (refine cop 7 (h := fun K hK => ?_); go_simp)
   have HOW := Lib.hid ((HOR.out.upto HB0.out).drew)
   refine (statusIn_any xk c.st HOW.out HRK.out hst).mono ?_
   obtain ⟨s, hs⟩ : ∃ s, s = statIn (failRows c.st (c.ws.take k) wo.rows) xk c.st := ⟨_, rfl⟩
   rw [← hs]
   have HS := Lib.hid hs
   clear hs
   rintro e w1 ⟨rfl, hb1'⟩
   have hb1 : Below W0.heap.size W0 w1 := below_next (below_drew (Below.refl _ _)) hb1'
   have y0 := (hb1.cell (p := ⟨wr.heap.size, 0, none⟩) hg).trans g0
   have y1 := (hb1.cell (p := ⟨bC, C * 5 + 1, none⟩) (by show bC < _; omega)).trans g1
   have HB1 := Lib.hid hb1
   obtain ⟨s1, s2⟩ := s
   clear hb1 hb1' hHeld
   (refine hK.out _ _ ?_ (fun hHeld => ?_); exact ⟨y0, y1⟩; clear hK K)
   refine tq 8 ?_
   refine tq 9 ?_
   refine tq 10 ?_
   refine tq 11 ?_
   refine tq 12 ?_
   refine wpAnyH_done (by kernel_rfl) ?_ _
   clear hHeld
   have hbr1 : Below wr.heap.size wr w1 := below_next HB0.out HB1.out
   by_cases q1 : s1 = 1
   ·have q1' : (s1 == 1) = true := by simpa using q1
    have HQ := Lib.hid q1
    clear q1
    have hkey : hasK (rowKeys (failRows c.st (c.ws.take k) wo.rows)) xk = true := stat_has (st := c.st) (by rw [← HS.out]; show s1 ≠ 0; rw [HQ.out]; decide)
    have HNX := Lib.hid (show failRows c.st (c.ws.take (k + 1)) wo.rows = (chgRow (failRows c.st (c.ws.take k) wo.rows) xk (undoOp c.st)).1 by rw [HTK.out, failRows_snoc, ← HS.out, if_pos HQ.out])
    have HO1 := Lib.hid (HOR.out.upto hbr1)
    have HBR1 := Lib.hid hbr1
    clear hbr1
    go_wp2
    go_still_tail 7, (by kernel_rfl)
    change wpList _ _ _ _ _ w1.drew
    go_wp2_with fail
    refine (undoRow_found xk c.st HO1.out.drew HRK.out hkey).mono ?_
    rintro e w2 ⟨⟨rfl, ho2, hk2⟩, ht2⟩
    have hbx1 : bx < wr.heap.size := by omega
    have hdx1 : w1.drew.cell? ⟨bx, 0, none⟩ = some (.slice (some ⟨bR, 0, none⟩) wo.rows.length rc) := (HBR1.out.cell (p := ⟨bx, 0, none⟩) hbx1).trans HDX.out
    have ht2' := ht2 bR _ _ hdx1
    have hk02 : Keeps B Z w w2 := (HKP.out.next HBR1.out HO.out.base).trans ((Keeps.new (by have := HO.out.base; have := HBR1.out.size; show B ≤ w1.heap.size; omega) (below_drew (Below.refl _ _))).trans hk2)
    have hsz2 : w.heap.size ≤ w2.heap.size := hk02.bel.size
    have HO2 := Lib.hid ho2
    have HK2 := Lib.hid hk02
    have HT2 := Lib.hid ht2'
    clear ho2 hk2 ht2 ht2' hdx1 hk02
    go_wp2
    go_roundw
    case rel =>
     refine ⟨k + 1, by omega, by go_num, ?_, HK2.out, hsz2, fun b hb hne => ?_⟩
     ·rw [HNX.out]; exact HO2.out
     ·have hbr : b < wr.heap.size := by omega
      have h1 := HBR1.out.block b hbr
      exact ((HT2.out b (Nat.lt_of_lt_of_le hbr HBR1.out.size) hne).trans h1).trans (HT.out b hb hne)
    case measure => simp [intOf]; omega
   ·have q1' : (s1 == 1) = false := by simpa using q1
    have HQ := Lib.hid q1
    clear q1
    have HNX := Lib.hid (show failRows c.st (c.ws.take (k + 1)) wo.rows = failRows c.st (c.ws.take k) wo.rows by rw [HTK.out, failRows_snoc, ← HS.out, if_neg HQ.out])
    have HBR1 := Lib.hid hbr1
    clear hbr1
    go_wp2
    go_roundw
    case rel =>
     refine ⟨k + 1, by omega, by go_num, ?_, HKP.out.next HBR1.out HO.out.base, Nat.le_trans hsz HBR1.out.size, fun b hb hne => ?_⟩
     ·rw [HNX.out]; exact HOR.out.upto HBR1.out
     ·exact (HBR1.out.block b (by omega)).trans (HT.out b hb hne)
    case measure => simp [intOf]; omega
  ·have hke : k = c.ws.length := by omega
   subst hke
   clear ht d1
   go_wp2_with fail
   refine (drop_any HOR.out HC.out HPH.out).mono ?_
   rintro e w2 ⟨rfl, ho2, hk2⟩
   have HO2 := Lib.hid ho2
   have HK2 := Lib.hid hk2
   clear ho2 hk2
   go_wp2
   go_end0
   refine ⟨rfl, ?_, HKP.out.trans HK2.out⟩
   have h := HO2.out
   rw [List.take_length] at h
   exact h
end
end Go.Proofs.YtambkjnhfejfaaaGreat
namespace Go.Proofs.YtambkjnhfejfaaaGreat
open Go.RowKit
set_option linter.unusedVariables false
section
variable (r : RowM) (A : Option Addr) (n c : Nat) (st cm : Int) (pk pv : ByteArray) (w : World)
theorem lockRef_op (h : OpIn w r A n c) (hp : pk.size ≤ maxLen) (hv : pv.size ≤ maxLen) : Calls Tryz.prog 38 #[rV r A n c, .int .i64 st, .string pk, .string pv] w (OpOut (lockOp st pk pv r) w) := by
 by_cases e : lockE r.key r.ls r.lp r.val r.recs st pk pv = 0
 ·rw [lockOp, if_pos e]; exact lockedOf_ok r.key r.lp r.val r.ls A n c r.recs st pk pv w h.i hp hv e
 ·rw [lockOp, if_neg e]; exact lockedOf_err r.key r.lp r.val r.ls A n c r.recs st pk pv w h.i hp hv e
theorem commitRef_op (h : OpIn w r A n c) : Calls Tryz.prog 41 #[rV r A n c, .int .i64 st, .int .i64 cm] w (OpOut (commitOp st cm r) w) := by
 by_cases e : commitE r.key r.ls r.lp r.val r.recs st cm = 0
 ·rw [commitOp, if_pos e]; exact commitRef_ok r.key r.lp r.val r.ls A n c r.recs st cm w h.i h.c e
 ·rw [commitOp, if_neg e]; exact commitRef_err r.key r.lp r.val r.ls A n c r.recs st cm w h.i e
theorem undoRef_op (h : OpIn w r A n c) : Calls Tryz.prog 62 #[rV r A n c, .int .i64 st] w (OpOut (undoOp st r) w) := by
 by_cases e : undoE r.key r.ls r.lp r.val r.recs st = 0
 ·rw [undoOp, if_pos e]
  rcases undo_cases e with hg | hg | hg
  ·rw [undoneR, if_pos hg.t4]; exact undoRef_gone r.key r.lp r.val r.ls A n c r.recs st w h.i h.c hg
  ·have h1 : stOf r.ls st r.recs = 1 := stOf_one.2 hg.t6
   rw [undoneR, if_neg (by rw [h1]; decide), if_pos h1]; exact undoRef_held r.key r.lp r.val r.ls A n c r.recs st w h.i h.c hg
  ·rw [undoneR, if_neg (by rw [hg.t3]; decide), if_neg (by rw [hg.t3]; decide)]; exact undoRef_new r.key r.lp r.val r.ls A n c r.recs st w h.i h.c hg
 ·rw [undoOp, if_neg e]; exact undoRef_err r.key r.lp r.val r.ls A n c r.recs st w h.i e
end
theorem RowHas.op {w : World} {P : Nat → Prop} {r : RowM} {A : Option Addr} {c : Nat} (h : RowHas w P (r, A, c)) (hP : ∀ b, P b → b < w.heap.size) : OpIn w r A r.recs.length c := ⟨⟨rfl, h.r.recs hP, h.ok.k, h.ok.p, h.ok.v⟩, h.c⟩
theorem op_has {r : RowM} {w w' : World} {A : Option Addr} {c : Nat} {P : Nat → Prop} (hok : RowOk r) (hr : RecsAt w' w'.heap.size A r.recs) (hn : NewC w.heap.size A r.recs.length c) (hP : ∀ b, w.heap.size ≤ b → b < w'.heap.size → P b) : RowHas w' P (r, A, c) :=
 ⟨hn.2, hr.in_ (fun ad hA hb => hP _ (hn.1 ad hA) hb), hok⟩
def RowsOut (x : List RowM × Int) (P : Nat → Prop) (ck : Int) (CA : Option Addr) (m cc : Nat) (w : World) (e : Ending) (w' : World) : Prop :=
 ∃ RA' rc', e = .returned (.tuple #[woV RA' x.1.length rc' ck CA m cc, .int .i64 x.2]) ∧ x.1.length ≤ rc' ∧ RowsAt w' (fun b => P b ∨ (w.heap.size ≤ b ∧ b < w'.heap.size)) RA' x.1 ∧ Below w.heap.size w w'
theorem al_cell {W : World} {b k : Nat} {v : Value} (h : W.cell? ⟨b, k, none⟩ = some v) (o : Obj) : (W.alloc o).cell? ⟨b, k, none⟩ = some v :=
 ((below_alloc (Below.refl _ _) o).cell (p := ⟨b, k, none⟩) (World.block_lt_of_cell? W _ h)).trans h
theorem RowsOut.alloc {x : List RowM × Int} {P : Nat → Prop} {ck : Int} {CA : Option Addr} {m cc : Nat} {w W : World} {e : Ending} (h : RowsOut x P ck CA m cc w e W) (o : Obj) (hP : ∀ b, P b → b < w.heap.size) : RowsOut x P ck CA m cc w e (W.alloc o) := by
 obtain ⟨RA, rc, he, hc, hr, hb⟩ := h
 have hal : Below W.heap.size W (W.alloc o) := below_alloc (Below.refl _ _) _
 exact ⟨RA, rc, he, hc, hr.rows (fun b hp => hp.imp id fun h => ⟨h.1, Nat.lt_of_lt_of_le h.2 hal.size⟩) (fun b k hp => hal.cell (p := ⟨b, k, none⟩) (by rcases hp with h | h; exact Nat.lt_of_lt_of_le (hP b h) hb.size; exact h.2)), below_next hb hal⟩
theorem two_worlds (w : World) (v0 v1 v2 z0 z1 z2 : Value) (t : TypeId) : ∃ W, W = (w.alloc (.cells #[v0, v1, v2] t)).alloc (.cells #[z0, z1, z2] t) ∧ Below w.heap.size w W ∧ W.heap.size = w.heap.size + 2 ∧
 (∀ W', Below W.heap.size W W' → W'.cell? ⟨w.heap.size, 0, none⟩ = some v0 ∧ W'.cell? ⟨w.heap.size, 1, none⟩ = some v1 ∧ W'.cell? ⟨w.heap.size, 2, none⟩ = some v2 ∧ W'.cell? ⟨w.heap.size + 1, 0, none⟩ = some z0 ∧ W'.cell? ⟨w.heap.size + 1, 1, none⟩ = some z1 ∧ W'.cell? ⟨w.heap.size + 1, 2, none⟩ = some z2 ∧
   W'.frozen? ⟨w.heap.size + 1, 0, none⟩ = false ∧ W'.frozen? ⟨w.heap.size + 1, 1, none⟩ = false ∧ W'.frozen? ⟨w.heap.size + 1, 2, none⟩ = false ∧ w.heap.size < W'.heap.size ∧ w.heap.size + 1 < W'.heap.size) := by
 have s1 : (w.alloc (.cells #[v0, v1, v2] t)).heap.size = w.heap.size + 1 := by simp
 have h1 : ((w.alloc (.cells #[v0, v1, v2] t)).alloc (.cells #[z0, z1, z2] t)).heap[w.heap.size]? = some (.cells #[v0, v1, v2] t) := by
  rw [Below.heap_alloc _ _ _ (by omega)]; exact heap_alloc_new w _
 have h2 : ((w.alloc (.cells #[v0, v1, v2] t)).alloc (.cells #[z0, z1, z2] t)).heap[w.heap.size + 1]? = some (.cells #[z0, z1, z2] t) := by
  rw [← s1]; exact heap_alloc_new _ _
 refine ⟨_, rfl, below_alloc (below_alloc (Below.refl _ _) _) _, by simp, fun W' hb => ?_⟩
 have g1 := (hb.block w.heap.size (by simp; omega)).trans h1
 have g2 := (hb.block (w.heap.size + 1) (by simp)).trans h2
 have := (Array.getElem?_eq_some_iff.1 g2).1
 exact ⟨by rw [Joins.cell_of_block g1]; rfl, by rw [Joins.cell_of_block g1]; rfl, by rw [Joins.cell_of_block g1]; rfl, by rw [Joins.cell_of_block g2]; rfl, by rw [Joins.cell_of_block g2]; rfl, by rw [Joins.cell_of_block g2]; rfl, Joins.unfrozen_of_block g2 _, Joins.unfrozen_of_block g2 _, Joins.unfrozen_of_block g2 _, by omega, this⟩
theorem set_three {w : World} {g' : Nat} {t0 t1 t2 : Value} (k0 : w.cell? ⟨g', 0, none⟩ = some t0) (k1 : w.cell? ⟨g', 1, none⟩ = some t1) (k2 : w.cell? ⟨g', 2, none⟩ = some t2) (a b c : Value) :
 ∃ W, W = ((w.setCell ⟨g', 0, none⟩ a).setCell ⟨g', 1, none⟩ b).setCell ⟨g', 2, none⟩ c ∧ W.cell? ⟨g', 0, none⟩ = some a ∧ W.cell? ⟨g', 1, none⟩ = some b ∧ W.cell? ⟨g', 2, none⟩ = some c ∧ W.heap.size = w.heap.size ∧ (∀ B w0, B ≤ g' → Below B w0 w → Below B w0 W) ∧ ∀ q, q ≠ g' → W.heap[q]? = w.heap[q]? := by
 have ne : ∀ a b, a ≠ b → (⟨g', a, none⟩ : Addr) ≠ ⟨g', b, none⟩ := fun a b hab e => hab (by injection e)
 refine ⟨_, rfl, ?_, ?_, ?_, by simp, fun B w0 h2 hb => ((hb.setCell h2 _).setCell h2 _).setCell h2 _, fun q h2 => ?_⟩
 ·rw [World.cell?_setCell_other _ _ _ _ (ne 2 0 (by omega)), World.cell?_setCell_other _ _ _ _ (ne 1 0 (by omega)), World.cell?_setCell_same _ _ _ k0]
 ·rw [World.cell?_setCell_other _ _ _ _ (ne 2 1 (by omega)), World.cell?_setCell_same _ _ _ (by rw [World.cell?_setCell_other _ _ _ _ (ne 0 1 (by omega))]; exact k1)]
 ·rw [World.cell?_setCell_same _ _ _ (by rw [World.cell?_setCell_other _ _ _ _ (ne 1 2 (by omega)), World.cell?_setCell_other _ _ _ _ (ne 0 2 (by omega))]; exact k2)]
 ·rw [Below.heap_setCell _ _ _ _ h2, Below.heap_setCell _ _ _ _ h2, Below.heap_setCell _ _ _ _ h2]
theorem rows_set {w W W9 : World} {P : Nat → Prop} {A : Option Addr} {rows : List RowM} (h : RowsAt W (fun b => P b ∨ (w.heap.size + 2 ≤ b ∧ b < W.heap.size)) A rows) (hP : ∀ b, P b → b < w.heap.size) (hs : W9.heap.size = W.heap.size) (hk : ∀ q, q ≠ w.heap.size + 1 → W9.heap[q]? = W.heap[q]?) : RowsAt W9 (fun b => P b ∨ (w.heap.size ≤ b ∧ b < W9.heap.size)) A rows :=
 h.rows (fun b hp => hp.imp id fun h => ⟨by omega, by omega⟩) fun b k hp => World.cell?_of_block (w := W) (a := ⟨b, k, none⟩) (hk b (by rcases hp with h | h; have := hP b h; omega; omega))
set_option maxRecDepth 100000 in
set_option maxHeartbeats 4000000 in
theorem undo_any (key : ByteArray) (st : Int) (P : Nat → Prop) (RA CA : Option Addr) (n rc m cc : Nat) (ck : Int) (rows : List RowM) (w : World) (hn : n = rows.length) (hrc : n ≤ rc) (hr : RowsAt w P RA rows) (hP : ∀ b, P b → b < w.heap.size) (hs : RowsOk rows) (hks : key.size ≤ maxLen) (hkb : keyB key = true) :
 Calls Tryz.prog 43 #[woV RA n rc ck CA m cc, .string key, .int .i64 st] w (RowsOut (chgRow rows key (undoOp st)) P ck CA m cc w) := by
 subst hn
 obtain ⟨W0, hW0, hb0, hs0, hbox⟩ := two_worlds w (.slice RA rows.length rc) (.int .i64 ck) (.slice CA m cc) (.slice none 0 0) (.int .i64 0) (.slice none 0 0) 25
 have hr0 : RowsAt W0 P RA rows := rows_turn hr hP hb0 (fun _ h => h)
 have hP0 : ∀ b, P b → b < W0.heap.size := fun b h => Nat.lt_of_lt_of_le (hP b h) hb0.size
 have HRO := Lib.hid (rowOf_any key P RA CA rows.length rc m cc ck rows W0 rfl hr0 hP0 hs.inc hks)
 have HR0 := Lib.hid hr0
 have HP := Lib.hid hP
 have HP0 := Lib.hid hP0
 have HS := Lib.hid hs
 have HW0 := Lib.hid hW0
 have HB0 := Lib.hid hb0
 have HBOX := Lib.hid hbox
 have h40 := hs.len
 have hle : rows.length ≤ rc := hrc
 have HLK := Lib.hid (look_key rows key)
 have HLV := Lib.hid (look_valid hs hkb)
 have HOV := Lib.hid (undoOp_valid (st := st) (look_valid hs hkb))
 have HCI := Lib.hid (chg_ins (rows := rows) (key := key) (op := undoOp st))
 have HCB := Lib.hid (chg_bad (rows := rows) (key := key) (op := undoOp st))
 have HCO := Lib.hid (chg_over (rows := rows) (key := key) (op := undoOp st))
 obtain ⟨r, hrd⟩ : ∃ r, r = look rows key := ⟨_, rfl⟩
 rw [← hrd] at HRO HLK HLV HOV HCI HCB
 clear hr hr0 hP hP0 hs hW0 hb0 hrd hrc hbox
 go_enter Tryz.func43, Tryz.ntmps43
 go_wp2_with fail
 rw [← HW0.out]
 refine HRO.out.mono ?_
 rintro e w1 ⟨A, c, rfl, hh, hb1⟩
 have HH1 := Lib.hid (hh.mono (fun _ h => h) (fun b k hp => hb1.cell (p := ⟨b, k, none⟩) (HP0.out b hp)) : RowHas w1 P (r, A, c))
 obtain ⟨x0, x1, x2, z0, z1, z2, zf0, zf1, zf2, g0, g1⟩ := HBOX.out w1 hb1
 have HB1 := Lib.hid hb1
 have hP1 : ∀ b, P b → b < w1.heap.size := fun b h => Nat.lt_of_lt_of_le (HP0.out b h) hb1.size
 have HP1 := Lib.hid hP1
 clear hh hb1 hP1
 have hend : ∀ W, Below W0.heap.size W0 W → ∀ W9, W9.heap.size = W.heap.size → (∀ B w0, B ≤ w.heap.size + 1 → Below B w0 W → Below B w0 W9) → (∀ q, q ≠ w.heap.size + 1 → W9.heap[q]? = W.heap[q]?) → ∀ e : Int, chgRow rows key (undoOp st) = (rows, e) → RowsOut (chgRow rows key (undoOp st)) P ck CA m cc w (.returned (.tuple #[woV RA rows.length rc ck CA m cc, .int .i64 e])) W9 := fun W hW W9 hs9 hb9 hk9 e he => by
  rw [he]
  exact ⟨RA, rc, rfl, hle, rows_set (rows_turn HR0.out HP0.out hW (fun b h => .inl h)) HP.out hs9 hk9, hb9 _ _ (by omega) (below_next HB0.out hW)⟩
 have HEND := Lib.hid hend
 clear hend
 by_cases hf : hasK (rowKeys rows) key = true ∨ rows.length < 40
 ·have HF := Lib.hid hf
  have hor : (hasK (rowKeys rows) key = true) ∨ (hasK (rowKeys rows) key = false ∧ decide (40 ≤ (rows.length : Int)) = false) := by
   rcases hf with h | h
   ·exact .inl h
   ·cases e : hasK (rowKeys rows) key with
    | true => exact .inl rfl
    | false => exact .inr ⟨rfl, by simp; omega⟩
  obtain ⟨th, hth⟩ : ∃ th, th = hasK (rowKeys rows) key := ⟨_, rfl⟩
  rw [← hth] at hor ⊢
  clear hf hth
  rcases hor with rfl | ⟨rfl, hd⟩
  ·go_wp2_with fail
   obtain ⟨W2, hW2, _, _, _, _, _, hb2, hs2⟩ := box_new w1 (.string r.key) (.int .i64 r.ls) (.string r.lp) (.string r.val) (.slice A r.recs.length c) 45
   rw [← hW2]
   have h12 : Below W0.heap.size W0 W2 := below_next HB1.out hb2
   refine (undoRef_op r A r.recs.length c st W2 ((HH1.out.op HP1.out).upto hb2)).mono ?_
   rintro e w3 ⟨A3, c3, rfl, hrecs3, hnew3, hb3⟩
   have hb03 := below_next h12 hb3
   have HNW := Lib.hid hnew3
   have HRC := Lib.hid hrecs3
   have hs12 := h12.size
   obtain ⟨U, hU⟩ : ∃ U, U = undoOp st r := ⟨_, rfl⟩
   have HUOK := Lib.hid (undoOp_ok (st := st) HH1.out.ok)
   rw [← hU] at HUOK HOV HCI HCB HNW HRC ⊢
   obtain ⟨W4, hW4, _, _, _, _, _, hb4, hs4⟩ := box_new w3 (.string U.1.key) (.int .i64 U.1.ls) (.string U.1.lp) (.string U.1.val) (.slice A3 U.1.recs.length c3) 45
   have h04 : Below W0.heap.size W0 W4 := below_next hb03 hb4
   have HB04 := Lib.hid h04
   have HB03 := Lib.hid hb03
   have HB34 := Lib.hid hb4
   have HW4 := Lib.hid hW4
   clear x0 x1 x2 z0 z1 z2 zf0 zf1 zf2 g0 g1 hrecs3 hnew3 hW2 hU hW4
   obtain ⟨x0, x1, x2, z0, z1, z2, zf0, zf1, zf2, g0, g1⟩ := HBOX.out w3 hb03
   by_cases he : U.2 = 0
   ·have hP4 : ∀ b, (P b ∨ (w.heap.size + 2 ≤ b ∧ b < w3.heap.size)) → b < W4.heap.size := fun b h => by
     rcases h with h | h
     ·exact Nat.lt_of_lt_of_le (HP0.out b h) h04.size
     ·omega
    have hhas : RowHas W4 (fun b => P b ∨ (w.heap.size + 2 ≤ b ∧ b < w3.heap.size)) (U.1, A3, c3) :=
     (op_has (w := W2) (w' := w3) (P := fun b => P b ∨ (w.heap.size + 2 ≤ b ∧ b < w3.heap.size)) (HUOK.out he) HRC.out HNW.out (fun b h1 h2 => .inr ⟨by omega, h2⟩)).mono (fun _ h => h) (fun b k h => hb4.cell (p := ⟨b, k, none⟩) (by rcases h with h | h; exact Nat.lt_of_lt_of_le (HP0.out b h) hb03.size; exact h.2))
    have HWI := Lib.hid (withRow_any (fun b => P b ∨ (w.heap.size + 2 ≤ b ∧ b < w3.heap.size)) RA CA rows.length rc m cc ck rows U.1 A3 c3 W4 rfl (rows_turn HR0.out HP0.out h04 (fun b h => .inl h)) hP4 HS.out.inc hhas h40)
    have HE := Lib.hid (HCI.out he HF.out ((HOV.out he).2.1.trans HLK.out))
    have he2 := he
    have hs34 := hb4.size
    clear hP4 hhas hb03 hb3 hb4 h04 hb2 h12
    obtain ⟨⟨uk, uls, ulp, uv, ur⟩, ue⟩ := U
    dsimp only at he2 HWI HW4 HE
    subst he2
    go_wp2_with fail
    rw [← HW4.out]
    refine HWI.out.mono ?_
    rintro e w5 ⟨RA5, rc5, rfl, hc5, hrows5, hb5⟩
    have hb05 := below_next HB04.out hb5
    have hs5 := hb5.size
    have hs04 := HB04.out.size
    clear x0 x1 x2 z0 z1 z2 zf0 zf1 zf2 g0 g1
    obtain ⟨x0, x1, x2, z0, z1, z2, zf0, zf1, zf2, g0, g1⟩ := HBOX.out w5 hb05
    have HR5 := Lib.hid hrows5
    have HC5 := Lib.hid hc5
    have HB05 := Lib.hid hb05
    clear hrows5 hc5 hb05 hb5
    go_wp2
    obtain ⟨NR, hNR⟩ : ∃ NR, NR = insK RowM.key rows ⟨uk, uls, ulp, uv, ur⟩ := ⟨_, rfl⟩
    rw [← hNR] at HR5 HC5 HE ⊢
    obtain ⟨W9, hW9, q0, q1, q2, hs9, hb9, hk9⟩ := set_three z0 z1 z2 (.slice RA5 NR.length rc5) (.int .i64 ck) (.slice CA m cc)
    rw [← hW9]
    exact bodyPost_ret (v := .tuple #[woV RA5 NR.length rc5 ck CA m cc, .int .i64 0]) (by simp [results, Tryz.results43, go_sem, q0, q1, q2]) rfl
     (by rw [HE.out]; exact ⟨RA5, rc5, rfl, HC5.out, rows_set (HR5.out.rows (fun b h => by rcases h with (h | h) | h; exact .inl h; exact .inr ⟨h.1, by omega⟩; exact .inr ⟨by omega, h.2⟩) (fun _ _ _ => rfl)) HP.out hs9 hk9, hb9 _ _ (by omega) (below_next HB0.out HB05.out)⟩)
   ·have HE := Lib.hid (HCB.out he HF.out)
    have hne : (U.2 == 0) = false := by simpa using he
    clear hb03 hb3 hb4 h04 hb2 h12
    obtain ⟨⟨uk, uls, ulp, uv, ur⟩, ue⟩ := U
    dsimp only at he hne HW4 HE
    go_wp2
    obtain ⟨W9, hW9, q0, q1, q2, hs9, hb9, hk9⟩ := set_three z0 z1 z2 (.slice RA rows.length rc) (.int .i64 ck) (.slice CA m cc)
    rw [← hW9]
    exact bodyPost_ret (v := .tuple #[woV RA rows.length rc ck CA m cc, .int .i64 ue]) (by simp [results, Tryz.results43, go_sem, al_cell q0, al_cell q1, al_cell q2]) rfl
     (RowsOut.alloc (HEND.out w3 HB03.out W9 hs9 hb9 hk9 ue HE.out) _ HP.out)
  ·go_wp2_with fail
   obtain ⟨W2, hW2, _, _, _, _, _, hb2, hs2⟩ := box_new w1 (.string r.key) (.int .i64 r.ls) (.string r.lp) (.string r.val) (.slice A r.recs.length c) 45
   rw [← hW2]
   have h12 : Below W0.heap.size W0 W2 := below_next HB1.out hb2
   refine (undoRef_op r A r.recs.length c st W2 ((HH1.out.op HP1.out).upto hb2)).mono ?_
   rintro e w3 ⟨A3, c3, rfl, hrecs3, hnew3, hb3⟩
   have hb03 := below_next h12 hb3
   have HNW := Lib.hid hnew3
   have HRC := Lib.hid hrecs3
   have hs12 := h12.size
   obtain ⟨U, hU⟩ : ∃ U, U = undoOp st r := ⟨_, rfl⟩
   have HUOK := Lib.hid (undoOp_ok (st := st) HH1.out.ok)
   rw [← hU] at HUOK HOV HCI HCB HNW HRC ⊢
   obtain ⟨W4, hW4, _, _, _, _, _, hb4, hs4⟩ := box_new w3 (.string U.1.key) (.int .i64 U.1.ls) (.string U.1.lp) (.string U.1.val) (.slice A3 U.1.recs.length c3) 45
   have h04 : Below W0.heap.size W0 W4 := below_next hb03 hb4
   have HB04 := Lib.hid h04
   have HB03 := Lib.hid hb03
   have HB34 := Lib.hid hb4
   have HW4 := Lib.hid hW4
   clear x0 x1 x2 z0 z1 z2 zf0 zf1 zf2 g0 g1 hrecs3 hnew3 hW2 hU hW4
   obtain ⟨x0, x1, x2, z0, z1, z2, zf0, zf1, zf2, g0, g1⟩ := HBOX.out w3 hb03
   by_cases he : U.2 = 0
   ·have hP4 : ∀ b, (P b ∨ (w.heap.size + 2 ≤ b ∧ b < w3.heap.size)) → b < W4.heap.size := fun b h => by
     rcases h with h | h
     ·exact Nat.lt_of_lt_of_le (HP0.out b h) h04.size
     ·omega
    have hhas : RowHas W4 (fun b => P b ∨ (w.heap.size + 2 ≤ b ∧ b < w3.heap.size)) (U.1, A3, c3) :=
     (op_has (w := W2) (w' := w3) (P := fun b => P b ∨ (w.heap.size + 2 ≤ b ∧ b < w3.heap.size)) (HUOK.out he) HRC.out HNW.out (fun b h1 h2 => .inr ⟨by omega, h2⟩)).mono (fun _ h => h) (fun b k h => hb4.cell (p := ⟨b, k, none⟩) (by rcases h with h | h; exact Nat.lt_of_lt_of_le (HP0.out b h) hb03.size; exact h.2))
    have HWI := Lib.hid (withRow_any (fun b => P b ∨ (w.heap.size + 2 ≤ b ∧ b < w3.heap.size)) RA CA rows.length rc m cc ck rows U.1 A3 c3 W4 rfl (rows_turn HR0.out HP0.out h04 (fun b h => .inl h)) hP4 HS.out.inc hhas h40)
    have HE := Lib.hid (HCI.out he HF.out ((HOV.out he).2.1.trans HLK.out))
    have he2 := he
    have hs34 := hb4.size
    clear hP4 hhas hb03 hb3 hb4 h04 hb2 h12
    obtain ⟨⟨uk, uls, ulp, uv, ur⟩, ue⟩ := U
    dsimp only at he2 HWI HW4 HE
    subst he2
    go_wp2_with fail
    rw [← HW4.out]
    refine HWI.out.mono ?_
    rintro e w5 ⟨RA5, rc5, rfl, hc5, hrows5, hb5⟩
    have hb05 := below_next HB04.out hb5
    have hs5 := hb5.size
    have hs04 := HB04.out.size
    clear x0 x1 x2 z0 z1 z2 zf0 zf1 zf2 g0 g1
    obtain ⟨x0, x1, x2, z0, z1, z2, zf0, zf1, zf2, g0, g1⟩ := HBOX.out w5 hb05
    have HR5 := Lib.hid hrows5
    have HC5 := Lib.hid hc5
    have HB05 := Lib.hid hb05
    clear hrows5 hc5 hb05 hb5
    go_wp2
    obtain ⟨NR, hNR⟩ : ∃ NR, NR = insK RowM.key rows ⟨uk, uls, ulp, uv, ur⟩ := ⟨_, rfl⟩
    rw [← hNR] at HR5 HC5 HE ⊢
    obtain ⟨W9, hW9, q0, q1, q2, hs9, hb9, hk9⟩ := set_three z0 z1 z2 (.slice RA5 NR.length rc5) (.int .i64 ck) (.slice CA m cc)
    rw [← hW9]
    exact bodyPost_ret (v := .tuple #[woV RA5 NR.length rc5 ck CA m cc, .int .i64 0]) (by simp [results, Tryz.results43, go_sem, q0, q1, q2]) rfl
     (by rw [HE.out]; exact ⟨RA5, rc5, rfl, HC5.out, rows_set (HR5.out.rows (fun b h => by rcases h with (h | h) | h; exact .inl h; exact .inr ⟨h.1, by omega⟩; exact .inr ⟨by omega, h.2⟩) (fun _ _ _ => rfl)) HP.out hs9 hk9, hb9 _ _ (by omega) (below_next HB0.out HB05.out)⟩)
   ·have HE := Lib.hid (HCB.out he HF.out)
    have hne : (U.2 == 0) = false := by simpa using he
    clear hb03 hb3 hb4 h04 hb2 h12
    obtain ⟨⟨uk, uls, ulp, uv, ur⟩, ue⟩ := U
    dsimp only at he hne HW4 HE
    go_wp2
    obtain ⟨W9, hW9, q0, q1, q2, hs9, hb9, hk9⟩ := set_three z0 z1 z2 (.slice RA rows.length rc) (.int .i64 ck) (.slice CA m cc)
    rw [← hW9]
    exact bodyPost_ret (v := .tuple #[woV RA rows.length rc ck CA m cc, .int .i64 ue]) (by simp [results, Tryz.results43, go_sem, al_cell q0, al_cell q1, al_cell q2]) rfl
     (RowsOut.alloc (HEND.out w3 HB03.out W9 hs9 hb9 hk9 ue HE.out) _ HP.out)
 ·have h1 : hasK (rowKeys rows) key = false := by
   cases e : hasK (rowKeys rows) key with
   | false => rfl
   | true => exact absurd (.inl e) hf
  have h2 : 40 ≤ rows.length := by
   rcases Nat.lt_or_ge rows.length 40 with h | h
   ·exact absurd (.inr h) hf
   ·exact h
  have d1 : decide (40 ≤ (rows.length : Int)) = true := by simp; omega
  have HE := Lib.hid (HCO.out h1 h2)
  rw [h1]
  clear hf h1 h2
  obtain ⟨W2, hW2, _, _, _, _, _, hb2, hs2⟩ := box_new w1 (.string r.key) (.int .i64 r.ls) (.string r.lp) (.string r.val) (.slice A r.recs.length c) 45
  have HW2 := Lib.hid hW2
  have HB02 := Lib.hid (below_next HB1.out hb2)
  clear hW2 hb2
  go_wp2
  obtain ⟨W9, hW9, q0, q1, q2, hs9, hb9, hk9⟩ := set_three z0 z1 z2 (.slice RA rows.length rc) (.int .i64 ck) (.slice CA m cc)
  rw [← hW9]
  exact bodyPost_ret (v := .tuple #[woV RA rows.length rc ck CA m cc, .int .i64 1]) (by simp [results, Tryz.results43, go_sem, al_cell q0, al_cell q1, al_cell q2]) rfl
   (RowsOut.alloc (HEND.out w1 HB1.out W9 hs9 hb9 hk9 1 HE.out) _ HP.out)
end Go.Proofs.YtambkjnhfejfaaaGreat
namespace Go.Proofs.YtambkjnhfejfaaaGreat
open Go.RowKit
theorem chg_err {rows : List RowM} {key : ByteArray} {op : RowM → RowM × Int} (h : (chgRow rows key op).2 ≠ 0) : (chgRow rows key op).1 = rows := by
 unfold chgRow at h ⊢
 split
 ·rename_i hk
  rw [if_pos hk] at h
  exact if_neg h
 ·rename_i hk
  rw [if_neg hk] at h
  split
  ·rfl
  ·rename_i hl
   rw [if_neg hl] at h
   exact if_neg h
section
variable {w : World} {t : Bool} {Z : Nat → Prop} {B bx bC : Nat} {wo : WoM} {C : Nat} {c : ClM}
theorem Own.drewN (h : Own w t Z B bx bC wo) (n : Nat) : Own (w.drewN n) t Z B bx bC wo := h.upto (below_drewN (Below.refl _ _) n)
theorem Keeps.drewN {w' : World} (h : Keeps B Z w w') (hB : B ≤ w.heap.size) (n : Nat) : Keeps B Z w (w'.drewN n) := h.next (below_drewN (Below.refl _ _) n) hB
theorem commitRow_all (key : ByteArray) (hks : key.size ≤ maxLen) (st cm : Int) (h : Own w true Z B bx bC wo) (hr : RowsOk wo.rows) :
 Calls Tryz.prog 57 #[.pointer (some ⟨bx, 0, none⟩), .string key, .int .i64 st, .int .i64 cm] w (NumOut false Z B bx bC (⟨(chgRow wo.rows key (commitOp st cm)).1, wo.clock, wo.cls⟩, (chgRow wo.rows key (commitOp st cm)).2) w) := by
 by_cases hk : hasK (rowKeys wo.rows) key = true
 ·exact (commitRow_found key st cm h hr hk).mono fun _ _ x => ⟨x.1.1, x.1.2.1.loose, x.1.2.2⟩
 ·exact commitRow_new key hks st cm h hr (by simpa using hk)
set_option maxRecDepth 100000 in
set_option maxHeartbeats 4000000 in
theorem commitNext_any (h : Own w true Z B bx bC wo) (hc : wo.cls[C]? = some c) (hr : RowsOk wo.rows) (hst : inB c.st 1 1099511627776 = true) (hph : c.ph ≠ 0) {m : Nat} (hm : m < c.ws.length) (ham : c.at_ = m) :
 Calls Tryz.prog 54 #[.pointer (some ⟨bx, 0, none⟩), .pointer (some ⟨bC, C * 5, none⟩)] w (NumOut false Z B bx bC (commitW wo C c) w) := by
 obtain ⟨c0, c1, c2, c4, ⟨A, k, c3, hq, hws⟩, hok, _, _, _, hC⟩ := h.cl hc
 have hlen : c.ws.length ≤ 4398046511104 := hws.1
 obtain ⟨b, o, rfl, hbb, hr0⟩ := SeqAt.at_ hws (getD_some (d := default) hm)
 obtain ⟨x, hx0⟩ : ∃ x, x = c.ws.getD m default := ⟨_, rfl⟩
 rw [← hx0] at hr0
 obtain ⟨e0, e1, eok⟩ := hr0
 obtain ⟨xk, xv⟩ := x
 dsimp only at e0 e1
 obtain ⟨X, hX⟩ : ∃ X, X = chgRow wo.rows xk (commitOp c.st c.cm) := ⟨_, rfl⟩
 have HCW := Lib.hid (show commitW wo C c = (if X.2 ≠ 0 ∧ c.ph = 3 then (failW wo C c, 9) else if c.at_ + 1 = c.ws.length then (⟨X.1, wo.clock, wo.cls.set C idleC⟩, 0) else (⟨X.1, wo.clock, wo.cls.set C ⟨4, c.st, c.cm, c.ws, c.at_ + 1⟩⟩, 0)) by
  rw [commitW, ham, Int.toNat_natCast, ← hx0, hX])
 have HXE := Lib.hid (show X.2 ≠ 0 → X.1 = wo.rows by rw [hX]; exact chg_err)
 have HCR := Lib.hid (commitRow_all (w := w.drew) xk eok.1 c.st c.cm h.drew hr)
 rw [← hX] at HCR
 have HO := Lib.hid h
 have HC := Lib.hid hc
 have HR := Lib.hid hr
 have HPH := Lib.hid hph
 have HAM := Lib.hid ham
 have HOK := Lib.hid hok
 have j0 : (0 : Int) ≤ (m : Int) := by omega
 rw [ham] at c4
 clear h hc hr hws hph hX hx0 hok ham
 go_enter Tryz.func54, Tryz.ntmps54
 go_wp2
 go_still_tail 20, (by kernel_rfl)
 change wpList _ _ _ _ _ w.drew
 go_wp2_with fail
 refine HCR.out.mono ?_
 rintro e w1 ⟨rfl, ho1, hk1⟩
 obtain ⟨X1, X2⟩ := X
 dsimp only at ho1 HCW HXE
 have hk01 : Keeps B Z w w1 := ((Keeps.new HO.out.base (below_drew (Below.refl _ _))).trans hk1)
 obtain ⟨c0, c1, c2, c4, ⟨A', k', c3, _, _⟩, _, hf, hB, hZ, _⟩ := ho1.cl HC.out
 have f0 := hf (C * 5)
 have f4 := hf (C * 5 + 4)
 rw [HAM.out] at c4
 have HO1 := Lib.hid ho1
 have HK1 := Lib.hid hk01
 have HZ := Lib.hid hZ
 clear ho1 hk1 hf hZ hk01
 by_cases q0 : X2 = 0
 ·have q0' : (X2 != 0) = false := by simpa using q0
  have HQ := Lib.hid q0
  clear q0
  go_wp2
  obtain ⟨W2, hW2⟩ : ∃ W2, W2 = (w1.setCell ⟨bC, C * 5, none⟩ (.int .i64 4)).setCell ⟨bC, C * 5 + 4, none⟩ (.int .i64 ((m : Int) + 1)) := ⟨_, rfl⟩
  have o1 := HO1.out.ph (v := 4) HC.out (by unfold i64; omega)
  have o2 := o1.at_ (v := (m : Int) + 1) (setC_get hC) (by unfold i64; omega)
  rw [setC_setC, ← hW2] at o2
  have hk2 : Keeps B Z w W2 := by rw [hW2]; exact (HK1.out.set (p := ⟨bC, C * 5, none⟩) hB HZ.out _).set (p := ⟨bC, C * 5 + 4, none⟩) hB HZ.out _
  obtain ⟨d0, d1, d2, d4, ⟨A2, k2, d3, _, _⟩, _⟩ := o2.cl (setC_get hC)
  dsimp only at d0 d1 d2 d3 d4
  rw [← hW2]
  have HO2 := Lib.hid o2
  have HK2 := Lib.hid hk2
  clear o1 o2 hk2 hW2 c0 c1 c2 c3 c4 f0 f4 e0 e1
  by_cases hl : m + 1 = c.ws.length
  ·have hl' : ((m : Int) + 1 == (c.ws.length : Int)) = true := by rw [← hl]; simp
   have HF := Lib.hid (show commitW wo C c = (⟨X1, wo.clock, wo.cls.set C idleC⟩, 0) by rw [HCW.out, if_neg (fun e => e.1 HQ.out), if_pos (by rw [HAM.out]; omega)])
   clear hl
   go_quiet (fail)
   go_wp2_with fail
   refine (drop_any (HO2.out.drewN _) (setC_get hC) (by show (4 : Int) ≠ 0; decide)).mono ?_
   rintro e w3 ⟨rfl, ho3, hk3⟩
   rw [setC_setC] at ho3
   have HO3 := Lib.hid ho3
   have HK3 := Lib.hid hk3
   clear ho3 hk3
   go_wp2
   go_ret
   rw [HF.out]
   exact ⟨rfl, HO3.out, (HK2.out.drewN HO.out.base _).trans HK3.out⟩
  ·have hl' : ((m : Int) + 1 == (c.ws.length : Int)) = false := by simpa using (show ¬ ((m : Int) + 1 = (c.ws.length : Int)) by omega)
   have HF := Lib.hid (show commitW wo C c = (⟨X1, wo.clock, wo.cls.set C ⟨4, c.st, c.cm, c.ws, (m : Int) + 1⟩⟩, 0) by rw [HCW.out, if_neg (fun e => e.1 HQ.out), if_neg (by rw [HAM.out]; omega), HAM.out])
   clear hl
   go_quiet (fail)
   go_wp2
   go_ret
   rw [HF.out]
   exact ⟨rfl, (HO2.out.drewN _), (HK2.out.drewN HO.out.base _)⟩
 ·have q0' : (X2 != 0) = true := by simpa using q0
  have HQ := Lib.hid q0
  clear q0
  by_cases q3 : c.ph = 3
  ·have q3' : (c.ph == 3) = true := by simpa using q3
   have HF := Lib.hid (show commitW wo C c = (failW wo C c, 9) by rw [HCW.out, if_pos ⟨HQ.out, q3⟩])
   clear q3
   have hX1 := HXE.out HQ.out
   subst hX1
   go_wp2_with fail
   refine (fail_any HO1.out HC.out HR.out hst HPH.out).mono ?_
   rintro e w3 ⟨rfl, ho3, hk3⟩
   have HO3 := Lib.hid ho3
   have HK3 := Lib.hid hk3
   clear ho3 hk3
   go_wp2
   go_ret
   rw [HF.out]
   exact ⟨rfl, HO3.out, HK1.out.trans HK3.out⟩
  ·have q3' : (c.ph == 3) = false := by simpa using q3
   have HQ3 := Lib.hid q3
   clear q3
   go_wp2
   obtain ⟨W2, hW2⟩ : ∃ W2, W2 = (w1.setCell ⟨bC, C * 5, none⟩ (.int .i64 4)).setCell ⟨bC, C * 5 + 4, none⟩ (.int .i64 ((m : Int) + 1)) := ⟨_, rfl⟩
   have o1 := HO1.out.ph (v := 4) HC.out (by unfold i64; omega)
   have o2 := o1.at_ (v := (m : Int) + 1) (setC_get hC) (by unfold i64; omega)
   rw [setC_setC, ← hW2] at o2
   have hk2 : Keeps B Z w W2 := by rw [hW2]; exact (HK1.out.set (p := ⟨bC, C * 5, none⟩) hB HZ.out _).set (p := ⟨bC, C * 5 + 4, none⟩) hB HZ.out _
   obtain ⟨d0, d1, d2, d4, ⟨A2, k2, d3, _, _⟩, _⟩ := o2.cl (setC_get hC)
   dsimp only at d0 d1 d2 d3 d4
   rw [← hW2]
   have HO2 := Lib.hid o2
   have HK2 := Lib.hid hk2
   clear o1 o2 hk2 hW2 c0 c1 c2 c3 c4 f0 f4 e0 e1
   by_cases hl : m + 1 = c.ws.length
   ·have hl' : ((m : Int) + 1 == (c.ws.length : Int)) = true := by rw [← hl]; simp
    have HF := Lib.hid (show commitW wo C c = (⟨X1, wo.clock, wo.cls.set C idleC⟩, 0) by rw [HCW.out, if_neg (fun e => HQ3.out e.2), if_pos (by rw [HAM.out]; omega)])
    clear hl
    go_quiet (fail)
    go_wp2_with fail
    refine (drop_any (HO2.out.drewN _) (setC_get hC) (by show (4 : Int) ≠ 0; decide)).mono ?_
    rintro e w3 ⟨rfl, ho3, hk3⟩
    rw [setC_setC] at ho3
    have HO3 := Lib.hid ho3
    have HK3 := Lib.hid hk3
    clear ho3 hk3
    go_wp2
    go_ret
    rw [HF.out]
    exact ⟨rfl, HO3.out, (HK2.out.drewN HO.out.base _).trans HK3.out⟩
   ·have hl' : ((m : Int) + 1 == (c.ws.length : Int)) = false := by simpa using (show ¬ ((m : Int) + 1 = (c.ws.length : Int)) by omega)
    have HF := Lib.hid (show commitW wo C c = (⟨X1, wo.clock, wo.cls.set C ⟨4, c.st, c.cm, c.ws, (m : Int) + 1⟩⟩, 0) by rw [HCW.out, if_neg (fun e => HQ3.out e.2), if_neg (by rw [HAM.out]; omega), HAM.out])
    clear hl
    go_quiet (fail)
    go_wp2
    go_ret
    rw [HF.out]
    exact ⟨rfl, (HO2.out.drewN _), (HK2.out.drewN HO.out.base _)⟩
end
end Go.Proofs.YtambkjnhfejfaaaGreat
