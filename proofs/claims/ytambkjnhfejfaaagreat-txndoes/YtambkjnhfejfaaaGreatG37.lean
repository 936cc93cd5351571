/-
  Contracts of functions of the program and words for memory, several texts in one: RStepL. Conditions: those stated with each.
-/
import Derived.Test.YtambkjnhfejfaaaGreatG32
namespace Go.Proofs.YtambkjnhfejfaaaGreat
open Go.RowKit
set_option linter.unusedVariables false
theorem new_al {W : World} {o : Obj} {b : Nat} (h : (W.drew.alloc o).heap.size ≤ b) : W.heap.size + 1 ≤ b := by have e : (W.drew.alloc o).heap.size = W.heap.size + 1 := (by simp); omega
theorem rec_set5 {w : World} {A : Option Addr} {l : List RecM} {g : Nat} {v0 v1 v2 v3 v4 : Value} (h : RecsAt w w.heap.size A l) (hn : NewAt (g + 1) A) : RecsAt (set5 w g 0 v0 v1 v2 v3 v4) (set5 w g 0 v0 v1 v2 v3 v4).heap.size A l := by
 have e : (set5 w g 0 v0 v1 v2 v3 v4).heap.size = w.heap.size := (set5_same w g 0 _ _ _ _ _).sz
 rw [e]
 have hg : g < g + 1 := by omega
 exact ((((h.setLow hn (p := ⟨g,0,none⟩) hg _).setLow hn (p := ⟨g,0 + 1,none⟩) hg _).setLow hn (p := ⟨g,0 + 2,none⟩) hg _).setLow hn (p := ⟨g,0 + 3,none⟩) hg _).setLow hn (p := ⟨g,0 + 4,none⟩) hg _
section
variable {w : World} {X : Nat → Prop} {gC B : Nat} {RA : Option Addr} {n rc m cc C : Nat} {wo : WoM} {c : ClM}
set_option maxRecDepth 100000 in
set_option maxHeartbeats 16000000 in
theorem stepped_lock (h : RefW w X gC RA n rc m cc wo) (hX : ∀ b,X b → b < w.heap.size) (hB : B ≤ gC) (hc : wo.cls[C]? = some c) (hph : c.ph = 1 ∨ c.ph = 2) (hr : RowsOk wo.rows) (hst : inB c.st 1 1099511627776 = true) (hwv : wrsB c.ws = true) {q : Nat} (hq : q < c.ws.length) (haq : c.at_ = q) :
 Calls Tryz.prog 22 #[woV RA n rc wo.clock (some ⟨gC,0,none⟩) m cc,.int .i64 C] w (StepOut X gC m cc B (stepW wo C c) w) := by
 have HPH := Lib.hid hph
 have HR := Lib.hid hr
 have HST := Lib.hid hst
 have HWV := Lib.hid hwv
 have HAQ := Lib.hid haq
 have HE := Lib.hid (show stepW wo C c = ((lockW wo C { c with ph := 2 }).1,ansCode (lockW wo C { c with ph := 2 }).2) by
  rcases hph with hph | hph
  ·rw [stepW,if_pos hph,if_neg (by omega)]
  ·have e : ({ c with ph := 2 } : ClM) = c := by rw [← hph]
   rw [stepW,if_neg (by omega),if_pos hph,if_neg (by omega),e])
 have hp0 : (c.ph == 0) = false := beq_eq_false_iff_ne.2 (by omega)
 have hp2 : c.ph ≤ 2 := by omega
 have hp2' : decide (c.ph ≤ 2) = true := decide_eq_true hp2
 have hl' : ((c.ws.length : Int) == 0) = false := beq_eq_false_iff_ne.2 (by omega)
 have hq0 : 0 < c.ws.length := by omega
 have HQL := Lib.hid hq
 have hql : ((q : Int) == (c.ws.length : Int)) = false := beq_eq_false_iff_ne.2 (by omega)
 clear hph hr hst hwv haq
 obtain ⟨Z,hZ⟩ : ∃ Z,Z = stepW wo C c := ⟨_,rfl⟩
 rw [← hZ] at HE ⊢
 clear hZ
 have hn := h.hn
 subst hn
 have hCm : C < m := by rw [h.hm]; exact (List.getElem?_eq_some_iff.1 hc).1
 have hcl := h.cls C c hc
 obtain ⟨WA,wk,q3,hwk,hws⟩ := hcl.cw
 have q0 := hcl.cp
 have q1 := hcl.cs
 have q2 := hcl.cm
 have q4 := hcl.ca
 have hcok := hcl.ok
 have hgl : gC < w.heap.size := h.lt
 have hgl1 : gC < w.heap.size + 1 := by omega
 have hgl2 : gC < w.heap.size + 1 + 1 := by omega
 have hgl3 : gC < w.heap.size + 1 + 1 + 1 := by omega
 have hgl4 : gC < w.heap.size + 1 + 1 + 1 + 1 := by omega
 have hcc := h.hcc
 have hwl : c.ws.length ≤ 4398046511104 := hws.1
 obtain ⟨W0,hW0,hb0,hs0,b0,b1,b2,b3,b4⟩ := five_boxes w #[.slice RA wo.rows.length rc,.int .i64 wo.clock,.slice (some ⟨gC,0,none⟩) m cc] #[.slice none 0 0,.int .i64 0,.slice none 0 0] #[.int .i64 0,.bool false,.string ⟨#[]⟩,.int .i64 0,.int .i64 0] #[.int .i64 0,.bool false,.string ⟨#[]⟩,.int .i64 0,.int .i64 0] #[.int .i64 c.ph,.int .i64 c.st,.int .i64 c.cm,.slice WA c.ws.length wk,.int .i64 c.at_] 25 25 31 31 49
 have H := Lib.hid h
 have HXL := Lib.hid hX
 have HW0 := Lib.hid hW0
 have HB0 := Lib.hid hb0
 have HCL := Lib.hid hc
 have HWS := Lib.hid hws
 have HOK := Lib.hid hcok
 have HWK := Lib.hid hwk
 have j0 : (0 : Int) ≤ (C : Int) := by omega
 have j1 : (C : Int) < (m : Int) := by omega
 clear h hX hb0 hW0 hcl hc hws hcok hwk
 go_enter Tryz.func22,Tryz.ntmps22
 go_upto_region 4 with (fail)
 rw [← HW0.out]
 obtain ⟨g4,hg4⟩ : ∃ g4,g4 = w.heap.size + 1 + 1 + 1 + 1 := ⟨_,rfl⟩
 rw [← hg4] at b4 ⊢
 obtain ⟨g3,hg3⟩ : ∃ g3,g3 = w.heap.size + 1 + 1 + 1 := ⟨_,rfl⟩
 rw [← hg3] at b3 ⊢
 obtain ⟨g2,hg2⟩ : ∃ g2,g2 = w.heap.size + 1 + 1 := ⟨_,rfl⟩
 rw [← hg2] at b2 ⊢
 obtain ⟨g1,hg1⟩ : ∃ g1,g1 = w.heap.size + 1 := ⟨_,rfl⟩
 rw [← hg1] at b1 ⊢
 obtain ⟨g0,hg0⟩ : ∃ g0,g0 = w.heap.size := ⟨_,rfl⟩
 rw [← hg0] at b0 ⊢
 obtain ⟨N,hN⟩ : ∃ N,N = W0.heap.size := ⟨_,rfl⟩
 have HG := Lib.hid (show (g0 = w.heap.size ∧ g1 = w.heap.size + 1 ∧ g2 = w.heap.size + 2 ∧ g3 = w.heap.size + 3 ∧ g4 = w.heap.size + 4 ∧ N = w.heap.size + 5) from ⟨hg0,hg1,by omega,by omega,by omega,by omega⟩)
 have HN := Lib.hid hN
 have n01 : g0 ≠ g1 := by omega
 have n02 : g0 ≠ g2 := by omega
 have n03 : g0 ≠ g3 := by omega
 have n04 : g0 ≠ g4 := by omega
 have n10 : g1 ≠ g0 := by omega
 have n12 : g1 ≠ g2 := by omega
 have n13 : g1 ≠ g3 := by omega
 have n14 : g1 ≠ g4 := by omega
 have n20 : g2 ≠ g0 := by omega
 have n21 : g2 ≠ g1 := by omega
 have n23 : g2 ≠ g3 := by omega
 have n24 : g2 ≠ g4 := by omega
 have n30 : g3 ≠ g0 := by omega
 have n31 : g3 ≠ g1 := by omega
 have n32 : g3 ≠ g2 := by omega
 have n34 : g3 ≠ g4 := by omega
 have n40 : g4 ≠ g0 := by omega
 have n41 : g4 ≠ g1 := by omega
 have n42 : g4 ≠ g2 := by omega
 have n43 : g4 ≠ g3 := by omega
 have m0 : gC ≠ g0 := by omega
 have m1 : gC ≠ g1 := by omega
 have m2 : gC ≠ g2 := by omega
 have m3 : gC ≠ g3 := by omega
 have m4 : gC ≠ g4 := by omega
 have k0 : g0 ≠ gC := by omega
 have k1 : g1 ≠ gC := by omega
 have k2 : g2 ≠ gC := by omega
 have k3 : g3 ≠ gC := by omega
 have k4 : g4 ≠ gC := by omega
 have Xn01 := Lib.hid n01
 have Xn02 := Lib.hid n02
 have Xn03 := Lib.hid n03
 have Xn04 := Lib.hid n04
 have Xn10 := Lib.hid n10
 have Xn12 := Lib.hid n12
 have Xn13 := Lib.hid n13
 have Xn14 := Lib.hid n14
 have Xn20 := Lib.hid n20
 have Xn21 := Lib.hid n21
 have Xn23 := Lib.hid n23
 have Xn24 := Lib.hid n24
 have Xn30 := Lib.hid n30
 have Xn31 := Lib.hid n31
 have Xn32 := Lib.hid n32
 have Xn34 := Lib.hid n34
 have Xn40 := Lib.hid n40
 have Xn41 := Lib.hid n41
 have Xn42 := Lib.hid n42
 have Xn43 := Lib.hid n43
 have Xm0 := Lib.hid m0
 have Xm1 := Lib.hid m1
 have Xm2 := Lib.hid m2
 have Xm3 := Lib.hid m3
 have Xm4 := Lib.hid m4
 have Xk0 := Lib.hid k0
 have Xk1 := Lib.hid k1
 have Xk2 := Lib.hid k2
 have Xk3 := Lib.hid k3
 have Xk4 := Lib.hid k4
 clear hg0 hg1 hg2 hg3 hg4 hs0 hN hgl1 hgl2 hgl3 hgl4 q0 q1 q2 q3 q4
 clear n01 n02 n10 n12 n13 n14 n20 n21 n23 n24 n31 n32 n41 n42 m1 m2 k1 k2
 obtain ⟨x0,x1,x2⟩ := b0.c3
 obtain ⟨o0,o1,o2,o3,o4⟩ := b3.c5
 obtain ⟨y0,y1,y2,y3,y4⟩ := b4.c5
 obtain ⟨xf0,xf1,xf2⟩ := b0.f3
 have of0 := b3.fr 0
 have yf0 := b4.fr 0
 have yf4 := b4.fr 4
 rw [HAQ.out] at y4
 rw [HAQ.out] at b4
 go_upto_region 18 with (fail)
 obtain ⟨wb,wof,hWA,hwbp,hwr⟩ := SeqAt.at_ HWS.out (getD_some (d := default) hq)
 obtain ⟨wb',wof',hWA',hwbp',hwr0⟩ := SeqAt.at_ HWS.out (getD_some (d := default) (show 0 < c.ws.length by omega))
 obtain ⟨rfl,rfl⟩ : wb = wb' ∧ wof = wof' := by rw [hWA] at hWA'; injection hWA' with e; injection e with e1 e2; exact ⟨e1,e2⟩
 subst hWA
 obtain ⟨y,hy0⟩ : ∃ y,y = c.ws.getD q default := ⟨_,rfl⟩
 obtain ⟨z,hz0⟩ : ∃ z,z = c.ws.getD 0 default := ⟨_,rfl⟩
 rw [← hy0] at hwr
 rw [← hz0] at hwr0
 have HY0 := Lib.hid hy0
 have HZ0 := Lib.hid hz0
 have HWC := Lib.hid (show ∀ W,Below w.heap.size w W → W.cell? ⟨wb,wof + q * 2,none⟩ = some (.string y.k) ∧ W.cell? ⟨wb,wof + q * 2 + 1,none⟩ = some (.string y.v) ∧ W.cell? ⟨wb,wof,none⟩ = some (.string z.k) from fun W hW => by
  have e : ∀ j,W.cell? ⟨wb,j,none⟩ = w.cell? ⟨wb,j,none⟩ := fun j => hW.cell (p := ⟨wb,j,none⟩) hwbp.1
  have e0 := hwr0.k
  rw [Nat.zero_mul,Nat.add_zero] at e0
  exact ⟨(e _).trans hwr.k,(e _).trans hwr.v,(e _).trans e0⟩)
 have HYV := Lib.hid (wr_valid HWV.out (show y ∈ c.ws by rw [hy0]; exact getD_mem hq))
 have HZV := Lib.hid (wr_valid HWV.out (show z ∈ c.ws by rw [hz0]; exact getD_mem (by omega)))
 have HYK := Lib.hid hwr.ok
 have HZK := Lib.hid hwr0.ok
 obtain ⟨w1,w2,w3'⟩ := HWC.out W0 HB0.out
 have i0 : (0 : Int) ≤ (q : Int) := by omega
 have i1 : (q : Int) < (c.ws.length : Int) := by omega
 clear hwr hwr0 hy0 hz0 hwbp' hWA'
 have HP0 := Lib.hid (show ∀ b,b < w.heap.size ∧ b ≠ gC ∧ ¬ X b → b < W0.heap.size from fun b h => Nat.lt_of_lt_of_le h.1 HB0.out.size)
 have HR0 := Lib.hid (show RowsAt W0 (fun b => b < w.heap.size ∧ b ≠ gC ∧ ¬ X b) RA wo.rows from rows_turn H.out.rows (fun b hb => hb.1) HB0.out (fun b hb => hb))
 have HRO := Lib.hid (fun W (hW : Below W0.heap.size W0 W) => (rowOf_any y.k (fun b => b < w.heap.size ∧ b ≠ gC ∧ ¬ X b) RA (some ⟨gC,0,none⟩) wo.rows.length rc m cc wo.clock wo.rows W rfl (rows_turn HR0.out HP0.out hW (fun _ h => h)) (fun b h => Nat.lt_of_lt_of_le (HP0.out b h) hW.size) HR.out.inc HYK.out.1).mono fun e w' h => by
  obtain ⟨A,c,he,hh,hb⟩ := h
  exact (⟨A,c,he,hh.mono (fun _ h => h) (fun b k hp => (hW.cell (p := ⟨b,k,none⟩) (HP0.out b hp)).symm),hb⟩ : ∃ A c,e = .returned (.tuple #[rV (look wo.rows y.k) A (look wo.rows y.k).recs.length c,.bool (hasK (rowKeys wo.rows) y.k)]) ∧ RowHas W0 (fun b => b < w.heap.size ∧ b ≠ gC ∧ ¬ X b) (look wo.rows y.k,A,c) ∧ Below W.heap.size W w'))
 obtain ⟨r,hrd⟩ : ∃ r,r = look wo.rows y.k := ⟨_,rfl⟩
 have HRD := Lib.hid hrd
 rw [← hrd] at HRO
 clear hrd
 have HC := Lib.hid (show ∀ W,Below W0.heap.size W0 W → (fun W => (W.cell? ⟨g0,0,none⟩ = some (.slice RA wo.rows.length rc) ∧ W.cell? ⟨g0,1,none⟩ = some (.int .i64 wo.clock) ∧ W.cell? ⟨g0,2,none⟩ = some (.slice (some ⟨gC,0,none⟩) m cc)) ∧ W.cell? ⟨g4,3,none⟩ = some (.slice (some ⟨wb,wof,none⟩) c.ws.length wk) ∧ W.cell? ⟨g4,4,none⟩ = some (.int .i64 (q : Int)) ∧ W.cell? ⟨wb,wof + q * 2,none⟩ = some (.string y.k)) W from fun W hW => ⟨⟨(b0.upto hW).cell 0 _ rfl,(b0.upto hW).cell 1 _ rfl,(b0.upto hW).cell 2 _ rfl⟩,(b4.upto hW).cell 3 _ rfl,(b4.upto hW).cell 4 _ rfl,(HWC.out W (below_next HB0.out hW)).1⟩)
 go_cut [9,10] (fun s9 s10 wx => ∃ g A3 c3,s9 = .pointer (some ⟨g,0,none⟩) ∧ s10 = .bool (hasK (rowKeys wo.rows) y.k) ∧ RBox wx g r A3 c3 ∧ RowHas W0 (fun b => b < w.heap.size ∧ b ≠ gC ∧ ¬ X b) (r,A3,c3) ∧ W0.heap.size ≤ g ∧ Below W0.heap.size W0 wx)
 case first =>
  refine wp_region_held_drew (S := fun W => (W.cell? ⟨g0,0,none⟩ = some (.slice RA wo.rows.length rc) ∧ W.cell? ⟨g0,1,none⟩ = some (.int .i64 wo.clock) ∧ W.cell? ⟨g0,2,none⟩ = some (.slice (some ⟨gC,0,none⟩) m cc)) ∧ W.cell? ⟨g4,3,none⟩ = some (.slice (some ⟨wb,wof,none⟩) c.ws.length wk) ∧ W.cell? ⟨g4,4,none⟩ = some (.int .i64 (q : Int)) ∧ W.cell? ⟨wb,wof + q * 2,none⟩ = some (.string y.k)) (by kernel_rfl) ?_ (fun hHeld => ?_)
  ·exact ⟨⟨x0,x1,x2⟩,y3,y4,w1⟩
  refine tq 0 ?_
  refine tq 1 ?_
  refine tq 2 ?_
  refine tq 3 ?_
  refine tq 4 ?_
  refine tq 5 ?_
  refine tq 6 ?_
  refine tq 7 ?_
  refine wpAnyH_ready (rs := [8,12]) (by kernel_rfl) (by simp) ?_
  refine AllReadyH.cons (o := ?_) ?_ (fun K hK => ?_) ?_
  rotate_left 1
  ·(simp only [List.getElem?_toArray,List.getElem?_cons_zero,List.getElem?_cons_succ]; rfl)
  ·go_simp
   refine (HRO.out _ (below_drew (Below.refl _ _))).mono ?_
   rintro e w3 ⟨A3,c3,rfl,hh3,hb3⟩
   have HB03 := Lib.hid (show Below W0.heap.size W0 w3 from below_next (below_drew (Below.refl _ _)) hb3)
   clear hb3 hHeld
   (refine hK.out _ _ ?_ (fun hHeld => ?_); exact HC.out w3 HB03.out; clear hK K)
   refine tq 9 ?_
   refine tq 10 ?_
   refine tq 11 ?_
   (refine cop 12 (h := fun K hK => ?_); go_simp)
   clear hHeld
   (refine hK.out _ _ ?_ (fun hHeld => ?_); exact HC.out _ (below_alloc HB03.out _); clear hK K)
   (refine cop 13 (h := fun K hK => ?_); go_simp)
   clear hHeld
   (refine hK.out _ _ ?_ (fun hHeld => ?_); exact HC.out _ (below_alloc HB03.out _); clear hK K)
   refine tq 14 ?_
   refine wpAnyH_done (by kernel_rfl) ?_ _
   clear hHeld
   go_wp2_with fail
   go_meet
   exact ⟨_,A3,c3,rfl,rfl,RBox.new w3 _ _ _,hh3,HB03.out.size,(below_alloc HB03.out _)⟩
  ·refine AllReadyH.cons (o := ?_) ?_ (fun K hK => ?_) AllReadyH.nil
   rotate_left 1
   ·(simp only [List.getElem?_toArray,List.getElem?_cons_zero,List.getElem?_cons_succ]; rfl)
   ·go_simp
    clear hHeld
    (refine hK.out _ _ ?_ (fun hHeld => ?_); exact HC.out _ (below_alloc (below_drew (Below.refl _ _)) _); clear hK K)
    (refine cop 8 (h := fun K hK => ?_); go_simp)
    refine (HRO.out _ (below_alloc (below_drew (Below.refl _ _)) _)).mono ?_
    rintro e w3 ⟨A3,c3,rfl,hh3,hb3⟩
    have hbx := (RBox.zero W0.drew).upto hb3
    have HBX := Lib.hid hbx
    obtain ⟨z0,z1,z2,z3,z4,zf⟩ := hbx
    have f0 := zf 0
    have f1 := zf 1
    have f2 := zf 2
    have f3 := zf 3
    have f4 := zf 4
    have HB03 := Lib.hid (show Below W0.heap.size W0 w3 from below_next (below_alloc (below_drew (Below.refl _ _)) _) hb3)
    clear hb3 hHeld zf
    rw [show (World.drew W0).heap.size = W0.heap.size from rfl] at z0 z1 z2 z3 z4 f0 f1 f2 f3 f4 HBX
    (refine hK.out _ _ ?_ (fun hHeld => ?_); exact HC.out w3 HB03.out; clear hK K)
    refine tq 9 ?_
    refine tq 10 ?_
    refine tq 11 ?_
    (refine cop 13 (h := fun K hK => ?_); go_simp)
    clear hHeld
    (refine hK.out _ _ ?_ (fun hHeld => ?_); exact HC.out _ (bset5 HB03.out (Nat.le_refl _) _ _ _ _ _); clear hK K)
    refine tq 14 ?_
    refine wpAnyH_done (by kernel_rfl) ?_ _
    clear hHeld
    go_wp2_with fail
    go_meet
    exact ⟨_,A3,c3,rfl,rfl,(RBox.set HBX.out _ _ _),hh3,(Nat.le_refl _),(bset5 HB03.out (Nat.le_refl _) _ _ _ _ _)⟩
 case rest =>
  obtain ⟨gr,A3,c3,rfl,rfl,hbx,hh3,hgr,hbc⟩ := hcut
  have HBC := Lib.hid hbc
  have HBX := Lib.hid hbx
  have HH3 := Lib.hid hh3
  have b0 := BoxIs.upto b0 hbc
  have b1 := BoxIs.upto b1 hbc
  have b2 := BoxIs.upto b2 hbc
  have b3 := BoxIs.upto b3 hbc
  have b4 := BoxIs.upto b4 hbc
  obtain ⟨p0,p1,p2,p3,p4,pf⟩ := hbx
  have nr : gr ≠ g4 := by have := HG.out; have := HN.out; omega
  have nr' : g4 ≠ gr := by have := HG.out; have := HN.out; omega
  clear x0 x1 x2 o0 o1 o2 o3 o4 y0 y1 y2 y3 y4 xf0 xf1 xf2 of0 yf0 yf4
  clear w1 w2 w3' hbc hh3 pf
  obtain ⟨x0,x1,x2⟩ := b0.c3
  obtain ⟨o0,o1,o2,o3,o4⟩ := b3.c5
  obtain ⟨y0,y1,y2,y3,y4⟩ := b4.c5
  obtain ⟨xf0,xf1,xf2⟩ := b0.f3
  have of0 := b3.fr 0
  have yf0 := b4.fr 0
  have yf4 := b4.fr 4
  go_upto_region 21 with (fail)
  obtain ⟨W1,hW1⟩ : ∃ W1,W1 = (wc.setCell ⟨g4,0,none⟩ (.int .i64 2)) := ⟨_,rfl⟩
  rw [← hW1]
  have b0 := BoxIs.to hW1 (.o1 b0 Xn04.out)
  have b1 := BoxIs.to hW1 (.o1 b1 Xn14.out)
  have b2 := BoxIs.to hW1 (.o1 b2 Xn24.out)
  have b3 := BoxIs.to hW1 (.o1 b3 Xn34.out)
  have b4 : BoxIs W1 g4 [.int .i64 2,.int .i64 c.st,.int .i64 c.cm,.slice (some ⟨wb,wof,none⟩) c.ws.length wk,.int .i64 (q : Int)] := BoxIs.to hW1 (.set b4 0 _)
  have HW1 := Lib.hid hW1
  clear hW1
  have HBX1 := Lib.hid (show RBox W1 gr r A3 c3 from by
   have e : ∀ k,W1.cell? ⟨gr,k,none⟩ = wc.cell? ⟨gr,k,none⟩ := fun k => World.cell?_of_block (w := wc) (a := ⟨gr,k,none⟩) (by rw [HW1.out]; exact Below.heap_setCell _ _ _ _ nr)
   exact ⟨(e _).trans HBX.out.c0,(e _).trans HBX.out.c1,(e _).trans HBX.out.c2,(e _).trans HBX.out.c3,(e _).trans HBX.out.c4,fun o => (World.frozen?_of_block (w := wc) (a := ⟨gr,o,none⟩) (by rw [HW1.out]; exact Below.heap_setCell _ _ _ _ nr)).trans (HBX.out.f o)⟩)
  have HB01 := Lib.hid (show Below w.heap.size w W1 by
   rw [HW1.out]
   exact (below_next HB0.out HBC.out).setCell (by show w.heap.size ≤ g4; have := HG.out; omega) _)
  have hs1 : W1.heap.size = wc.heap.size := by rw [HW1.out]; simp
  have HS1 := Lib.hid (show N ≤ W1.heap.size by have := HN.out; have := HBC.out.size; omega)
  clear p0 p1 p2 p3 p4 hs1
  obtain ⟨p0,p1,p2,p3,p4,pf⟩ := HBX1.out
  have HP1 := Lib.hid (show ∀ b,b < w.heap.size ∧ b ≠ gC ∧ ¬ X b → b < W1.heap.size from fun b h => Nat.lt_of_lt_of_le h.1 HB01.out.size)
  have HH1 := Lib.hid (show RowHas W1 (fun b => b < w.heap.size ∧ b ≠ gC ∧ ¬ X b) (r,A3,c3) from HH3.out.mono (fun _ h => h) (fun b k hp => (HB01.out.cell (p := ⟨b,k,none⟩) hp.1).trans (HB0.out.cell (p := ⟨b,k,none⟩) hp.1).symm))
  obtain ⟨w1,w2,w3'⟩ := HWC.out W1 HB01.out
  obtain ⟨U,hU⟩ : ∃ U,U = lockOp c.st z.k y.v r := ⟨_,rfl⟩
  have HU := Lib.hid hU
  have HLO := Lib.hid (fun W (hW : Below W1.heap.size W1 W) => show Calls Tryz.prog 38 #[rV r A3 r.recs.length c3,.int .i64 c.st,.string z.k,.string y.v] W (OpOut U W) from by
   rw [hU]; exact lockRef_op r A3 r.recs.length c3 c.st z.k y.v W ((HH1.out.op HP1.out).upto hW) HZK.out.1 HYK.out.2)
  clear hU pf
  clear x0 x1 x2 o0 o1 o2 o3 o4 y0 y1 y2 y3 y4 xf0 xf1 xf2 of0 yf0 yf4
  obtain ⟨x0,x1,x2⟩ := b0.c3
  obtain ⟨o0,o1,o2,o3,o4⟩ := b3.c5
  obtain ⟨y0,y1,y2,y3,y4⟩ := b4.c5
  obtain ⟨xf0,xf1,xf2⟩ := b0.f3
  have of0 := b3.fr 0
  have yf0 := b4.fr 0
  have yf4 := b4.fr 4
  have HC2 := Lib.hid (show ∀ W,Below W1.heap.size W1 W → (fun W => (W.cell? ⟨gr,0,none⟩ = some (.string r.key) ∧ W.cell? ⟨gr,1,none⟩ = some (.int .i64 r.ls) ∧ W.cell? ⟨gr,2,none⟩ = some (.string r.lp) ∧ W.cell? ⟨gr,3,none⟩ = some (.string r.val) ∧ W.cell? ⟨gr,4,none⟩ = some (.slice A3 r.recs.length c3)) ∧ W.cell? ⟨g4,1,none⟩ = some (.int .i64 c.st) ∧ W.cell? ⟨g4,3,none⟩ = some (.slice (some ⟨wb,wof,none⟩) c.ws.length wk) ∧ W.cell? ⟨g4,4,none⟩ = some (.int .i64 (q : Int)) ∧ W.cell? ⟨wb,wof,none⟩ = some (.string z.k) ∧ W.cell? ⟨wb,wof + q * 2 + 1,none⟩ = some (.string y.v)) W from fun W hW => by
   have hx := HBX1.out.upto hW
   have hw := HWC.out W (below_next HB01.out hW)
   exact ⟨⟨hx.c0,hx.c1,hx.c2,hx.c3,hx.c4⟩,(b4.upto hW).cell 1 _ rfl,(b4.upto hW).cell 3 _ rfl,(b4.upto hW).cell 4 _ rfl,hw.2.2,hw.2.1⟩)
  go_cut [11,12] (fun s11 s12 wx => ∃ g A4 c4,s11 = .pointer (some ⟨g,0,none⟩) ∧ s12 = .int .i64 U.2 ∧ RBox wx g U.1 A4 c4 ∧ RecsAt wx wx.heap.size A4 U.1.recs ∧ NewC W1.heap.size A4 U.1.recs.length c4 ∧ W1.heap.size ≤ g ∧ Below W1.heap.size W1 wx)
  case first =>
   refine wp_region_held_drew (S := fun W => (W.cell? ⟨gr,0,none⟩ = some (.string r.key) ∧ W.cell? ⟨gr,1,none⟩ = some (.int .i64 r.ls) ∧ W.cell? ⟨gr,2,none⟩ = some (.string r.lp) ∧ W.cell? ⟨gr,3,none⟩ = some (.string r.val) ∧ W.cell? ⟨gr,4,none⟩ = some (.slice A3 r.recs.length c3)) ∧ W.cell? ⟨g4,1,none⟩ = some (.int .i64 c.st) ∧ W.cell? ⟨g4,3,none⟩ = some (.slice (some ⟨wb,wof,none⟩) c.ws.length wk) ∧ W.cell? ⟨g4,4,none⟩ = some (.int .i64 (q : Int)) ∧ W.cell? ⟨wb,wof,none⟩ = some (.string z.k) ∧ W.cell? ⟨wb,wof + q * 2 + 1,none⟩ = some (.string y.v)) (by kernel_rfl) ?_ (fun hHeld => ?_)
   ·exact ⟨⟨p0,p1,p2,p3,p4⟩,y1,y3,y4,w3',w2⟩
   refine tq 0 ?_
   refine tq 1 ?_
   refine tq 2 ?_
   refine tq 3 ?_
   refine tq 4 ?_
   refine tq 5 ?_
   refine tq 6 ?_
   refine tq 7 ?_
   refine tq 8 ?_
   refine tq 9 ?_
   refine tq 10 ?_
   refine tq 11 ?_
   refine tq 12 ?_
   refine tq 13 ?_
   refine tq 14 ?_
   refine wpAnyH_ready (rs := [15,19]) (by kernel_rfl) (by simp) ?_
   refine AllReadyH.cons (o := ?_) ?_ (fun K hK => ?_) ?_
   rotate_left 1
   ·(simp only [List.getElem?_toArray,List.getElem?_cons_zero,List.getElem?_cons_succ]; rfl)
   ·go_simp
    refine (HLO.out _ (below_drew (Below.refl _ _))).mono ?_
    rintro e w3 ⟨A3',c3',rfl,hrec3,hnew3,hb3⟩
    have HB03 := Lib.hid (show Below W1.heap.size W1 w3 from below_next (below_drew (Below.refl _ _)) hb3)
    clear hb3 hHeld
    (refine hK.out _ _ ?_ (fun hHeld => ?_); exact HC2.out w3 HB03.out; clear hK K)
    refine tq 16 ?_
    refine tq 17 ?_
    refine tq 18 ?_
    (refine cop 19 (h := fun K hK => ?_); go_simp)
    clear hHeld
    (refine hK.out _ _ ?_ (fun hHeld => ?_); exact HC2.out _ (below_alloc HB03.out _); clear hK K)
    (refine cop 20 (h := fun K hK => ?_); go_simp)
    clear hHeld
    (refine hK.out _ _ ?_ (fun hHeld => ?_); exact HC2.out _ (below_alloc HB03.out _); clear hK K)
    refine tq 21 ?_
    refine wpAnyH_done (by kernel_rfl) ?_ _
    clear hHeld
    go_wp2_with fail
    go_meet
    exact ⟨_,A3',c3',rfl,rfl,RBox.new w3 _ _ _,(hrec3.upto (below_alloc (Below.refl _ _) _)),⟨fun ad h => hnew3.1 ad h,hnew3.2⟩,HB03.out.size,(below_alloc HB03.out _)⟩
   ·refine AllReadyH.cons (o := ?_) ?_ (fun K hK => ?_) AllReadyH.nil
    rotate_left 1
    ·(simp only [List.getElem?_toArray,List.getElem?_cons_zero,List.getElem?_cons_succ]; rfl)
    ·go_simp
     clear hHeld
     (refine hK.out _ _ ?_ (fun hHeld => ?_); exact HC2.out _ (below_alloc (below_drew (Below.refl _ _)) _); clear hK K)
     (refine cop 15 (h := fun K hK => ?_); go_simp)
     refine (HLO.out _ (below_alloc (below_drew (Below.refl _ _)) _)).mono ?_
     rintro e w3 ⟨A3',c3',rfl,hrec3,hnew3,hb3⟩
     have hbx := (RBox.zero W1.drew).upto hb3
     have HBX := Lib.hid hbx
     obtain ⟨z0,z1,z2,z3,z4,zf⟩ := hbx
     have f0 := zf 0
     have f1 := zf 1
     have f2 := zf 2
     have f3 := zf 3
     have f4 := zf 4
     have HB03 := Lib.hid (show Below W1.heap.size W1 w3 from below_next (below_alloc (below_drew (Below.refl _ _)) _) hb3)
     clear hb3 hHeld zf
     rw [show (World.drew W1).heap.size = W1.heap.size from rfl] at z0 z1 z2 z3 z4 f0 f1 f2 f3 f4 HBX
     (refine hK.out _ _ ?_ (fun hHeld => ?_); exact HC2.out w3 HB03.out; clear hK K)
     refine tq 16 ?_
     refine tq 17 ?_
     refine tq 18 ?_
     (refine cop 20 (h := fun K hK => ?_); go_simp)
     clear hHeld
     (refine hK.out _ _ ?_ (fun hHeld => ?_); exact HC2.out _ (bset5 HB03.out (Nat.le_refl _) _ _ _ _ _); clear hK K)
     refine tq 21 ?_
     refine wpAnyH_done (by kernel_rfl) ?_ _
     clear hHeld
     go_wp2_with fail
     go_meet
     exact ⟨_,A3',c3',rfl,rfl,(RBox.set HBX.out _ _ _),(rec_set5 hrec3 (fun ad h => new_al (hnew3.1 ad h))),⟨fun ad h => Nat.le_trans (Nat.le_succ _) (new_al (hnew3.1 ad h)),hnew3.2⟩,(Nat.le_refl _),(bset5 HB03.out (Nat.le_refl _) _ _ _ _ _)⟩
  case rest =>
   obtain ⟨gn,A4,c4,rfl,rfl,hbx4,hrec4,hnew4,hgn,hbc4⟩ := hcut
   obtain ⟨U1,ue⟩ := U
   dsimp only at hbx4 hrec4 hnew4 ⊢
   have HB14 := Lib.hid hbc4
   have HREC := Lib.hid hrec4
   have HNEW := Lib.hid hnew4
   have HBX4 := Lib.hid hbx4
   have HB04 := Lib.hid (show Below w.heap.size w wc from below_next HB01.out hbc4)
   have b0 := BoxIs.upto b0 hbc4
   have b1 := BoxIs.upto b1 hbc4
   have b2 := BoxIs.upto b2 hbc4
   have b3 := BoxIs.upto b3 hbc4
   have b4 := BoxIs.upto b4 hbc4
   obtain ⟨p0,p1,p2,p3,p4,pf⟩ := hbx4
   have HGN := Lib.hid (show N ≤ gn from Nat.le_trans HS1.out hgn)
   have nn3 : gn ≠ g3 := by have := HG.out; have := HGN.out; omega
   have nn3' : g3 ≠ gn := by have := HG.out; have := HGN.out; omega
   have HLW := Lib.hid (show lockW wo C ⟨2,c.st,c.cm,c.ws,(q : Int)⟩ = (if (chgRow wo.rows y.k (lockOp c.st z.k y.v)).2 = 0 then (⟨(chgRow wo.rows y.k (lockOp c.st z.k y.v)).1,wo.clock,wo.cls.set C ⟨2,c.st,c.cm,c.ws,(q : Int) + 1⟩⟩,0) else if (chgRow wo.rows y.k (lockOp c.st z.k y.v)).2 = 7 then (wo.setC C ⟨2,c.st,c.cm,c.ws,(q : Int)⟩,7) else (failW wo C ⟨2,c.st,c.cm,c.ws,(q : Int)⟩,(chgRow wo.rows y.k (lockOp c.st z.k y.v)).2)) by
    rw [lockW]
    show (if (chgRow wo.rows (c.ws.getD (q : Int).toNat default).k (lockOp c.st (c.ws.getD 0 default).k (c.ws.getD (q : Int).toNat default).v)).2 = 0 then _ else _) = _
    rw [Int.toNat_natCast,← HY0.out,← HZ0.out])
   have HCE := Lib.hid (show ({ c with ph := 2 } : ClM) = ⟨2,c.st,c.cm,c.ws,(q : Int)⟩ by rw [← HAQ.out])
   rw [HCE.out] at HE
   have HOV := Lib.hid (lockOp_valid (r := r) (st := c.st) (pk := z.k) (pv := y.v) (by rw [HRD.out]; exact look_valid HR.out HYV.out.1))
   have HUOK := Lib.hid (lockOp_ok (r := r) (st := c.st) (pk := z.k) (pv := y.v) HH1.out.ok HOK.out.s HZK.out.1 HYK.out.2)
   have HCI := Lib.hid (chg_ins (rows := wo.rows) (key := y.k) (op := lockOp c.st z.k y.v))
   have HCB := Lib.hid (chg_bad (rows := wo.rows) (key := y.k) (op := lockOp c.st z.k y.v))
   have HCO := Lib.hid (chg_over (rows := wo.rows) (key := y.k) (op := lockOp c.st z.k y.v))
   have HLKY := Lib.hid (show r.key = y.k by rw [HRD.out]; exact look_key _ _)
   rw [← HRD.out,← HU.out] at HCI HCB
   rw [← HU.out] at HOV HUOK
   have h40 := HR.out.len
   have s8 : IntKind.i64.wrap ((q : Int) + 1) = (q : Int) + 1 := IntWalk.i64_in _ (by have : (c.ws.length : Int) ≤ 4398046511104 := (by omega); omega)
   clear x0 x1 x2 o0 o1 o2 o3 o4 y0 y1 y2 y3 y4 xf0 xf1 xf2 of0 yf0 yf4
   clear w1 w2 w3' hbc4 hrec4 hnew4 pf hgn
   obtain ⟨x0,x1,x2⟩ := b0.c3
   obtain ⟨o0,o1,o2,o3,o4⟩ := b3.c5
   obtain ⟨y0,y1,y2,y3,y4⟩ := b4.c5
   obtain ⟨xf0,xf1,xf2⟩ := b0.f3
   have of0 := b3.fr 0
   have yf0 := b4.fr 0
   have yf4 := b4.fr 4
   obtain ⟨ov,hov⟩ : ∃ ov,ov = (!hasK (rowKeys wo.rows) y.k && decide (40 ≤ (wo.rows.length : Int))) := ⟨_,rfl⟩
   go_upto_region 22 with (fail)
   go_cut [10,109] (fun s10 s109 wx => s10 = .bool (hasK (rowKeys wo.rows) y.k) ∧ s109 = .bool ov ∧ wx = wc)
   case first =>
    cases hth : hasK (rowKeys wo.rows) y.k with
    | true =>
     have ho : ov = false := by rw [hov,hth]; rfl
     go_wp2_with fail
     go_meet
     exact ⟨by rw [hth],by rw [ho],rfl⟩
    | false =>
     by_cases hd : 40 ≤ (wo.rows.length : Int)
     ·have hd' : decide (40 ≤ (wo.rows.length : Int)) = true := decide_eq_true hd
      have ho : ov = true := by rw [hov,hth,hd']; rfl
      go_wp2_with fail
      go_meet
      exact ⟨by rw [hth],by rw [ho],rfl⟩
     ·have hd' : decide (40 ≤ (wo.rows.length : Int)) = false := decide_eq_false hd
      have ho : ov = false := by rw [hov,hth,hd']; rfl
      go_wp2_with fail
      go_meet
      exact ⟨by rw [hth],by rw [ho],rfl⟩
   case rest =>
   obtain ⟨rfl,rfl,hwx⟩ := hcut
   subst hwx
   cases hvo : ov with
   | false =>
    have hf : hasK (rowKeys wo.rows) y.k = true ∨ wo.rows.length < 40 := by
     rw [hvo] at hov
     cases e : hasK (rowKeys wo.rows) y.k with
     | true => exact .inl rfl
     | false =>
      rw [e] at hov
      right
      have : decide (40 ≤ (wo.rows.length : Int)) = false := by simpa using hov.symm
      simp at this
      omega
    have HF := Lib.hid hf
    clear hf hov hvo
    by_cases he : ue = 0
    ·rw [he]
     ·go_upto_region 25 with (fail)
      obtain ⟨W2,hW2⟩ : ∃ W2,W2 = (wc.setCell ⟨g3,0,none⟩ (.int .i64 0)) := ⟨_,rfl⟩
      rw [← hW2]
      have b0 := BoxIs.to hW2 (.o1 b0 Xn03.out)
      have b1 := BoxIs.to hW2 (.o1 b1 Xn13.out)
      have b2 := BoxIs.to hW2 (.o1 b2 Xn23.out)
      have b3 : BoxIs W2 g3 [.int .i64 0,.bool false,.string ⟨#[]⟩,.int .i64 0,.int .i64 0] := BoxIs.to hW2 (.set b3 0 _)
      have b4 := BoxIs.to hW2 (.o1 b4 Xn43.out)
      have HW2 := Lib.hid hW2
      clear hW2
      have HB02 := Lib.hid (show Below w.heap.size w W2 by rw [HW2.out]; exact HB04.out.setCell (by show w.heap.size ≤ g3; have := HG.out; omega) _)
      have hs2 : W2.heap.size = wc.heap.size := by rw [HW2.out]; simp
      have k2 : ∀ b,b ≠ g3 → W2.heap[b]? = wc.heap[b]? := fun b hb => by rw [HW2.out]; exact Below.heap_setCell _ _ _ _ hb
      have HBX2 := Lib.hid (show RBox W2 gn U1 A4 c4 from by
       have e : ∀ k,W2.cell? ⟨gn,k,none⟩ = wc.cell? ⟨gn,k,none⟩ := fun k => World.cell?_of_block (w := wc) (a := ⟨gn,k,none⟩) (k2 gn nn3)
       exact ⟨(e _).trans HBX4.out.c0,(e _).trans HBX4.out.c1,(e _).trans HBX4.out.c2,(e _).trans HBX4.out.c3,(e _).trans HBX4.out.c4,fun o => (World.frozen?_of_block (w := wc) (a := ⟨gn,o,none⟩) (k2 gn nn3)).trans (HBX4.out.f o)⟩)
      have HHAS := Lib.hid (show RowHas W2 (fun b => (b < w.heap.size ∧ b ≠ gC ∧ ¬ X b) ∨ (N ≤ b ∧ b < W2.heap.size)) (U1,A4,c4) from ⟨HNEW.out.2,(HREC.out.in_ (P := fun b => N ≤ b ∧ b < wc.heap.size) (fun ad hA hb => ⟨Nat.le_trans HS1.out (HNEW.out.1 ad hA),hb⟩)).mono (fun b hb => .inr ⟨hb.1,by omega⟩) (fun b k hb => World.cell?_of_block (w := wc) (a := ⟨b,k,none⟩) (k2 b (by have h1 : N ≤ b := hb.1; have := HG.out; omega))),HUOK.out he⟩)
      have HWI := Lib.hid (withRow_any (fun b => (b < w.heap.size ∧ b ≠ gC ∧ ¬ X b) ∨ (N ≤ b ∧ b < W2.heap.size)) RA (some ⟨gC,0,none⟩) wo.rows.length rc m cc wo.clock wo.rows U1 A4 c4 W2 rfl (rows_turn H.out.rows (fun b hb => hb.1) HB02.out (fun b hb => .inl hb)) (fun b hb => by
       rcases hb with hb | hb
       ·exact Nat.lt_of_lt_of_le hb.1 HB02.out.size
       ·exact hb.2) HR.out.inc HHAS.out h40)
      have HINS := Lib.hid (HCI.out he HF.out ((HOV.out he).2.trans HLKY.out))
      have HE2 := Lib.hid (show Z = (⟨insK RowM.key wo.rows U1,wo.clock,wo.cls.set C ⟨2,c.st,c.cm,c.ws,(q : Int) + 1⟩⟩,ansCode 0) by rw [HE.out,HLW.out,HINS.out,if_pos rfl])
      clear hs2 k2 p0 p1 p2 p3 p4 HE
      obtain ⟨p0,p1,p2,p3,p4,pf⟩ := HBX2.out
      clear pf
      clear x0 x1 x2 o0 o1 o2 o3 o4 y0 y1 y2 y3 y4 xf0 xf1 xf2 of0 yf0 yf4
      obtain ⟨x0,x1,x2⟩ := b0.c3
      obtain ⟨o0,o1,o2,o3,o4⟩ := b3.c5
      obtain ⟨y0,y1,y2,y3,y4⟩ := b4.c5
      obtain ⟨xf0,xf1,xf2⟩ := b0.f3
      have of0 := b3.fr 0
      have yf0 := b4.fr 0
      have yf4 := b4.fr 4
      go_wp2_with fail
      refine HWI.out.mono ?_
      rintro e w5 ⟨RA5,rc5,rfl,hc5,hrows5,hb5⟩
      have HB25 := Lib.hid hb5
      have HR5 := Lib.hid hrows5
      have HC5 := Lib.hid hc5
      have HB05 := Lib.hid (below_next HB02.out hb5)
      have HE := Lib.hid HE2.out
      obtain ⟨NR,hNR⟩ : ∃ NR,NR = insK RowM.key wo.rows U1 := ⟨_,rfl⟩
      rw [← hNR] at HR5 HC5 HE ⊢
      have b0 := BoxIs.upto b0 hb5
      have b1 := BoxIs.upto b1 hb5
      have b2 := BoxIs.upto b2 hb5
      have b3 := BoxIs.upto b3 hb5
      have b4 := BoxIs.upto b4 hb5
      clear x0 x1 x2 o0 o1 o2 o3 o4 y0 y1 y2 y3 y4 xf0 xf1 xf2 of0 yf0 yf4
      clear hrows5 hc5 hb5 p0 p1 p2 p3 p4 hNR HE2
      obtain ⟨x0,x1,x2⟩ := b0.c3
      obtain ⟨o0,o1,o2,o3,o4⟩ := b3.c5
      obtain ⟨y0,y1,y2,y3,y4⟩ := b4.c5
      obtain ⟨xf0,xf1,xf2⟩ := b0.f3
      have of0 := b3.fr 0
      have yf0 := b4.fr 0
      have yf4 := b4.fr 4
      go_upto_region 28 with (fail)
      obtain ⟨W3,hW3⟩ : ∃ W3,W3 = ((((w5.setCell ⟨g0,0,none⟩ (.slice RA5 NR.length rc5)).setCell ⟨g0,1,none⟩ (.int .i64 wo.clock)).setCell ⟨g0,2,none⟩ (.slice (some ⟨gC,0,none⟩) m cc)).setCell ⟨g4,4,none⟩ (.int .i64 ((q : Int) + 1))) := ⟨_,rfl⟩
      rw [← hW3]
      have b0 : BoxIs W3 g0 [.slice RA5 NR.length rc5,.int .i64 wo.clock,.slice (some ⟨gC,0,none⟩) m cc] := BoxIs.to hW3 (.o1 (.set (.set (.set b0 0 _) 1 _) 2 _) Xn04.out)
      have b1 := BoxIs.to hW3 (.o1 (.o3 b1 Xn10.out) Xn14.out)
      have b2 := BoxIs.to hW3 (.o1 (.o3 b2 Xn20.out) Xn24.out)
      have b3 := BoxIs.to hW3 (.o1 (.o3 b3 Xn30.out) Xn34.out)
      have b4 : BoxIs W3 g4 [.int .i64 2,.int .i64 c.st,.int .i64 c.cm,.slice (some ⟨wb,wof,none⟩) c.ws.length wk,.int .i64 ((q : Int) + 1)] := BoxIs.to hW3 (.set (.o1 (.o1 (.o1 b4 Xn40.out) Xn40.out) Xn40.out) 4 _)
      have HW3 := Lib.hid hW3
      clear hW3
      have HB03 := Lib.hid (show Below w.heap.size w W3 by
       have hg := HG.out
       have l0 : w.heap.size ≤ g0 := by omega
       have l4 : w.heap.size ≤ g4 := by omega
       rw [HW3.out]
       exact (((HB05.out.setCell l0 _).setCell l0 _).setCell l0 _).setCell l4 _)
      have HR3 := Lib.hid (show RowsAt W3 (fun b => (b < w.heap.size ∧ b ≠ gC ∧ ¬ X b) ∨ (N ≤ b ∧ b < W3.heap.size)) RA5 NR from by
       have hs3 : W3.heap.size = w5.heap.size := by rw [HW3.out]; simp
       have hs25 := HB25.out.size
       have hs02 : N ≤ W2.heap.size := by
        have e2 : W2.heap.size = wc.heap.size := by rw [HW2.out]; simp
        have := HS1.out; have := HB14.out.size; omega
       have hg := HG.out
       refine HR5.out.rows (fun b hb => ?_) (fun b k hb => World.cell?_of_block (w := w5) (a := ⟨b,k,none⟩) ?_)
       ·rcases hb with (hb | hb) | hb
        ·exact .inl hb
        ·exact .inr ⟨hb.1,by omega⟩
        ·exact .inr ⟨by omega,by omega⟩
       ·have n0 : b ≠ g0 := by rcases hb with (hb | hb) | hb <;> omega
        have n4 : b ≠ g4 := by rcases hb with (hb | hb) | hb <;> omega
        rw [HW3.out,Below.heap_setCell _ _ _ _ n4,Below.heap_setCell _ _ _ _ n0,Below.heap_setCell _ _ _ _ n0,Below.heap_setCell _ _ _ _ n0])
      clear x0 x1 x2 o0 o1 o2 o3 o4 y0 y1 y2 y3 y4 xf0 xf1 xf2 of0 yf0 yf4
      obtain ⟨x0,x1,x2⟩ := b0.c3
      obtain ⟨o0,o1,o2,o3,o4⟩ := b3.c5
      obtain ⟨y0,y1,y2,y3,y4⟩ := b4.c5
      obtain ⟨xf0,xf1,xf2⟩ := b0.f3
      have of0 := b3.fr 0
      have yf0 := b4.fr 0
      have yf4 := b4.fr 4
      have t0 := gcell H.out HB03.out hCm 0 (by omega)
      have t1 := gcell H.out HB03.out hCm 1 (by omega)
      have t2 := gcell H.out HB03.out hCm 2 (by omega)
      have t3 := gcell H.out HB03.out hCm 3 (by omega)
      have t4 := gcell H.out HB03.out hCm 4 (by omega)
      rw [Nat.add_zero] at t0
      obtain ⟨u0,t0,tf0⟩ := t0
      obtain ⟨u1,t1,tf1⟩ := t1
      obtain ⟨u2,t2,tf2⟩ := t2
      obtain ⟨u3,t3,tf3⟩ := t3
      obtain ⟨u4,t4,tf4⟩ := t4
      go_upto_region 29 with (fail)
      obtain ⟨W8,hW8⟩ : ∃ W8,W8 = (((((W3.setCell ⟨gC,C * 5,none⟩ (.int .i64 2)).setCell ⟨gC,C * 5 + 1,none⟩ (.int .i64 c.st)).setCell ⟨gC,C * 5 + 2,none⟩ (.int .i64 c.cm)).setCell ⟨gC,C * 5 + 3,none⟩ (.slice (some ⟨wb,wof,none⟩) c.ws.length wk)).setCell ⟨gC,C * 5 + 4,none⟩ (.int .i64 ((q : Int) + 1))) := ⟨_,rfl⟩
      rw [← hW8]
      have b0 := BoxIs.to hW8 (.o5 b0 Xk0.out)
      have b1 := BoxIs.to hW8 (.o5 b1 Xk1.out)
      have b2 := BoxIs.to hW8 (.o5 b2 Xk2.out)
      have b3 := BoxIs.to hW8 (.o5 b3 Xk3.out)
      have b4 := BoxIs.to hW8 (.o5 b4 Xk4.out)
      have HW8 := Lib.hid hW8
      clear hW8
      clear t0 t1 t2 t3 t4 tf0 tf1 tf2 tf3 tf4
      clear x0 x1 x2 o0 o1 o2 o3 o4 y0 y1 y2 y3 y4 xf0 xf1 xf2 of0 yf0 yf4
      obtain ⟨x0,x1,x2⟩ := b0.c3
      obtain ⟨o0,o1,o2,o3,o4⟩ := b3.c5
      obtain ⟨y0,y1,y2,y3,y4⟩ := b4.c5
      obtain ⟨xf0,xf1,xf2⟩ := b0.f3
      have of0 := b3.fr 0
      have yf0 := b4.fr 0
      have yf4 := b4.fr 4
      go_upto_region 31 with (fail)
      clear x0 x1 x2 o0 o1 o2 o3 o4 y0 y1 y2 y3 y4 xf0 xf1 xf2 of0 yf0 yf4
      obtain ⟨x0,x1,x2⟩ := b0.c3
      obtain ⟨r0,r1,r2⟩ := b1.c3
      obtain ⟨s0,s1,s2,s3,s4⟩ := b2.c5
      obtain ⟨o0,o1,o2,o3,o4⟩ := b3.c5
      obtain ⟨y0,y1,y2,y3,y4⟩ := b4.c5
      obtain ⟨xf0,xf1,xf2⟩ := b0.f3
      obtain ⟨rf0,rf1,rf2⟩ := b1.f3
      obtain ⟨sf0,sf1,sf2,sf3,sf4⟩ := b2.f5
      obtain ⟨of0,of1,of2,of3,of4⟩ := b3.f5
      obtain ⟨yf0,yf1,yf2,yf3,yf4⟩ := b4.f5
      have n12 := Xn12.out
      have n21 := Xn21.out
      have n10 := Xn10.out
      have n01 := Xn01.out
      have n20 := Xn20.out
      have n02 := Xn02.out
      have n13 := Xn13.out
      have n31 := Xn31.out
      have n23 := Xn23.out
      have n32 := Xn32.out
      go_region
      obtain ⟨V,hV,⟨e0,e1,e2⟩,⟨d0,d1,d2,d3,d4⟩,hsV⟩ := two_stores (W := W8) (g := g1) (g' := g2) Xn12.out r0 r1 r2 s0 s1 s2 s3 s4 (.slice RA5 NR.length rc5) (.int .i64 wo.clock) (.slice (some ⟨gC,0,none⟩) m cc) (.int .i64 0) (.bool false) (.string ⟨#[]⟩) (.int .i64 0) (.int .i64 0)
      rw [← hV]
      have hVb : ∀ q,q ≠ g1 → q ≠ g2 → V.drew.heap[q]? = W8.heap[q]? := fun q h1 h2 => by
       show V.heap[q]? = _
       rw [hV,Below.heap_setCell _ _ _ _ h2,Below.heap_setCell _ _ _ _ h2,Below.heap_setCell _ _ _ _ h2,Below.heap_setCell _ _ _ _ h2,Below.heap_setCell _ _ _ _ h2,Below.heap_setCell _ _ _ _ h1,Below.heap_setCell _ _ _ _ h1,Below.heap_setCell _ _ _ _ h1]
      have hVB : Below w.heap.size W8 V.drew := by
       obtain ⟨a0,a1,a2,_⟩ := HG.out
       have l1 : w.heap.size ≤ g1 := by omega
       have l2 : w.heap.size ≤ g2 := by omega
       refine Below.drew ?_
       rw [hV]
       exact ((((((((Below.refl _ _).setCell l1 _).setCell l1 _).setCell l1 _).setCell l2 _).setCell l2 _).setCell l2 _).setCell l2 _).setCell l2 _
      clear hV
      go_wp2
      exact bodyPost_ret (v := .tuple #[woV RA5 NR.length rc5 wo.clock (some ⟨gC,0,none⟩) m cc,.agg #[.int .i64 0,.bool false,.string ⟨#[]⟩,.int .i64 0,.int .i64 0]]) (by simp [results,Tryz.results22,go_sem,e0,e1,e2,d0,d1,d2,d3,d4]) rfl
       (by
         have hfin := ref_end2 (B := B) (N := N) (wr := W3) (W8 := W8) (W9 := V.drew) H.out (fun b h => by have := HXL.out b h; have := HG.out; omega) hB HB03.out hCm ⟨2,c.st,c.cm,c.ws,(q : Int) + 1⟩ (some ⟨wb,wof,none⟩) wk ⟨by show i64 2; unfold i64; omega,HOK.out.s,HOK.out.m,by show i64 ((q : Int) + 1); have := hwl; have := HQL.out; unfold i64; omega⟩ HWK.out HWS.out HW8.out hVB (by have := HG.out; omega) (fun q h1 _ => hVb q (by have := HG.out; omega) (by have := HG.out; omega)) HR3.out HC5.out (ck := wo.clock) H.out.ck
         rw [HE.out]
         exact ⟨_,rfl,RA5,rc5,rfl,hfin.1,hfin.2⟩)
    ·by_cases he7 : ue = 7
     ·have HX7 := Lib.hid (show Z = (wo.setC C ⟨2,c.st,c.cm,c.ws,(q : Int)⟩,ansCode 7) by rw [HE.out,HLW.out,HCB.out he HF.out,if_neg he,if_pos he7])
      rw [he7]
      have HE := Lib.hid HX7.out
      ·go_upto_region 28 with (fail)
       obtain ⟨W2,hW2⟩ : ∃ W2,W2 = (wc.setCell ⟨g3,0,none⟩ (.int .i64 7)) := ⟨_,rfl⟩
       rw [← hW2]
       have b0 := BoxIs.to hW2 (.o1 b0 Xn03.out)
       have b1 := BoxIs.to hW2 (.o1 b1 Xn13.out)
       have b2 := BoxIs.to hW2 (.o1 b2 Xn23.out)
       have b3 : BoxIs W2 g3 [.int .i64 7,.bool false,.string ⟨#[]⟩,.int .i64 0,.int .i64 0] := BoxIs.to hW2 (.set b3 0 _)
       have b4 := BoxIs.to hW2 (.o1 b4 Xn43.out)
       have HW2 := Lib.hid hW2
       clear hW2
       have HB02 := Lib.hid (show Below w.heap.size w W2 by rw [HW2.out]; exact HB04.out.setCell (by show w.heap.size ≤ g3; have := HG.out; omega) _)
       have HR2 := Lib.hid (show RowsAt W2 (fun b => (b < w.heap.size ∧ b ≠ gC ∧ ¬ X b) ∨ (N ≤ b ∧ b < W2.heap.size)) RA wo.rows from rows_turn H.out.rows (fun b hb => hb.1) HB02.out (fun b hb => .inl hb))
       clear x0 x1 x2 o0 o1 o2 o3 o4 y0 y1 y2 y3 y4 xf0 xf1 xf2 of0 yf0 yf4
       obtain ⟨x0,x1,x2⟩ := b0.c3
       obtain ⟨o0,o1,o2,o3,o4⟩ := b3.c5
       obtain ⟨y0,y1,y2,y3,y4⟩ := b4.c5
       obtain ⟨xf0,xf1,xf2⟩ := b0.f3
       have of0 := b3.fr 0
       have yf0 := b4.fr 0
       have yf4 := b4.fr 4
       have t0 := gcell H.out HB02.out hCm 0 (by omega)
       have t1 := gcell H.out HB02.out hCm 1 (by omega)
       have t2 := gcell H.out HB02.out hCm 2 (by omega)
       have t3 := gcell H.out HB02.out hCm 3 (by omega)
       have t4 := gcell H.out HB02.out hCm 4 (by omega)
       rw [Nat.add_zero] at t0
       obtain ⟨u0,t0,tf0⟩ := t0
       obtain ⟨u1,t1,tf1⟩ := t1
       obtain ⟨u2,t2,tf2⟩ := t2
       obtain ⟨u3,t3,tf3⟩ := t3
       obtain ⟨u4,t4,tf4⟩ := t4
       go_upto_region 29 with (fail)
       obtain ⟨W8,hW8⟩ : ∃ W8,W8 = (((((W2.setCell ⟨gC,C * 5,none⟩ (.int .i64 2)).setCell ⟨gC,C * 5 + 1,none⟩ (.int .i64 c.st)).setCell ⟨gC,C * 5 + 2,none⟩ (.int .i64 c.cm)).setCell ⟨gC,C * 5 + 3,none⟩ (.slice (some ⟨wb,wof,none⟩) c.ws.length wk)).setCell ⟨gC,C * 5 + 4,none⟩ (.int .i64 (q : Int))) := ⟨_,rfl⟩
       rw [← hW8]
       have b0 := BoxIs.to hW8 (.o5 b0 Xk0.out)
       have b1 := BoxIs.to hW8 (.o5 b1 Xk1.out)
       have b2 := BoxIs.to hW8 (.o5 b2 Xk2.out)
       have b3 := BoxIs.to hW8 (.o5 b3 Xk3.out)
       have b4 := BoxIs.to hW8 (.o5 b4 Xk4.out)
       have HW8 := Lib.hid hW8
       clear hW8
       clear t0 t1 t2 t3 t4 tf0 tf1 tf2 tf3 tf4
       clear x0 x1 x2 o0 o1 o2 o3 o4 y0 y1 y2 y3 y4 xf0 xf1 xf2 of0 yf0 yf4
       obtain ⟨x0,x1,x2⟩ := b0.c3
       obtain ⟨o0,o1,o2,o3,o4⟩ := b3.c5
       obtain ⟨y0,y1,y2,y3,y4⟩ := b4.c5
       obtain ⟨xf0,xf1,xf2⟩ := b0.f3
       have of0 := b3.fr 0
       have yf0 := b4.fr 0
       have yf4 := b4.fr 4
       go_upto_region 31 with (fail)
       clear x0 x1 x2 o0 o1 o2 o3 o4 y0 y1 y2 y3 y4 xf0 xf1 xf2 of0 yf0 yf4
       obtain ⟨x0,x1,x2⟩ := b0.c3
       obtain ⟨r0,r1,r2⟩ := b1.c3
       obtain ⟨s0,s1,s2,s3,s4⟩ := b2.c5
       obtain ⟨o0,o1,o2,o3,o4⟩ := b3.c5
       obtain ⟨y0,y1,y2,y3,y4⟩ := b4.c5
       obtain ⟨xf0,xf1,xf2⟩ := b0.f3
       obtain ⟨rf0,rf1,rf2⟩ := b1.f3
       obtain ⟨sf0,sf1,sf2,sf3,sf4⟩ := b2.f5
       obtain ⟨of0,of1,of2,of3,of4⟩ := b3.f5
       obtain ⟨yf0,yf1,yf2,yf3,yf4⟩ := b4.f5
       have n12 := Xn12.out
       have n21 := Xn21.out
       have n10 := Xn10.out
       have n01 := Xn01.out
       have n20 := Xn20.out
       have n02 := Xn02.out
       have n13 := Xn13.out
       have n31 := Xn31.out
       have n23 := Xn23.out
       have n32 := Xn32.out
       go_region
       obtain ⟨V,hV,⟨e0,e1,e2⟩,⟨d0,d1,d2,d3,d4⟩,hsV⟩ := two_stores (W := W8) (g := g1) (g' := g2) Xn12.out r0 r1 r2 s0 s1 s2 s3 s4 (.slice RA wo.rows.length rc) (.int .i64 wo.clock) (.slice (some ⟨gC,0,none⟩) m cc) (.int .i64 7) (.bool false) (.string ⟨#[]⟩) (.int .i64 0) (.int .i64 0)
       rw [← hV]
       have hVb : ∀ q,q ≠ g1 → q ≠ g2 → V.drew.heap[q]? = W8.heap[q]? := fun q h1 h2 => by
        show V.heap[q]? = _
        rw [hV,Below.heap_setCell _ _ _ _ h2,Below.heap_setCell _ _ _ _ h2,Below.heap_setCell _ _ _ _ h2,Below.heap_setCell _ _ _ _ h2,Below.heap_setCell _ _ _ _ h2,Below.heap_setCell _ _ _ _ h1,Below.heap_setCell _ _ _ _ h1,Below.heap_setCell _ _ _ _ h1]
       have hVB : Below w.heap.size W8 V.drew := by
        obtain ⟨a0,a1,a2,_⟩ := HG.out
        have l1 : w.heap.size ≤ g1 := by omega
        have l2 : w.heap.size ≤ g2 := by omega
        refine Below.drew ?_
        rw [hV]
        exact ((((((((Below.refl _ _).setCell l1 _).setCell l1 _).setCell l1 _).setCell l2 _).setCell l2 _).setCell l2 _).setCell l2 _).setCell l2 _
       clear hV
       go_wp2
       exact bodyPost_ret (v := .tuple #[woV RA wo.rows.length rc wo.clock (some ⟨gC,0,none⟩) m cc,.agg #[.int .i64 7,.bool false,.string ⟨#[]⟩,.int .i64 0,.int .i64 0]]) (by simp [results,Tryz.results22,go_sem,e0,e1,e2,d0,d1,d2,d3,d4]) rfl
        (by
          have hfin := ref_end2 (B := B) (N := N) (wr := W2) (W8 := W8) (W9 := V.drew) H.out (fun b h => by have := HXL.out b h; have := HG.out; omega) hB HB02.out hCm ⟨2,c.st,c.cm,c.ws,(q : Int)⟩ (some ⟨wb,wof,none⟩) wk ⟨by show i64 2; unfold i64; omega,HOK.out.s,HOK.out.m,by show i64 (q : Int); have := hwl; have := HQL.out; unfold i64; omega⟩ HWK.out HWS.out HW8.out hVB (by have := HG.out; omega) (fun q h1 _ => hVb q (by have := HG.out; omega) (by have := HG.out; omega)) HR2.out H.out.hrc (ck := wo.clock) H.out.ck
          rw [HE.out]
          exact ⟨_,rfl,RA,rc,rfl,hfin.1,hfin.2⟩)
     ·have e0 : (ue == 0) = false := beq_eq_false_iff_ne.2 he
      have e7 : (ue == 7) = false := beq_eq_false_iff_ne.2 he7
      have e0n : (ue != 0) = true := bne_iff_ne.2 he
      have e7n : (ue != 7) = true := bne_iff_ne.2 he7
      ·go_upto_region 28 with (fail)
       obtain ⟨W2,hW2⟩ : ∃ W2,W2 = (wc.setCell ⟨g3,0,none⟩ (.int .i64 ue)) := ⟨_,rfl⟩
       rw [← hW2]
       have b0 := BoxIs.to hW2 (.o1 b0 Xn03.out)
       have b1 := BoxIs.to hW2 (.o1 b1 Xn13.out)
       have b2 := BoxIs.to hW2 (.o1 b2 Xn23.out)
       have b3 : BoxIs W2 g3 [.int .i64 ue,.bool false,.string ⟨#[]⟩,.int .i64 0,.int .i64 0] := BoxIs.to hW2 (.set b3 0 _)
       have b4 := BoxIs.to hW2 (.o1 b4 Xn43.out)
       have HW2 := Lib.hid hW2
       clear hW2
       have HB02 := Lib.hid (show Below w.heap.size w W2 by rw [HW2.out]; exact HB04.out.setCell (by show w.heap.size ≤ g3; have := HG.out; omega) _)
       have HR2 := Lib.hid (show RowsAt W2 (fun b => (b < w.heap.size ∧ b ≠ gC ∧ ¬ X b) ∨ (N ≤ b ∧ b < W2.heap.size)) RA wo.rows from rows_turn H.out.rows (fun b hb => hb.1) HB02.out (fun b hb => .inl hb))
       clear x0 x1 x2 o0 o1 o2 o3 o4 y0 y1 y2 y3 y4 xf0 xf1 xf2 of0 yf0 yf4
       obtain ⟨x0,x1,x2⟩ := b0.c3
       obtain ⟨o0,o1,o2,o3,o4⟩ := b3.c5
       obtain ⟨y0,y1,y2,y3,y4⟩ := b4.c5
       obtain ⟨xf0,xf1,xf2⟩ := b0.f3
       have of0 := b3.fr 0
       have yf0 := b4.fr 0
       have yf4 := b4.fr 4
       have t0 := gcell H.out HB02.out hCm 0 (by omega)
       have t1 := gcell H.out HB02.out hCm 1 (by omega)
       have t2 := gcell H.out HB02.out hCm 2 (by omega)
       have t3 := gcell H.out HB02.out hCm 3 (by omega)
       have t4 := gcell H.out HB02.out hCm 4 (by omega)
       rw [Nat.add_zero] at t0
       obtain ⟨u0,t0,tf0⟩ := t0
       obtain ⟨u1,t1,tf1⟩ := t1
       obtain ⟨u2,t2,tf2⟩ := t2
       obtain ⟨u3,t3,tf3⟩ := t3
       obtain ⟨u4,t4,tf4⟩ := t4
       go_upto_region 29 with (fail)
       obtain ⟨W8,hW8⟩ : ∃ W8,W8 = (((((W2.setCell ⟨gC,C * 5,none⟩ (.int .i64 2)).setCell ⟨gC,C * 5 + 1,none⟩ (.int .i64 c.st)).setCell ⟨gC,C * 5 + 2,none⟩ (.int .i64 c.cm)).setCell ⟨gC,C * 5 + 3,none⟩ (.slice (some ⟨wb,wof,none⟩) c.ws.length wk)).setCell ⟨gC,C * 5 + 4,none⟩ (.int .i64 (q : Int))) := ⟨_,rfl⟩
       rw [← hW8]
       have b0 := BoxIs.to hW8 (.o5 b0 Xk0.out)
       have b1 := BoxIs.to hW8 (.o5 b1 Xk1.out)
       have b2 := BoxIs.to hW8 (.o5 b2 Xk2.out)
       have b3 := BoxIs.to hW8 (.o5 b3 Xk3.out)
       have b4 := BoxIs.to hW8 (.o5 b4 Xk4.out)
       have HW8 := Lib.hid hW8
       clear hW8
       clear t0 t1 t2 t3 t4 tf0 tf1 tf2 tf3 tf4
       clear x0 x1 x2 o0 o1 o2 o3 o4 y0 y1 y2 y3 y4 xf0 xf1 xf2 of0 yf0 yf4
       obtain ⟨x0,x1,x2⟩ := b0.c3
       obtain ⟨o0,o1,o2,o3,o4⟩ := b3.c5
       obtain ⟨y0,y1,y2,y3,y4⟩ := b4.c5
       obtain ⟨xf0,xf1,xf2⟩ := b0.f3
       have of0 := b3.fr 0
       have yf0 := b4.fr 0
       have yf4 := b4.fr 4
       have hX' : ∀ b,(X b ∨ (w.heap.size ≤ b ∧ b < N)) → b < N := fun b hb => by
        have := HG.out
        rcases hb with hb | hb
        ·have := HXL.out b hb; omega
        ·exact hb.2
       have h8 := ref_end2 (X := fun b => X b ∨ (w.heap.size ≤ b ∧ b < N)) (B := B) (N := N) (wr := W2) (W8 := W8) (W9 := W8) (H.out.apart (fun b hb hx e => by rcases e with e | e; exact hx e; omega)) hX' hB HB02.out hCm ⟨2,c.st,c.cm,c.ws,(q : Int)⟩ (some ⟨wb,wof,none⟩) wk ⟨by show i64 2; unfold i64; omega,HOK.out.s,HOK.out.m,by show i64 (q : Int); have := hwl; have := HQL.out; unfold i64; omega⟩ HWK.out (HWS.out.mono (fun b hb => ⟨hb.1,hb.2.1,fun e => by rcases e with e | e; exact hb.2.2 e; omega⟩) (fun _ _ _ _ _ hx => hx)) HW8.out (Below.refl _ _) (by have := HG.out; omega) (fun _ _ _ => rfl) (HR2.out.rows (fun b hb => by
        rcases hb with hb | hb
        ·exact .inl ⟨hb.1,hb.2.1,fun e => by rcases e with e | e; exact hb.2.2 e; omega⟩
        ·exact .inr hb) (fun _ _ _ => rfl)) H.out.hrc (ck := wo.clock) H.out.ck
       have H8 := Lib.hid h8
       have hs8 : W8.heap.size = wc.heap.size := by rw [HW8.out,HW2.out]; simp
       have HS8 := Lib.hid (show N ≤ W8.heap.size by have := HS1.out; have := HB14.out.size; omega)
       have HFA := Lib.hid (failed_any (X := fun b => X b ∨ (w.heap.size ≤ b ∧ b < N)) (B := B) H8.out.1 (fun b hb => Nat.lt_of_lt_of_le (hX' b hb) HS8.out) hB (C := C) (c := ⟨2,c.st,c.cm,c.ws,(q : Int)⟩) (List.getElem?_set_self (by have := H.out.hm; omega)) HR.out (inB_true.1 HST.out).1 HWV.out)
       have HFW := Lib.hid (show failW ⟨wo.rows,wo.clock,wo.cls.set C ⟨2,c.st,c.cm,c.ws,(q : Int)⟩⟩ C ⟨2,c.st,c.cm,c.ws,(q : Int)⟩ = failW wo C ⟨2,c.st,c.cm,c.ws,(q : Int)⟩ by unfold failW; rw [List.set_set])
       rw [HFW.out] at HFA
       have HE2 := Lib.hid (show Z = (failW wo C ⟨2,c.st,c.cm,c.ws,(q : Int)⟩,ansCode ue) by rw [HE.out,HLW.out]; rw [HCB.out he HF.out,if_neg he,if_neg he7])
       clear hs8 h8 hX' HE
       go_wp2_with fail
       refine HFA.out.mono ?_
       rintro e w5 ⟨v5,rfl,RA5,rc5,rfl,hw5,hk5⟩
       have HE := Lib.hid HE2.out
       have hlt8 := HS8.out
       have b0 : BoxIs w5 g0 [.slice RA wo.rows.length rc,.int .i64 wo.clock,.slice (some ⟨gC,0,none⟩) m cc] := BoxIs.blk b0 (hk5.z g0 b0.lt Xk0.out)
       have b1 : BoxIs w5 g1 [.slice none 0 0,.int .i64 0,.slice none 0 0] := BoxIs.blk b1 (hk5.z g1 b1.lt Xk1.out)
       have b2 : BoxIs w5 g2 [.int .i64 0,.bool false,.string ⟨#[]⟩,.int .i64 0,.int .i64 0] := BoxIs.blk b2 (hk5.z g2 b2.lt Xk2.out)
       have b3 : BoxIs w5 g3 [.int .i64 ue,.bool false,.string ⟨#[]⟩,.int .i64 0,.int .i64 0] := BoxIs.blk b3 (hk5.z g3 b3.lt Xk3.out)
       have b4 : BoxIs w5 g4 [.int .i64 2,.int .i64 c.st,.int .i64 c.cm,.slice (some ⟨wb,wof,none⟩) c.ws.length wk,.int .i64 (q : Int)] := BoxIs.blk b4 (hk5.z g4 b4.lt Xk4.out)
       obtain ⟨F,hF⟩ : ∃ F,F = failW wo C ⟨2,c.st,c.cm,c.ws,(q : Int)⟩ := ⟨_,rfl⟩
       have HFC := Lib.hid (show F.clock = wo.clock by rw [hF]; rfl)
       rw [← hF] at HE hw5 ⊢
       have HW5 := Lib.hid hw5
       have HK5 := Lib.hid hk5
       clear HE2 hF hw5 hk5 hlt8
       clear x0 x1 x2 o0 o1 o2 o3 o4 y0 y1 y2 y3 y4 xf0 xf1 xf2 of0 yf0 yf4
       obtain ⟨x0,x1,x2⟩ := b0.c3
       obtain ⟨o0,o1,o2,o3,o4⟩ := b3.c5
       obtain ⟨y0,y1,y2,y3,y4⟩ := b4.c5
       obtain ⟨xf0,xf1,xf2⟩ := b0.f3
       have of0 := b3.fr 0
       have yf0 := b4.fr 0
       have yf4 := b4.fr 4
       go_upto_region 31 with (fail)
       obtain ⟨W9,hW9⟩ : ∃ W9,W9 = (((w5.setCell ⟨g0,0,none⟩ (.slice RA5 F.rows.length rc5)).setCell ⟨g0,1,none⟩ (.int .i64 F.clock)).setCell ⟨g0,2,none⟩ (.slice (some ⟨gC,0,none⟩) m cc)) := ⟨_,rfl⟩
       rw [← hW9]
       have b0 : BoxIs W9 g0 [.slice RA5 F.rows.length rc5,.int .i64 F.clock,.slice (some ⟨gC,0,none⟩) m cc] := BoxIs.to hW9 (.set (.set (.set b0 0 _) 1 _) 2 _)
       have b1 := BoxIs.to hW9 (.o3 b1 Xn10.out)
       have b2 := BoxIs.to hW9 (.o3 b2 Xn20.out)
       have b3 := BoxIs.to hW9 (.o3 b3 Xn30.out)
       have b4 := BoxIs.to hW9 (.o3 b4 Xn40.out)
       have HW9 := Lib.hid hW9
       clear hW9
       clear x0 x1 x2 o0 o1 o2 o3 o4 y0 y1 y2 y3 y4 xf0 xf1 xf2 of0 yf0 yf4
       obtain ⟨x0,x1,x2⟩ := b0.c3
       obtain ⟨r0,r1,r2⟩ := b1.c3
       obtain ⟨s0,s1,s2,s3,s4⟩ := b2.c5
       obtain ⟨o0,o1,o2,o3,o4⟩ := b3.c5
       obtain ⟨y0,y1,y2,y3,y4⟩ := b4.c5
       obtain ⟨xf0,xf1,xf2⟩ := b0.f3
       obtain ⟨rf0,rf1,rf2⟩ := b1.f3
       obtain ⟨sf0,sf1,sf2,sf3,sf4⟩ := b2.f5
       obtain ⟨of0,of1,of2,of3,of4⟩ := b3.f5
       obtain ⟨yf0,yf1,yf2,yf3,yf4⟩ := b4.f5
       have n12 := Xn12.out
       have n21 := Xn21.out
       have n10 := Xn10.out
       have n01 := Xn01.out
       have n20 := Xn20.out
       have n02 := Xn02.out
       have n13 := Xn13.out
       have n31 := Xn31.out
       have n23 := Xn23.out
       have n32 := Xn32.out
       go_region
       obtain ⟨V,hV,⟨e0,e1,e2⟩,⟨d0,d1,d2,d3,d4⟩,hsV⟩ := two_stores (W := W9) (g := g1) (g' := g2) Xn12.out r0 r1 r2 s0 s1 s2 s3 s4 (.slice RA5 F.rows.length rc5) (.int .i64 F.clock) (.slice (some ⟨gC,0,none⟩) m cc) (.int .i64 ue) (.bool false) (.string ⟨#[]⟩) (.int .i64 0) (.int .i64 0)
       rw [← hV]
       have hVb : ∀ q,q ≠ g1 → q ≠ g2 → V.drew.heap[q]? = W9.heap[q]? := fun q h1 h2 => by
        show V.heap[q]? = _
        rw [hV,Below.heap_setCell _ _ _ _ h2,Below.heap_setCell _ _ _ _ h2,Below.heap_setCell _ _ _ _ h2,Below.heap_setCell _ _ _ _ h2,Below.heap_setCell _ _ _ _ h2,Below.heap_setCell _ _ _ _ h1,Below.heap_setCell _ _ _ _ h1,Below.heap_setCell _ _ _ _ h1]
       have hVB : Below w.heap.size W9 V.drew := by
        obtain ⟨a0,a1,a2,_⟩ := HG.out
        have l1 : w.heap.size ≤ g1 := by omega
        have l2 : w.heap.size ≤ g2 := by omega
        refine Below.drew ?_
        rw [hV]
        exact ((((((((Below.refl _ _).setCell l1 _).setCell l1 _).setCell l1 _).setCell l2 _).setCell l2 _).setCell l2 _).setCell l2 _).setCell l2 _
       clear hV
       go_wp2
       exact bodyPost_ret (v := .tuple #[woV RA5 F.rows.length rc5 F.clock (some ⟨gC,0,none⟩) m cc,.agg #[.int .i64 ue,.bool false,.string ⟨#[]⟩,.int .i64 0,.int .i64 0]]) (by simp [results,Tryz.results22,go_sem,e0,e1,e2,d0,d1,d2,d3,d4]) rfl
        (by
          have hg := HG.out
          have l0 : w.heap.size ≤ g0 := by omega
          have s9 : V.drew.heap.size = w5.heap.size := by
           have e1 : V.drew.heap.size = W9.heap.size := hsV.sz
           have e2 : W9.heap.size = w5.heap.size := by rw [HW9.out]; simp
           omega
          have o9 : ∀ b,b ≠ g0 → b ≠ g1 → b ≠ g2 → V.drew.heap[b]? = w5.heap[b]? := fun b h0 h1 h2 => (hVb b h1 h2).trans (by rw [HW9.out,Below.heap_setCell _ _ _ _ h0,Below.heap_setCell _ _ _ _ h0,Below.heap_setCell _ _ _ _ h0])
          have hRV := (HW5.out.turned (w' := V.drew) s9 (o9 gC Xm0.out Xm1.out Xm2.out) (fun b hb => o9 b (fun e => hb (.inr (by omega))) (fun e => hb (.inr (by omega))) (fun e => hb (.inr (by omega))))).apart (X' := X) (fun b _ hx e => hx (.inl e))
          have h59 : Below w.heap.size w5 W9 := by rw [HW9.out]; exact (((Below.refl _ _).setCell l0 _).setCell l0 _).setCell l0 _
          rw [HE.out]
          exact ⟨_,rfl,RA5,rc5,rfl,hRV,⟨((H8.out.2.bel.trans HK5.out.bel).trans (h59.mono (by omega))).trans (hVB.mono (by omega)),fun b hb hne => (o9 b (by omega) (by omega) (by omega)).trans ((HK5.out.z b (by have := H8.out.2.bel.size; omega) hne).trans (H8.out.2.z b hb hne))⟩⟩)
   | true =>
    have hh : hasK (rowKeys wo.rows) y.k = false ∧ 40 ≤ wo.rows.length := by
     rw [hvo] at hov
     have := hov.symm
     simp only [Bool.and_eq_true,Bool.not_eq_true',decide_eq_true_eq] at this
     exact ⟨this.1,by omega⟩
    have HCX := Lib.hid (HCO.out hh.1 hh.2)
    clear hh hov hvo
    go_upto_region 28 with (fail)
    obtain ⟨W2,hW2⟩ : ∃ W2,W2 = (wc.setCell ⟨g3,0,none⟩ (.int .i64 1)) := ⟨_,rfl⟩
    rw [← hW2]
    have b0 := BoxIs.to hW2 (.o1 b0 Xn03.out)
    have b1 := BoxIs.to hW2 (.o1 b1 Xn13.out)
    have b2 := BoxIs.to hW2 (.o1 b2 Xn23.out)
    have b3 : BoxIs W2 g3 [.int .i64 1,.bool false,.string ⟨#[]⟩,.int .i64 0,.int .i64 0] := BoxIs.to hW2 (.set b3 0 _)
    have b4 := BoxIs.to hW2 (.o1 b4 Xn43.out)
    have HW2 := Lib.hid hW2
    clear hW2
    have HB02 := Lib.hid (show Below w.heap.size w W2 by rw [HW2.out]; exact HB04.out.setCell (by show w.heap.size ≤ g3; have := HG.out; omega) _)
    have HR2 := Lib.hid (show RowsAt W2 (fun b => (b < w.heap.size ∧ b ≠ gC ∧ ¬ X b) ∨ (N ≤ b ∧ b < W2.heap.size)) RA wo.rows from rows_turn H.out.rows (fun b hb => hb.1) HB02.out (fun b hb => .inl hb))
    clear x0 x1 x2 o0 o1 o2 o3 o4 y0 y1 y2 y3 y4 xf0 xf1 xf2 of0 yf0 yf4
    obtain ⟨x0,x1,x2⟩ := b0.c3
    obtain ⟨o0,o1,o2,o3,o4⟩ := b3.c5
    obtain ⟨y0,y1,y2,y3,y4⟩ := b4.c5
    obtain ⟨xf0,xf1,xf2⟩ := b0.f3
    have of0 := b3.fr 0
    have yf0 := b4.fr 0
    have yf4 := b4.fr 4
    have t0 := gcell H.out HB02.out hCm 0 (by omega)
    have t1 := gcell H.out HB02.out hCm 1 (by omega)
    have t2 := gcell H.out HB02.out hCm 2 (by omega)
    have t3 := gcell H.out HB02.out hCm 3 (by omega)
    have t4 := gcell H.out HB02.out hCm 4 (by omega)
    rw [Nat.add_zero] at t0
    obtain ⟨u0,t0,tf0⟩ := t0
    obtain ⟨u1,t1,tf1⟩ := t1
    obtain ⟨u2,t2,tf2⟩ := t2
    obtain ⟨u3,t3,tf3⟩ := t3
    obtain ⟨u4,t4,tf4⟩ := t4
    go_upto_region 29 with (fail)
    obtain ⟨W8,hW8⟩ : ∃ W8,W8 = (((((W2.setCell ⟨gC,C * 5,none⟩ (.int .i64 2)).setCell ⟨gC,C * 5 + 1,none⟩ (.int .i64 c.st)).setCell ⟨gC,C * 5 + 2,none⟩ (.int .i64 c.cm)).setCell ⟨gC,C * 5 + 3,none⟩ (.slice (some ⟨wb,wof,none⟩) c.ws.length wk)).setCell ⟨gC,C * 5 + 4,none⟩ (.int .i64 (q : Int))) := ⟨_,rfl⟩
    rw [← hW8]
    have b0 := BoxIs.to hW8 (.o5 b0 Xk0.out)
    have b1 := BoxIs.to hW8 (.o5 b1 Xk1.out)
    have b2 := BoxIs.to hW8 (.o5 b2 Xk2.out)
    have b3 := BoxIs.to hW8 (.o5 b3 Xk3.out)
    have b4 := BoxIs.to hW8 (.o5 b4 Xk4.out)
    have HW8 := Lib.hid hW8
    clear hW8
    clear t0 t1 t2 t3 t4 tf0 tf1 tf2 tf3 tf4
    clear x0 x1 x2 o0 o1 o2 o3 o4 y0 y1 y2 y3 y4 xf0 xf1 xf2 of0 yf0 yf4
    obtain ⟨x0,x1,x2⟩ := b0.c3
    obtain ⟨o0,o1,o2,o3,o4⟩ := b3.c5
    obtain ⟨y0,y1,y2,y3,y4⟩ := b4.c5
    obtain ⟨xf0,xf1,xf2⟩ := b0.f3
    have of0 := b3.fr 0
    have yf0 := b4.fr 0
    have yf4 := b4.fr 4
    have hX' : ∀ b,(X b ∨ (w.heap.size ≤ b ∧ b < N)) → b < N := fun b hb => by
     have := HG.out
     rcases hb with hb | hb
     ·have := HXL.out b hb; omega
     ·exact hb.2
    have h8 := ref_end2 (X := fun b => X b ∨ (w.heap.size ≤ b ∧ b < N)) (B := B) (N := N) (wr := W2) (W8 := W8) (W9 := W8) (H.out.apart (fun b hb hx e => by rcases e with e | e; exact hx e; omega)) hX' hB HB02.out hCm ⟨2,c.st,c.cm,c.ws,(q : Int)⟩ (some ⟨wb,wof,none⟩) wk ⟨by show i64 2; unfold i64; omega,HOK.out.s,HOK.out.m,by show i64 (q : Int); have := hwl; have := HQL.out; unfold i64; omega⟩ HWK.out (HWS.out.mono (fun b hb => ⟨hb.1,hb.2.1,fun e => by rcases e with e | e; exact hb.2.2 e; omega⟩) (fun _ _ _ _ _ hx => hx)) HW8.out (Below.refl _ _) (by have := HG.out; omega) (fun _ _ _ => rfl) (HR2.out.rows (fun b hb => by
     rcases hb with hb | hb
     ·exact .inl ⟨hb.1,hb.2.1,fun e => by rcases e with e | e; exact hb.2.2 e; omega⟩
     ·exact .inr hb) (fun _ _ _ => rfl)) H.out.hrc (ck := wo.clock) H.out.ck
    have H8 := Lib.hid h8
    have hs8 : W8.heap.size = wc.heap.size := by rw [HW8.out,HW2.out]; simp
    have HS8 := Lib.hid (show N ≤ W8.heap.size by have := HS1.out; have := HB14.out.size; omega)
    have HFA := Lib.hid (failed_any (X := fun b => X b ∨ (w.heap.size ≤ b ∧ b < N)) (B := B) H8.out.1 (fun b hb => Nat.lt_of_lt_of_le (hX' b hb) HS8.out) hB (C := C) (c := ⟨2,c.st,c.cm,c.ws,(q : Int)⟩) (List.getElem?_set_self (by have := H.out.hm; omega)) HR.out (inB_true.1 HST.out).1 HWV.out)
    have HFW := Lib.hid (show failW ⟨wo.rows,wo.clock,wo.cls.set C ⟨2,c.st,c.cm,c.ws,(q : Int)⟩⟩ C ⟨2,c.st,c.cm,c.ws,(q : Int)⟩ = failW wo C ⟨2,c.st,c.cm,c.ws,(q : Int)⟩ by unfold failW; rw [List.set_set])
    rw [HFW.out] at HFA
    have HE2 := Lib.hid (show Z = (failW wo C ⟨2,c.st,c.cm,c.ws,(q : Int)⟩,ansCode 1) by rw [HE.out,HLW.out]; rw [HCX.out,if_neg (show ¬ ((1 : Int) = 0) by decide),if_neg (show ¬ ((1 : Int) = 7) by decide)])
    clear hs8 h8 hX' HE
    go_wp2_with fail
    refine HFA.out.mono ?_
    rintro e w5 ⟨v5,rfl,RA5,rc5,rfl,hw5,hk5⟩
    have HE := Lib.hid HE2.out
    have hlt8 := HS8.out
    have b0 : BoxIs w5 g0 [.slice RA wo.rows.length rc,.int .i64 wo.clock,.slice (some ⟨gC,0,none⟩) m cc] := BoxIs.blk b0 (hk5.z g0 b0.lt Xk0.out)
    have b1 : BoxIs w5 g1 [.slice none 0 0,.int .i64 0,.slice none 0 0] := BoxIs.blk b1 (hk5.z g1 b1.lt Xk1.out)
    have b2 : BoxIs w5 g2 [.int .i64 0,.bool false,.string ⟨#[]⟩,.int .i64 0,.int .i64 0] := BoxIs.blk b2 (hk5.z g2 b2.lt Xk2.out)
    have b3 : BoxIs w5 g3 [.int .i64 1,.bool false,.string ⟨#[]⟩,.int .i64 0,.int .i64 0] := BoxIs.blk b3 (hk5.z g3 b3.lt Xk3.out)
    have b4 : BoxIs w5 g4 [.int .i64 2,.int .i64 c.st,.int .i64 c.cm,.slice (some ⟨wb,wof,none⟩) c.ws.length wk,.int .i64 (q : Int)] := BoxIs.blk b4 (hk5.z g4 b4.lt Xk4.out)
    obtain ⟨F,hF⟩ : ∃ F,F = failW wo C ⟨2,c.st,c.cm,c.ws,(q : Int)⟩ := ⟨_,rfl⟩
    have HFC := Lib.hid (show F.clock = wo.clock by rw [hF]; rfl)
    rw [← hF] at HE hw5 ⊢
    have HW5 := Lib.hid hw5
    have HK5 := Lib.hid hk5
    clear HE2 hF hw5 hk5 hlt8
    clear x0 x1 x2 o0 o1 o2 o3 o4 y0 y1 y2 y3 y4 xf0 xf1 xf2 of0 yf0 yf4
    obtain ⟨x0,x1,x2⟩ := b0.c3
    obtain ⟨o0,o1,o2,o3,o4⟩ := b3.c5
    obtain ⟨y0,y1,y2,y3,y4⟩ := b4.c5
    obtain ⟨xf0,xf1,xf2⟩ := b0.f3
    have of0 := b3.fr 0
    have yf0 := b4.fr 0
    have yf4 := b4.fr 4
    go_upto_region 31 with (fail)
    obtain ⟨W9,hW9⟩ : ∃ W9,W9 = (((w5.setCell ⟨g0,0,none⟩ (.slice RA5 F.rows.length rc5)).setCell ⟨g0,1,none⟩ (.int .i64 F.clock)).setCell ⟨g0,2,none⟩ (.slice (some ⟨gC,0,none⟩) m cc)) := ⟨_,rfl⟩
    rw [← hW9]
    have b0 : BoxIs W9 g0 [.slice RA5 F.rows.length rc5,.int .i64 F.clock,.slice (some ⟨gC,0,none⟩) m cc] := BoxIs.to hW9 (.set (.set (.set b0 0 _) 1 _) 2 _)
    have b1 := BoxIs.to hW9 (.o3 b1 Xn10.out)
    have b2 := BoxIs.to hW9 (.o3 b2 Xn20.out)
    have b3 := BoxIs.to hW9 (.o3 b3 Xn30.out)
    have b4 := BoxIs.to hW9 (.o3 b4 Xn40.out)
    have HW9 := Lib.hid hW9
    clear hW9
    clear x0 x1 x2 o0 o1 o2 o3 o4 y0 y1 y2 y3 y4 xf0 xf1 xf2 of0 yf0 yf4
    obtain ⟨x0,x1,x2⟩ := b0.c3
    obtain ⟨r0,r1,r2⟩ := b1.c3
    obtain ⟨s0,s1,s2,s3,s4⟩ := b2.c5
    obtain ⟨o0,o1,o2,o3,o4⟩ := b3.c5
    obtain ⟨y0,y1,y2,y3,y4⟩ := b4.c5
    obtain ⟨xf0,xf1,xf2⟩ := b0.f3
    obtain ⟨rf0,rf1,rf2⟩ := b1.f3
    obtain ⟨sf0,sf1,sf2,sf3,sf4⟩ := b2.f5
    obtain ⟨of0,of1,of2,of3,of4⟩ := b3.f5
    obtain ⟨yf0,yf1,yf2,yf3,yf4⟩ := b4.f5
    have n12 := Xn12.out
    have n21 := Xn21.out
    have n10 := Xn10.out
    have n01 := Xn01.out
    have n20 := Xn20.out
    have n02 := Xn02.out
    have n13 := Xn13.out
    have n31 := Xn31.out
    have n23 := Xn23.out
    have n32 := Xn32.out
    go_region
    obtain ⟨V,hV,⟨e0,e1,e2⟩,⟨d0,d1,d2,d3,d4⟩,hsV⟩ := two_stores (W := W9) (g := g1) (g' := g2) Xn12.out r0 r1 r2 s0 s1 s2 s3 s4 (.slice RA5 F.rows.length rc5) (.int .i64 F.clock) (.slice (some ⟨gC,0,none⟩) m cc) (.int .i64 1) (.bool false) (.string ⟨#[]⟩) (.int .i64 0) (.int .i64 0)
    rw [← hV]
    have hVb : ∀ q,q ≠ g1 → q ≠ g2 → V.drew.heap[q]? = W9.heap[q]? := fun q h1 h2 => by
     show V.heap[q]? = _
     rw [hV,Below.heap_setCell _ _ _ _ h2,Below.heap_setCell _ _ _ _ h2,Below.heap_setCell _ _ _ _ h2,Below.heap_setCell _ _ _ _ h2,Below.heap_setCell _ _ _ _ h2,Below.heap_setCell _ _ _ _ h1,Below.heap_setCell _ _ _ _ h1,Below.heap_setCell _ _ _ _ h1]
    have hVB : Below w.heap.size W9 V.drew := by
     obtain ⟨a0,a1,a2,_⟩ := HG.out
     have l1 : w.heap.size ≤ g1 := by omega
     have l2 : w.heap.size ≤ g2 := by omega
     refine Below.drew ?_
     rw [hV]
     exact ((((((((Below.refl _ _).setCell l1 _).setCell l1 _).setCell l1 _).setCell l2 _).setCell l2 _).setCell l2 _).setCell l2 _).setCell l2 _
    clear hV
    go_wp2
    exact bodyPost_ret (v := .tuple #[woV RA5 F.rows.length rc5 F.clock (some ⟨gC,0,none⟩) m cc,.agg #[.int .i64 1,.bool false,.string ⟨#[]⟩,.int .i64 0,.int .i64 0]]) (by simp [results,Tryz.results22,go_sem,e0,e1,e2,d0,d1,d2,d3,d4]) rfl
     (by
       have hg := HG.out
       have l0 : w.heap.size ≤ g0 := by omega
       have s9 : V.drew.heap.size = w5.heap.size := by
        have e1 : V.drew.heap.size = W9.heap.size := hsV.sz
        have e2 : W9.heap.size = w5.heap.size := by rw [HW9.out]; simp
        omega
       have o9 : ∀ b,b ≠ g0 → b ≠ g1 → b ≠ g2 → V.drew.heap[b]? = w5.heap[b]? := fun b h0 h1 h2 => (hVb b h1 h2).trans (by rw [HW9.out,Below.heap_setCell _ _ _ _ h0,Below.heap_setCell _ _ _ _ h0,Below.heap_setCell _ _ _ _ h0])
       have hRV := (HW5.out.turned (w' := V.drew) s9 (o9 gC Xm0.out Xm1.out Xm2.out) (fun b hb => o9 b (fun e => hb (.inr (by omega))) (fun e => hb (.inr (by omega))) (fun e => hb (.inr (by omega))))).apart (X' := X) (fun b _ hx e => hx (.inl e))
       have h59 : Below w.heap.size w5 W9 := by rw [HW9.out]; exact (((Below.refl _ _).setCell l0 _).setCell l0 _).setCell l0 _
       rw [HE.out]
       exact ⟨_,rfl,RA5,rc5,rfl,hRV,⟨((H8.out.2.bel.trans HK5.out.bel).trans (h59.mono (by omega))).trans (hVB.mono (by omega)),fun b hb hne => (o9 b (by omega) (by omega) (by omega)).trans ((HK5.out.z b (by have := H8.out.2.bel.size; omega) hne).trans (H8.out.2.z b hb hne))⟩⟩)
end
end Go.Proofs.YtambkjnhfejfaaaGreat
