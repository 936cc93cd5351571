/-
  Contracts of functions of the program and words for memory, several texts in one: RStepC. Conditions: those stated with each.
-/
import Derived.Test.YtambkjnhfejfaaaGreatG32
namespace Go.Proofs.YtambkjnhfejfaaaGreat
open Go.RowKit
set_option linter.unusedVariables false
theorem chg_none1 {rows : List RowM} {key : ByteArray} {op : RowM → RowM × Int} (e : (op (look rows key)).2 ≠ 0) : (chgRow rows key op).1 = rows := by
 by_cases h : hasK (rowKeys rows) key = true ∨ rows.length < 40
 ·rw [chg_bad e h]
 ·rw [chg_over (by cases e : hasK (rowKeys rows) key with | false => rfl | true => exact absurd (.inl e) h) (by rcases Nat.lt_or_ge rows.length 40 with h' | h'; exact absurd (.inr h') h; exact h')]
theorem chg_nz {rows : List RowM} {key : ByteArray} {op : RowM → RowM × Int} (e : (op (look rows key)).2 ≠ 0) : (chgRow rows key op).2 ≠ 0 := by
 by_cases h : hasK (rowKeys rows) key = true ∨ rows.length < 40
 ·rw [chg_bad e h]; exact e
 ·rw [chg_over (by cases e : hasK (rowKeys rows) key with | false => rfl | true => exact absurd (.inl e) h) (by rcases Nat.lt_or_ge rows.length 40 with h' | h'; exact absurd (.inr h') h; exact h')]; show (1 : Int) ≠ 0; decide
section
variable {w : World} {X : Nat → Prop} {gC B : Nat} {RA : Option Addr} {n rc m cc C : Nat} {wo : WoM} {c : ClM}
set_option maxRecDepth 100000 in
set_option maxHeartbeats 16000000 in
theorem stepped_close (h : RefW w X gC RA n rc m cc wo) (hX : ∀ b,X b → b < w.heap.size) (hB : B ≤ gC) (hc : wo.cls[C]? = some c) (hph : c.ph = 3 ∨ c.ph = 4) (hr : RowsOk wo.rows) (hst : inB c.st 1 1099511627776 = true) (hwv : wrsB c.ws = true) {q : Nat} (hq : q < c.ws.length) (haq : c.at_ = q) (h34 : c.ph = 3 ↔ q = 0) :
 Calls Tryz.prog 22 #[woV RA n rc wo.clock (some ⟨gC,0,none⟩) m cc,.int .i64 C] w (StepOut X gC m cc B (stepW wo C c) w) := by
 have HPH := Lib.hid hph
 have HR := Lib.hid hr
 have HST := Lib.hid hst
 have HWV := Lib.hid hwv
 have HAQ := Lib.hid haq
 have H34 := Lib.hid h34
 have HE := Lib.hid (show stepW wo C c = ((commitW wo C c).1,ansCode (commitW wo C c).2) by rw [stepW,if_neg (by omega),if_neg (by omega),if_pos hph])
 have hp0 : (c.ph == 0) = false := beq_eq_false_iff_ne.2 (by omega)
 have hp2 : ¬ c.ph ≤ 2 := by omega
 have hp2' : decide (c.ph ≤ 2) = false := decide_eq_false hp2
 have hl' : ((c.ws.length : Int) == 0) = false := beq_eq_false_iff_ne.2 (by omega)
 have hq0 : 0 < c.ws.length := by omega
 have HQL := Lib.hid hq
 clear hph hr hst hwv haq h34
 obtain ⟨Z,hZ⟩ : ∃ Z,Z = stepW wo C c := ⟨_,rfl⟩
 rw [← hZ] at HE ⊢
 clear hZ
 have hn := h.hn
 subst hn
 have hCm : C < m := by rw [h.hm]; exact (List.getElem?_eq_some_iff.1 hc).1
 have hcl := h.cls C c hc
 obtain ⟨WA,wk,q3,hwk,hws⟩ := hcl.cw
 have q0 := hcl.cp
 have q1 := hcl.cs
 have q2 := hcl.cm
 have q4 := hcl.ca
 have hcok := hcl.ok
 have hgl : gC < w.heap.size := h.lt
 have hgl1 : gC < w.heap.size + 1 := by omega
 have hgl2 : gC < w.heap.size + 1 + 1 := by omega
 have hgl3 : gC < w.heap.size + 1 + 1 + 1 := by omega
 have hgl4 : gC < w.heap.size + 1 + 1 + 1 + 1 := by omega
 have hcc := h.hcc
 have hwl : c.ws.length ≤ 4398046511104 := hws.1
 obtain ⟨W0,hW0,hb0,hs0,b0,b1,b2,b3,b4⟩ := five_boxes w #[.slice RA wo.rows.length rc,.int .i64 wo.clock,.slice (some ⟨gC,0,none⟩) m cc] #[.slice none 0 0,.int .i64 0,.slice none 0 0] #[.int .i64 0,.bool false,.string ⟨#[]⟩,.int .i64 0,.int .i64 0] #[.int .i64 0,.bool false,.string ⟨#[]⟩,.int .i64 0,.int .i64 0] #[.int .i64 c.ph,.int .i64 c.st,.int .i64 c.cm,.slice WA c.ws.length wk,.int .i64 c.at_] 25 25 31 31 49
 have H := Lib.hid h
 have HXL := Lib.hid hX
 have HW0 := Lib.hid hW0
 have HB0 := Lib.hid hb0
 have HCL := Lib.hid hc
 have HWS := Lib.hid hws
 have HOK := Lib.hid hcok
 have HWK := Lib.hid hwk
 have j0 : (0 : Int) ≤ (C : Int) := by omega
 have j1 : (C : Int) < (m : Int) := by omega
 clear h hX hb0 hW0 hcl hc hws hcok hwk
 go_enter Tryz.func22,Tryz.ntmps22
 go_upto_region 4 with (fail)
 rw [← HW0.out]
 obtain ⟨g4,hg4⟩ : ∃ g4,g4 = w.heap.size + 1 + 1 + 1 + 1 := ⟨_,rfl⟩
 rw [← hg4] at b4 ⊢
 obtain ⟨g3,hg3⟩ : ∃ g3,g3 = w.heap.size + 1 + 1 + 1 := ⟨_,rfl⟩
 rw [← hg3] at b3 ⊢
 obtain ⟨g2,hg2⟩ : ∃ g2,g2 = w.heap.size + 1 + 1 := ⟨_,rfl⟩
 rw [← hg2] at b2 ⊢
 obtain ⟨g1,hg1⟩ : ∃ g1,g1 = w.heap.size + 1 := ⟨_,rfl⟩
 rw [← hg1] at b1 ⊢
 obtain ⟨g0,hg0⟩ : ∃ g0,g0 = w.heap.size := ⟨_,rfl⟩
 rw [← hg0] at b0 ⊢
 obtain ⟨N,hN⟩ : ∃ N,N = W0.heap.size := ⟨_,rfl⟩
 have HG := Lib.hid (show (g0 = w.heap.size ∧ g1 = w.heap.size + 1 ∧ g2 = w.heap.size + 2 ∧ g3 = w.heap.size + 3 ∧ g4 = w.heap.size + 4 ∧ N = w.heap.size + 5) from ⟨hg0,hg1,by omega,by omega,by omega,by omega⟩)
 have HN := Lib.hid hN
 have n01 : g0 ≠ g1 := by omega
 have n02 : g0 ≠ g2 := by omega
 have n03 : g0 ≠ g3 := by omega
 have n04 : g0 ≠ g4 := by omega
 have n10 : g1 ≠ g0 := by omega
 have n12 : g1 ≠ g2 := by omega
 have n13 : g1 ≠ g3 := by omega
 have n14 : g1 ≠ g4 := by omega
 have n20 : g2 ≠ g0 := by omega
 have n21 : g2 ≠ g1 := by omega
 have n23 : g2 ≠ g3 := by omega
 have n24 : g2 ≠ g4 := by omega
 have n30 : g3 ≠ g0 := by omega
 have n31 : g3 ≠ g1 := by omega
 have n32 : g3 ≠ g2 := by omega
 have n34 : g3 ≠ g4 := by omega
 have n40 : g4 ≠ g0 := by omega
 have n41 : g4 ≠ g1 := by omega
 have n42 : g4 ≠ g2 := by omega
 have n43 : g4 ≠ g3 := by omega
 have m0 : gC ≠ g0 := by omega
 have m1 : gC ≠ g1 := by omega
 have m2 : gC ≠ g2 := by omega
 have m3 : gC ≠ g3 := by omega
 have m4 : gC ≠ g4 := by omega
 have k0 : g0 ≠ gC := by omega
 have k1 : g1 ≠ gC := by omega
 have k2 : g2 ≠ gC := by omega
 have k3 : g3 ≠ gC := by omega
 have k4 : g4 ≠ gC := by omega
 have Xn01 := Lib.hid n01
 have Xn02 := Lib.hid n02
 have Xn03 := Lib.hid n03
 have Xn04 := Lib.hid n04
 have Xn10 := Lib.hid n10
 have Xn12 := Lib.hid n12
 have Xn13 := Lib.hid n13
 have Xn14 := Lib.hid n14
 have Xn20 := Lib.hid n20
 have Xn21 := Lib.hid n21
 have Xn23 := Lib.hid n23
 have Xn24 := Lib.hid n24
 have Xn30 := Lib.hid n30
 have Xn31 := Lib.hid n31
 have Xn32 := Lib.hid n32
 have Xn34 := Lib.hid n34
 have Xn40 := Lib.hid n40
 have Xn41 := Lib.hid n41
 have Xn42 := Lib.hid n42
 have Xn43 := Lib.hid n43
 have Xm0 := Lib.hid m0
 have Xm1 := Lib.hid m1
 have Xm2 := Lib.hid m2
 have Xm3 := Lib.hid m3
 have Xm4 := Lib.hid m4
 have Xk0 := Lib.hid k0
 have Xk1 := Lib.hid k1
 have Xk2 := Lib.hid k2
 have Xk3 := Lib.hid k3
 have Xk4 := Lib.hid k4
 clear hg0 hg1 hg2 hg3 hg4 hs0 hN hgl1 hgl2 hgl3 hgl4 q0 q1 q2 q3 q4
 clear n01 n02 n10 n12 n13 n14 n20 n21 n23 n24 n31 n32 n41 n42 m1 m2 k1 k2
 obtain ⟨x0,x1,x2⟩ := b0.c3
 obtain ⟨o0,o1,o2,o3,o4⟩ := b3.c5
 obtain ⟨y0,y1,y2,y3,y4⟩ := b4.c5
 obtain ⟨xf0,xf1,xf2⟩ := b0.f3
 have of0 := b3.fr 0
 have yf0 := b4.fr 0
 obtain ⟨_,yf1,yf2,yf3,yf4⟩ := b4.f5
 rw [HAQ.out] at y4
 rw [HAQ.out] at b4
 go_upto_region 18 with (fail)
 obtain ⟨wb,wof,hWA,hwbp,hwr⟩ := SeqAt.at_ HWS.out (getD_some (d := default) hq)
 obtain ⟨wb',wof',hWA',hwbp',hwr0⟩ := SeqAt.at_ HWS.out (getD_some (d := default) (show 0 < c.ws.length by omega))
 obtain ⟨rfl,rfl⟩ : wb = wb' ∧ wof = wof' := by rw [hWA] at hWA'; injection hWA' with e; injection e with e1 e2; exact ⟨e1,e2⟩
 subst hWA
 obtain ⟨y,hy0⟩ : ∃ y,y = c.ws.getD q default := ⟨_,rfl⟩
 obtain ⟨z,hz0⟩ : ∃ z,z = c.ws.getD 0 default := ⟨_,rfl⟩
 rw [← hy0] at hwr
 rw [← hz0] at hwr0
 have HY0 := Lib.hid hy0
 have HZ0 := Lib.hid hz0
 have HWC := Lib.hid (show ∀ W,Below w.heap.size w W → W.cell? ⟨wb,wof + q * 2,none⟩ = some (.string y.k) ∧ W.cell? ⟨wb,wof + q * 2 + 1,none⟩ = some (.string y.v) ∧ W.cell? ⟨wb,wof,none⟩ = some (.string z.k) from fun W hW => by
  have e : ∀ j,W.cell? ⟨wb,j,none⟩ = w.cell? ⟨wb,j,none⟩ := fun j => hW.cell (p := ⟨wb,j,none⟩) hwbp.1
  have e0 := hwr0.k
  rw [Nat.zero_mul,Nat.add_zero] at e0
  exact ⟨(e _).trans hwr.k,(e _).trans hwr.v,(e _).trans e0⟩)
 have HYV := Lib.hid (wr_valid HWV.out (show y ∈ c.ws by rw [hy0]; exact getD_mem hq))
 have HZV := Lib.hid (wr_valid HWV.out (show z ∈ c.ws by rw [hz0]; exact getD_mem (by omega)))
 have HYK := Lib.hid hwr.ok
 have HZK := Lib.hid hwr0.ok
 obtain ⟨w1,w2,w3'⟩ := HWC.out W0 HB0.out
 have i0 : (0 : Int) ≤ (q : Int) := by omega
 have i1 : (q : Int) < (c.ws.length : Int) := by omega
 clear hwr hwr0 hy0 hz0 hwbp' hWA'
 have HP0 := Lib.hid (show ∀ b,b < w.heap.size ∧ b ≠ gC ∧ ¬ X b → b < W0.heap.size from fun b h => Nat.lt_of_lt_of_le h.1 HB0.out.size)
 have HR0 := Lib.hid (show RowsAt W0 (fun b => b < w.heap.size ∧ b ≠ gC ∧ ¬ X b) RA wo.rows from rows_turn H.out.rows (fun b hb => hb.1) HB0.out (fun b hb => hb))
 have HRO := Lib.hid (fun W (hW : Below W0.heap.size W0 W) => (rowOf_any y.k (fun b => b < w.heap.size ∧ b ≠ gC ∧ ¬ X b) RA (some ⟨gC,0,none⟩) wo.rows.length rc m cc wo.clock wo.rows W rfl (rows_turn HR0.out HP0.out hW (fun _ h => h)) (fun b h => Nat.lt_of_lt_of_le (HP0.out b h) hW.size) HR.out.inc HYK.out.1).mono fun e w' h => by
  obtain ⟨A,c,he,hh,hb⟩ := h
  exact (⟨A,c,he,hh.mono (fun _ h => h) (fun b k hp => (hW.cell (p := ⟨b,k,none⟩) (HP0.out b hp)).symm),hb⟩ : ∃ A c,e = .returned (.tuple #[rV (look wo.rows y.k) A (look wo.rows y.k).recs.length c,.bool (hasK (rowKeys wo.rows) y.k)]) ∧ RowHas W0 (fun b => b < w.heap.size ∧ b ≠ gC ∧ ¬ X b) (look wo.rows y.k,A,c) ∧ Below W.heap.size W w'))
 obtain ⟨r,hrd⟩ : ∃ r,r = look wo.rows y.k := ⟨_,rfl⟩
 have HRD := Lib.hid hrd
 rw [← hrd] at HRO
 clear hrd
 have HC := Lib.hid (show ∀ W,Below W0.heap.size W0 W → (fun W => (W.cell? ⟨g0,0,none⟩ = some (.slice RA wo.rows.length rc) ∧ W.cell? ⟨g0,1,none⟩ = some (.int .i64 wo.clock) ∧ W.cell? ⟨g0,2,none⟩ = some (.slice (some ⟨gC,0,none⟩) m cc)) ∧ W.cell? ⟨g4,3,none⟩ = some (.slice (some ⟨wb,wof,none⟩) c.ws.length wk) ∧ W.cell? ⟨g4,4,none⟩ = some (.int .i64 (q : Int)) ∧ W.cell? ⟨wb,wof + q * 2,none⟩ = some (.string y.k)) W from fun W hW => ⟨⟨(b0.upto hW).cell 0 _ rfl,(b0.upto hW).cell 1 _ rfl,(b0.upto hW).cell 2 _ rfl⟩,(b4.upto hW).cell 3 _ rfl,(b4.upto hW).cell 4 _ rfl,(HWC.out W (below_next HB0.out hW)).1⟩)
 go_cut [9,10] (fun s9 s10 wx => ∃ g A3 c3,s9 = .pointer (some ⟨g,0,none⟩) ∧ s10 = .bool (hasK (rowKeys wo.rows) y.k) ∧ RBox wx g r A3 c3 ∧ RowHas W0 (fun b => b < w.heap.size ∧ b ≠ gC ∧ ¬ X b) (r,A3,c3) ∧ W0.heap.size ≤ g ∧ Below W0.heap.size W0 wx)
 case first =>
  refine wp_region_held_drew (S := fun W => (W.cell? ⟨g0,0,none⟩ = some (.slice RA wo.rows.length rc) ∧ W.cell? ⟨g0,1,none⟩ = some (.int .i64 wo.clock) ∧ W.cell? ⟨g0,2,none⟩ = some (.slice (some ⟨gC,0,none⟩) m cc)) ∧ W.cell? ⟨g4,3,none⟩ = some (.slice (some ⟨wb,wof,none⟩) c.ws.length wk) ∧ W.cell? ⟨g4,4,none⟩ = some (.int .i64 (q : Int)) ∧ W.cell? ⟨wb,wof + q * 2,none⟩ = some (.string y.k)) (by kernel_rfl) ?_ (fun hHeld => ?_)
  ·exact ⟨⟨x0,x1,x2⟩,y3,y4,w1⟩
  refine tq 0 ?_
  refine tq 1 ?_
  refine tq 2 ?_
  refine tq 3 ?_
  refine tq 4 ?_
  refine tq 5 ?_
  refine tq 6 ?_
  refine tq 7 ?_
  refine wpAnyH_ready (rs := [8,12]) (by kernel_rfl) (by simp) ?_
  refine AllReadyH.cons (o := ?_) ?_ (fun K hK => ?_) ?_
  rotate_left 1
  ·(simp only [List.getElem?_toArray,List.getElem?_cons_zero,List.getElem?_cons_succ]; rfl)
  ·go_simp
   refine (HRO.out _ (below_drew (Below.refl _ _))).mono ?_
   rintro e w3 ⟨A3,c3,rfl,hh3,hb3⟩
   have HB03 := Lib.hid (show Below W0.heap.size W0 w3 from below_next (below_drew (Below.refl _ _)) hb3)
   clear hb3 hHeld
   (refine hK.out _ _ ?_ (fun hHeld => ?_); exact HC.out w3 HB03.out; clear hK K)
   refine tq 9 ?_
   refine tq 10 ?_
   refine tq 11 ?_
   (refine cop 12 (h := fun K hK => ?_); go_simp)
   clear hHeld
   (refine hK.out _ _ ?_ (fun hHeld => ?_); exact HC.out _ (below_alloc HB03.out _); clear hK K)
   (refine cop 13 (h := fun K hK => ?_); go_simp)
   clear hHeld
   (refine hK.out _ _ ?_ (fun hHeld => ?_); exact HC.out _ (below_alloc HB03.out _); clear hK K)
   refine tq 14 ?_
   refine wpAnyH_done (by kernel_rfl) ?_ _
   clear hHeld
   go_wp2_with fail
   go_meet
   exact ⟨_,A3,c3,rfl,rfl,RBox.new w3 _ _ _,hh3,HB03.out.size,(below_alloc HB03.out _)⟩
  ·refine AllReadyH.cons (o := ?_) ?_ (fun K hK => ?_) AllReadyH.nil
   rotate_left 1
   ·(simp only [List.getElem?_toArray,List.getElem?_cons_zero,List.getElem?_cons_succ]; rfl)
   ·go_simp
    clear hHeld
    (refine hK.out _ _ ?_ (fun hHeld => ?_); exact HC.out _ (below_alloc (below_drew (Below.refl _ _)) _); clear hK K)
    (refine cop 8 (h := fun K hK => ?_); go_simp)
    refine (HRO.out _ (below_alloc (below_drew (Below.refl _ _)) _)).mono ?_
    rintro e w3 ⟨A3,c3,rfl,hh3,hb3⟩
    have hbx := (RBox.zero W0.drew).upto hb3
    have HBX := Lib.hid hbx
    obtain ⟨z0,z1,z2,z3,z4,zf⟩ := hbx
    have f0 := zf 0
    have f1 := zf 1
    have f2 := zf 2
    have f3 := zf 3
    have f4 := zf 4
    have HB03 := Lib.hid (show Below W0.heap.size W0 w3 from below_next (below_alloc (below_drew (Below.refl _ _)) _) hb3)
    clear hb3 hHeld zf
    rw [show (World.drew W0).heap.size = W0.heap.size from rfl] at z0 z1 z2 z3 z4 f0 f1 f2 f3 f4 HBX
    (refine hK.out _ _ ?_ (fun hHeld => ?_); exact HC.out w3 HB03.out; clear hK K)
    refine tq 9 ?_
    refine tq 10 ?_
    refine tq 11 ?_
    (refine cop 13 (h := fun K hK => ?_); go_simp)
    clear hHeld
    (refine hK.out _ _ ?_ (fun hHeld => ?_); exact HC.out _ (bset5 HB03.out (Nat.le_refl _) _ _ _ _ _); clear hK K)
    refine tq 14 ?_
    refine wpAnyH_done (by kernel_rfl) ?_ _
    clear hHeld
    go_wp2_with fail
    go_meet
    exact ⟨_,A3,c3,rfl,rfl,(RBox.set HBX.out _ _ _),hh3,(Nat.le_refl _),(bset5 HB03.out (Nat.le_refl _) _ _ _ _ _)⟩
 case rest =>
  obtain ⟨gr,A3,c3,rfl,rfl,hbx,hh3,hgr,hbc⟩ := hcut
  have HBC := Lib.hid hbc
  have HBX := Lib.hid hbx
  have HH3 := Lib.hid hh3
  have HB01 := Lib.hid (show Below w.heap.size w wc from below_next HB0.out hbc)
  have HS1 := Lib.hid (show N ≤ wc.heap.size by have := HN.out; have := hbc.size; omega)
  have b0 := BoxIs.upto b0 hbc
  have b1 := BoxIs.upto b1 hbc
  have b2 := BoxIs.upto b2 hbc
  have b3 := BoxIs.upto b3 hbc
  have b4 := BoxIs.upto b4 hbc
  obtain ⟨p0,p1,p2,p3,p4,pf⟩ := hbx
  have HP1 := Lib.hid (show ∀ b,b < w.heap.size ∧ b ≠ gC ∧ ¬ X b → b < wc.heap.size from fun b h => Nat.lt_of_lt_of_le h.1 HB01.out.size)
  have HH1 := Lib.hid (show RowHas wc (fun b => b < w.heap.size ∧ b ≠ gC ∧ ¬ X b) (r,A3,c3) from HH3.out.mono (fun _ h => h) (fun b k hp => (HB01.out.cell (p := ⟨b,k,none⟩) hp.1).trans (HB0.out.cell (p := ⟨b,k,none⟩) hp.1).symm))
  have HLKY := Lib.hid (show r.key = y.k by rw [HRD.out]; exact look_key _ _)
  have HRV := Lib.hid (show r.ok = true by rw [HRD.out]; exact look_valid HR.out HYV.out.1)
  have HOV := Lib.hid (commitOp_valid (r := r) (st := c.st) (cm := c.cm) HRV.out)
  have HUOK := Lib.hid (commitOp_ok (r := r) (st := c.st) (cm := c.cm) HH1.out.ok)
  have HCI := Lib.hid (chg_ins (rows := wo.rows) (key := y.k) (op := commitOp c.st c.cm))
  have HCB := Lib.hid (chg_none1 (rows := wo.rows) (key := y.k) (op := commitOp c.st c.cm))
  have HCN := Lib.hid (chg_nz (rows := wo.rows) (key := y.k) (op := commitOp c.st c.cm))
  have HFR := Lib.hid (show (commitOp c.st c.cm r).2 = 0 → hasK (rowKeys wo.rows) y.k = true from fun h => by
   cases e : hasK (rowKeys wo.rows) y.k with
   | true => rfl
   | false =>
    have hv := (HOV.out h).2.2.1
    rw [HRD.out,look,if_neg (by rw [e]; decide)] at hv
    have h1 := (inB_true.1 HST.out).1
    have h2 : (0 : Int) = c.st := hv
    omega)
  have HCW := Lib.hid (show commitW wo C c = (if (chgRow wo.rows y.k (commitOp c.st c.cm)).2 ≠ 0 ∧ c.ph = 3 then (failW wo C c,9) else if (q : Int) + 1 = c.ws.length then (⟨(chgRow wo.rows y.k (commitOp c.st c.cm)).1,wo.clock,wo.cls.set C idleC⟩,0) else (⟨(chgRow wo.rows y.k (commitOp c.st c.cm)).1,wo.clock,wo.cls.set C ⟨4,c.st,c.cm,c.ws,(q : Int) + 1⟩⟩,0)) by
   rw [commitW]
   show (if (chgRow wo.rows (c.ws.getD c.at_.toNat default).k (commitOp c.st c.cm)).2 ≠ 0 ∧ c.ph = 3 then _ else _) = _
   rw [HAQ.out,Int.toNat_natCast,← HY0.out])
  rw [← HRD.out] at HCI HCB HCN
  obtain ⟨U,hU⟩ : ∃ U,U = commitOp c.st c.cm r := ⟨_,rfl⟩
  have HCM := Lib.hid (show Calls Tryz.prog 41 #[rV r A3 r.recs.length c3,.int .i64 c.st,.int .i64 c.cm] wc (OpOut U wc) by rw [hU]; exact commitRef_op r A3 r.recs.length c3 c.st c.cm wc (HH1.out.op HP1.out))
  rw [← hU] at HOV HUOK HCI HCB HFR HCN
  obtain ⟨U1,ue⟩ := U
  dsimp only at HOV HUOK HCI HCB HFR HCN
  have h40 := HR.out.len
  have s8 : IntKind.i64.wrap ((q : Int) + 1) = (q : Int) + 1 := IntWalk.i64_in _ (by have : (c.ws.length : Int) ≤ 4398046511104 := (by omega); omega)
  clear x0 x1 x2 o0 o1 o2 o3 o4 y0 y1 y2 y3 y4 xf0 xf1 xf2 of0 yf0 yf1 yf2 yf3 yf4
  clear w1 w2 w3' hbc hh3 pf hU
  obtain ⟨x0,x1,x2⟩ := b0.c3
  obtain ⟨o0,o1,o2,o3,o4⟩ := b3.c5
  obtain ⟨y0,y1,y2,y3,y4⟩ := b4.c5
  obtain ⟨xf0,xf1,xf2⟩ := b0.f3
  have of0 := b3.fr 0
  have yf0 := b4.fr 0
  obtain ⟨_,yf1,yf2,yf3,yf4⟩ := b4.f5
  go_wp2_with fail
  refine HCM.out.mono ?_
  rintro e w4 ⟨A4,c4,rfl,hrec4,hnew4,hb4⟩
  dsimp only at hrec4 hnew4 ⊢
  have HREC := Lib.hid hrec4
  have HNEW := Lib.hid hnew4
  have HB14 := Lib.hid hb4
  have HB04 := Lib.hid (show Below w.heap.size w w4 from below_next HB01.out hb4)
  have b0 := BoxIs.upto b0 hb4
  have b1 := BoxIs.upto b1 hb4
  have b2 := BoxIs.upto b2 hb4
  have b3 := BoxIs.upto b3 hb4
  have b4 := BoxIs.upto b4 hb4
  have lt0 : g0 < w4.heap.size := b0.lt
  have lt1 : g1 < w4.heap.size := b1.lt
  have lt2 : g2 < w4.heap.size := b2.lt
  have lt3 : g3 < w4.heap.size := b3.lt
  have lt4 : g4 < w4.heap.size := b4.lt
  obtain ⟨W5,hW5,_,_,_,_,_,hb45,hs45⟩ := box_new w4 (.string U1.key) (.int .i64 U1.ls) (.string U1.lp) (.string U1.val) (.slice A4 U1.recs.length c4) 45
  have HW5 := Lib.hid hW5
  have HB45 := Lib.hid hb45
  have HB05 := Lib.hid (show Below w.heap.size w W5 from below_next HB04.out hb45)
  have HS5 := Lib.hid hs45
  clear x0 x1 x2 o0 o1 o2 o3 o4 y0 y1 y2 y3 y4 xf0 xf1 xf2 of0 yf0 yf1 yf2 yf3 yf4
  clear hrec4 hnew4 hb4 hW5 hb45 hs45 p0 p1 p2 p3 p4
  obtain ⟨x0,x1,x2⟩ := b0.c3
  obtain ⟨o0,o1,o2,o3,o4⟩ := b3.c5
  obtain ⟨y0,y1,y2,y3,y4⟩ := b4.c5
  obtain ⟨xf0,xf1,xf2⟩ := b0.f3
  have of0 := b3.fr 0
  have yf0 := b4.fr 0
  obtain ⟨_,yf1,yf2,yf3,yf4⟩ := b4.f5
  by_cases he : ue = 0
  ·subst he
   have HINS := Lib.hid (HCI.out rfl (.inl (HFR.out rfl)) ((HOV.out rfl).2.1.trans HLKY.out))
   have HHAS := Lib.hid (show RowHas W5 (fun b => (b < w.heap.size ∧ b ≠ gC ∧ ¬ X b) ∨ (N ≤ b ∧ b < W5.heap.size)) (U1,A4,c4) from ⟨HNEW.out.2,(HREC.out.in_ (P := fun b => N ≤ b ∧ b < w4.heap.size) (fun ad hA hb => ⟨Nat.le_trans HS1.out (HNEW.out.1 ad hA),hb⟩)).mono (fun b hb => .inr ⟨hb.1,by have := HS5.out; have h2 : b < w4.heap.size := hb.2; omega⟩) (fun b k hb => HB45.out.cell (p := ⟨b,k,none⟩) hb.2),HUOK.out rfl⟩)
   have HWI := Lib.hid (withRow_any (fun b => (b < w.heap.size ∧ b ≠ gC ∧ ¬ X b) ∨ (N ≤ b ∧ b < W5.heap.size)) RA (some ⟨gC,0,none⟩) wo.rows.length rc m cc wo.clock wo.rows U1 A4 c4 W5 rfl (rows_turn H.out.rows (fun b hb => hb.1) HB05.out (fun b hb => .inl hb)) (fun b hb => by
    rcases hb with hb | hb
    ·exact Nat.lt_of_lt_of_le hb.1 HB05.out.size
    ·exact hb.2) HR.out.inc HHAS.out h40)
   obtain ⟨uk,uls,ulp,uv,ur⟩ := U1
   dsimp only at HW5
   go_wp2_with fail
   rw [← HW5.out]
   refine HWI.out.mono ?_
   rintro e w6 ⟨RA6,rc6,rfl,hc6,hrows6,hb6⟩
   obtain ⟨NR,hNR⟩ : ∃ NR,NR = insK RowM.key wo.rows ⟨uk,uls,ulp,uv,ur⟩ := ⟨_,rfl⟩
   rw [← hNR] at hc6 hrows6 HINS ⊢
   have hb46 : Below w4.heap.size w4 w6 := below_next HB45.out hb6
   have HB06 := Lib.hid (below_next HB04.out hb46)
   have HR6 := Lib.hid (show RowsAt w6 (fun b => (b < w.heap.size ∧ b ≠ gC ∧ ¬ X b) ∨ (N ≤ b ∧ b < w6.heap.size)) RA6 NR from hrows6.rows (fun b hb => by
    have h1 := hb6.size
    have h2 := HS1.out
    have h3 := HB14.out.size
    have h4 := HB45.out.size
    rcases hb with (hb | hb) | hb
    ·exact .inl hb
    ·exact .inr ⟨hb.1,by omega⟩
    ·exact .inr ⟨by omega,hb.2⟩) (fun _ _ _ => rfl))
   have HC6 := Lib.hid hc6
   have b0 := BoxIs.upto b0 hb46
   have b1 := BoxIs.upto b1 hb46
   have b2 := BoxIs.upto b2 hb46
   have b3 := BoxIs.upto b3 hb46
   have b4 := BoxIs.upto b4 hb46
   clear x0 x1 x2 o0 o1 o2 o3 o4 y0 y1 y2 y3 y4 xf0 xf1 xf2 of0 yf0 yf1 yf2 yf3 yf4
   clear hc6 hrows6 hb6 hb46 hNR
   obtain ⟨x0,x1,x2⟩ := b0.c3
   obtain ⟨o0,o1,o2,o3,o4⟩ := b3.c5
   obtain ⟨y0,y1,y2,y3,y4⟩ := b4.c5
   obtain ⟨xf0,xf1,xf2⟩ := b0.f3
   have of0 := b3.fr 0
   have yf0 := b4.fr 0
   obtain ⟨_,yf1,yf2,yf3,yf4⟩ := b4.f5
   go_upto_region 38 with (fail)
   obtain ⟨W7,hW7⟩ : ∃ W7,W7 = (((w6.setCell ⟨g0,0,none⟩ (.slice RA6 NR.length rc6)).setCell ⟨g0,1,none⟩ (.int .i64 wo.clock)).setCell ⟨g0,2,none⟩ (.slice (some ⟨gC,0,none⟩) m cc)) := ⟨_,rfl⟩
   rw [← hW7]
   have b0 : BoxIs W7 g0 [.slice RA6 NR.length rc6,.int .i64 wo.clock,.slice (some ⟨gC,0,none⟩) m cc] := BoxIs.to hW7 (.set (.set (.set b0 0 _) 1 _) 2 _)
   have b1 := BoxIs.to hW7 (.o3 b1 Xn10.out)
   have b2 := BoxIs.to hW7 (.o3 b2 Xn20.out)
   have b3 := BoxIs.to hW7 (.o3 b3 Xn30.out)
   have b4 := BoxIs.to hW7 (.o3 b4 Xn40.out)
   have HW7 := Lib.hid hW7
   clear hW7
   have HB_W7 := Lib.hid (show Below w.heap.size w W7 by
    have hg := HG.out
    have l0 : w.heap.size ≤ g0 := by omega
    rw [HW7.out]
    exact (((HB06.out).setCell l0 _).setCell l0 _).setCell l0 _)
   have HR_W7 := Lib.hid (show RowsAt W7 (fun b => (b < w.heap.size ∧ b ≠ gC ∧ ¬ X b) ∨ (N ≤ b ∧ b < W7.heap.size)) RA6 NR from by
    have hs3 : W7.heap.size = w6.heap.size := by rw [HW7.out]; simp
    have hg := HG.out
    refine (HR6.out).rows (fun b hb => ?_) (fun b k hb => World.cell?_of_block (w := w6) (a := ⟨b,k,none⟩) ?_)
    ·rcases hb with hb | hb
     ·exact .inl hb
     ·exact .inr ⟨hb.1,by omega⟩
    ·have n0 : b ≠ g0 := by rcases hb with hb | hb <;> omega
     rw [HW7.out,Below.heap_setCell _ _ _ _ n0,Below.heap_setCell _ _ _ _ n0,Below.heap_setCell _ _ _ _ n0])
   clear x0 x1 x2 o0 o1 o2 o3 o4 y0 y1 y2 y3 y4 xf0 xf1 xf2 of0 yf0 yf1 yf2 yf3 yf4
   obtain ⟨x0,x1,x2⟩ := b0.c3
   obtain ⟨o0,o1,o2,o3,o4⟩ := b3.c5
   obtain ⟨y0,y1,y2,y3,y4⟩ := b4.c5
   obtain ⟨xf0,xf1,xf2⟩ := b0.f3
   have of0 := b3.fr 0
   have yf0 := b4.fr 0
   obtain ⟨_,yf1,yf2,yf3,yf4⟩ := b4.f5
   by_cases hla : (q : Int) + 1 = c.ws.length
   ·have hl1 : (((q : Int) + 1) == (c.ws.length : Int)) = true := beq_iff_eq.2 hla
    have HLA := Lib.hid hla
    clear hla
    have HE2 := Lib.hid (show Z = (⟨NR,wo.clock,wo.cls.set C idleC⟩,ansCode 0) by rw [HE.out,HCW.out,HINS.out,if_neg (fun h => h.1 rfl),if_pos HLA.out])
    have HE := Lib.hid HE2.out
    go_upto_region 42 with (fail)
    obtain ⟨W6,hW6⟩ : ∃ W6,W6 = (((((((W7.setCell ⟨g4,0,none⟩ (.int .i64 4)).setCell ⟨g4,4,none⟩ (.int .i64 ((q : Int) + 1))).setCell ⟨g4,0,none⟩ (.int .i64 0)).setCell ⟨g4,1,none⟩ (.int .i64 0)).setCell ⟨g4,2,none⟩ (.int .i64 0)).setCell ⟨g4,3,none⟩ (.slice none 0 0)).setCell ⟨g4,4,none⟩ (.int .i64 0)) := ⟨_,rfl⟩
    rw [← hW6]
    have b0 := BoxIs.to hW6 (.o1 (.o1 (.o5 b0 Xn04.out) Xn04.out) Xn04.out)
    have b1 := BoxIs.to hW6 (.o1 (.o1 (.o5 b1 Xn14.out) Xn14.out) Xn14.out)
    have b2 := BoxIs.to hW6 (.o1 (.o1 (.o5 b2 Xn24.out) Xn24.out) Xn24.out)
    have b3 := BoxIs.to hW6 (.o1 (.o1 (.o5 b3 Xn34.out) Xn34.out) Xn34.out)
    have b4 : BoxIs W6 g4 [.int .i64 0,.int .i64 0,.int .i64 0,.slice none 0 0,.int .i64 0] := BoxIs.to hW6 (.set (.set (.set (.set (.set (.set (.set b4 0 _) 4 _) 0 _) 1 _) 2 _) 3 _) 4 _)
    have HW6 := Lib.hid hW6
    clear hW6
    have HB_W6 := Lib.hid (show Below w.heap.size w W6 by
     have hg := HG.out
     have l4 : w.heap.size ≤ g4 := by omega
     rw [HW6.out]
     exact (((((((HB_W7.out).setCell l4 _).setCell l4 _).setCell l4 _).setCell l4 _).setCell l4 _).setCell l4 _).setCell l4 _)
    have HR_W6 := Lib.hid (show RowsAt W6 (fun b => (b < w.heap.size ∧ b ≠ gC ∧ ¬ X b) ∨ (N ≤ b ∧ b < W6.heap.size)) RA6 NR from by
     have hs3 : W6.heap.size = W7.heap.size := by rw [HW6.out]; simp
     have hg := HG.out
     refine (HR_W7.out).rows (fun b hb => ?_) (fun b k hb => World.cell?_of_block (w := W7) (a := ⟨b,k,none⟩) ?_)
     ·rcases hb with hb | hb
      ·exact .inl hb
      ·exact .inr ⟨hb.1,by omega⟩
     ·have n4 : b ≠ g4 := by rcases hb with hb | hb <;> omega
      rw [HW6.out,Below.heap_setCell _ _ _ _ n4,Below.heap_setCell _ _ _ _ n4,Below.heap_setCell _ _ _ _ n4,Below.heap_setCell _ _ _ _ n4,Below.heap_setCell _ _ _ _ n4,Below.heap_setCell _ _ _ _ n4,Below.heap_setCell _ _ _ _ n4])
    clear x0 x1 x2 o0 o1 o2 o3 o4 y0 y1 y2 y3 y4 xf0 xf1 xf2 of0 yf0 yf1 yf2 yf3 yf4
    obtain ⟨x0,x1,x2⟩ := b0.c3
    obtain ⟨o0,o1,o2,o3,o4⟩ := b3.c5
    obtain ⟨y0,y1,y2,y3,y4⟩ := b4.c5
    obtain ⟨xf0,xf1,xf2⟩ := b0.f3
    have of0 := b3.fr 0
    have yf0 := b4.fr 0
    obtain ⟨_,yf1,yf2,yf3,yf4⟩ := b4.f5
    have t0 := gcell H.out HB_W6.out hCm 0 (by omega)
    have t1 := gcell H.out HB_W6.out hCm 1 (by omega)
    have t2 := gcell H.out HB_W6.out hCm 2 (by omega)
    have t3 := gcell H.out HB_W6.out hCm 3 (by omega)
    have t4 := gcell H.out HB_W6.out hCm 4 (by omega)
    rw [Nat.add_zero] at t0
    obtain ⟨u0,t0,tf0⟩ := t0
    obtain ⟨u1,t1,tf1⟩ := t1
    obtain ⟨u2,t2,tf2⟩ := t2
    obtain ⟨u3,t3,tf3⟩ := t3
    obtain ⟨u4,t4,tf4⟩ := t4
    go_upto_region 43 with (fail)
    obtain ⟨W8,hW8⟩ : ∃ W8,W8 = (((((W6.setCell ⟨gC,C * 5,none⟩ (.int .i64 0)).setCell ⟨gC,C * 5 + 1,none⟩ (.int .i64 0)).setCell ⟨gC,C * 5 + 2,none⟩ (.int .i64 0)).setCell ⟨gC,C * 5 + 3,none⟩ (.slice none 0 0)).setCell ⟨gC,C * 5 + 4,none⟩ (.int .i64 0)) := ⟨_,rfl⟩
    rw [← hW8]
    have b0 := BoxIs.to hW8 (.o5 b0 Xk0.out)
    have b1 := BoxIs.to hW8 (.o5 b1 Xk1.out)
    have b2 := BoxIs.to hW8 (.o5 b2 Xk2.out)
    have b3 := BoxIs.to hW8 (.o5 b3 Xk3.out)
    have b4 := BoxIs.to hW8 (.o5 b4 Xk4.out)
    have HW8 := Lib.hid hW8
    clear hW8
    clear t0 t1 t2 t3 t4 tf0 tf1 tf2 tf3 tf4
    clear x0 x1 x2 o0 o1 o2 o3 o4 y0 y1 y2 y3 y4 xf0 xf1 xf2 of0 yf0 yf1 yf2 yf3 yf4
    obtain ⟨x0,x1,x2⟩ := b0.c3
    obtain ⟨r0,r1,r2⟩ := b1.c3
    obtain ⟨s0,s1,s2,s3,s4⟩ := b2.c5
    obtain ⟨o0,o1,o2,o3,o4⟩ := b3.c5
    obtain ⟨y0,y1,y2,y3,y4⟩ := b4.c5
    obtain ⟨xf0,xf1,xf2⟩ := b0.f3
    obtain ⟨rf0,rf1,rf2⟩ := b1.f3
    obtain ⟨sf0,sf1,sf2,sf3,sf4⟩ := b2.f5
    obtain ⟨of0,of1,of2,of3,of4⟩ := b3.f5
    obtain ⟨yf0,yf1,yf2,yf3,yf4⟩ := b4.f5
    have n12 := Xn12.out
    have n21 := Xn21.out
    have n10 := Xn10.out
    have n01 := Xn01.out
    have n20 := Xn20.out
    have n02 := Xn02.out
    have n13 := Xn13.out
    have n31 := Xn31.out
    have n23 := Xn23.out
    have n32 := Xn32.out
    go_region
    obtain ⟨V,hV,⟨e0,e1,e2⟩,⟨d0,d1,d2,d3,d4⟩,hsV⟩ := two_stores (W := W8) (g := g1) (g' := g2) Xn12.out r0 r1 r2 s0 s1 s2 s3 s4 (.slice RA6 NR.length rc6) (.int .i64 wo.clock) (.slice (some ⟨gC,0,none⟩) m cc) (.int .i64 0) (.bool false) (.string ⟨#[]⟩) (.int .i64 0) (.int .i64 0)
    rw [← hV]
    have hVb : ∀ q,q ≠ g1 → q ≠ g2 → V.drew.heap[q]? = W8.heap[q]? := fun q h1 h2 => by
     show V.heap[q]? = _
     rw [hV,Below.heap_setCell _ _ _ _ h2,Below.heap_setCell _ _ _ _ h2,Below.heap_setCell _ _ _ _ h2,Below.heap_setCell _ _ _ _ h2,Below.heap_setCell _ _ _ _ h2,Below.heap_setCell _ _ _ _ h1,Below.heap_setCell _ _ _ _ h1,Below.heap_setCell _ _ _ _ h1]
    have hVB : Below w.heap.size W8 V.drew := by
     obtain ⟨a0,a1,a2,_⟩ := HG.out
     have l1 : w.heap.size ≤ g1 := by omega
     have l2 : w.heap.size ≤ g2 := by omega
     refine Below.drew ?_
     rw [hV]
     exact ((((((((Below.refl _ _).setCell l1 _).setCell l1 _).setCell l1 _).setCell l2 _).setCell l2 _).setCell l2 _).setCell l2 _).setCell l2 _
    clear hV
    go_wp2
    exact bodyPost_ret (v := .tuple #[woV RA6 NR.length rc6 wo.clock (some ⟨gC,0,none⟩) m cc,.agg #[.int .i64 0,.bool false,.string ⟨#[]⟩,.int .i64 0,.int .i64 0]]) (by simp [results,Tryz.results22,go_sem,e0,e1,e2,d0,d1,d2,d3,d4]) rfl
     (by
       have hfin := ref_end2 (B := B) (N := N) (wr := W6) (W8 := W8) (W9 := V.drew) H.out (fun b h => by have := HXL.out b h; have := HG.out; omega) hB HB_W6.out hCm idleC none 0 ⟨i64_zero,i64_zero,i64_zero,i64_zero⟩ (Nat.le_refl _) (SeqAt.nil_ _) HW8.out hVB (by have := HG.out; omega) (fun q h1 _ => hVb q (by have := HG.out; omega) (by have := HG.out; omega)) HR_W6.out HC6.out (ck := wo.clock) H.out.ck
       rw [HE.out]
       exact ⟨_,rfl,RA6,rc6,rfl,hfin.1,hfin.2⟩)
   ·have hl1 : (((q : Int) + 1) == (c.ws.length : Int)) = false := beq_eq_false_iff_ne.2 hla
    have HLA := Lib.hid hla
    clear hla
    have HE2 := Lib.hid (show Z = (⟨NR,wo.clock,wo.cls.set C ⟨4,c.st,c.cm,c.ws,(q : Int) + 1⟩⟩,ansCode 0) by rw [HE.out,HCW.out,HINS.out,if_neg (fun h => h.1 rfl),if_neg HLA.out])
    have HE := Lib.hid HE2.out
    go_upto_region 42 with (fail)
    obtain ⟨W6,hW6⟩ : ∃ W6,W6 = ((W7.setCell ⟨g4,0,none⟩ (.int .i64 4)).setCell ⟨g4,4,none⟩ (.int .i64 ((q : Int) + 1))) := ⟨_,rfl⟩
    rw [← hW6]
    have b0 := BoxIs.to hW6 (.o1 (.o1 b0 Xn04.out) Xn04.out)
    have b1 := BoxIs.to hW6 (.o1 (.o1 b1 Xn14.out) Xn14.out)
    have b2 := BoxIs.to hW6 (.o1 (.o1 b2 Xn24.out) Xn24.out)
    have b3 := BoxIs.to hW6 (.o1 (.o1 b3 Xn34.out) Xn34.out)
    have b4 : BoxIs W6 g4 [.int .i64 4,.int .i64 c.st,.int .i64 c.cm,.slice (some ⟨wb,wof,none⟩) c.ws.length wk,.int .i64 ((q : Int) + 1)] := BoxIs.to hW6 (.set (.set b4 0 _) 4 _)
    have HW6 := Lib.hid hW6
    clear hW6
    have HB_W6 := Lib.hid (show Below w.heap.size w W6 by
     have hg := HG.out
     have l4 : w.heap.size ≤ g4 := by omega
     rw [HW6.out]
     exact ((HB_W7.out).setCell l4 _).setCell l4 _)
    have HR_W6 := Lib.hid (show RowsAt W6 (fun b => (b < w.heap.size ∧ b ≠ gC ∧ ¬ X b) ∨ (N ≤ b ∧ b < W6.heap.size)) RA6 NR from by
     have hs3 : W6.heap.size = W7.heap.size := by rw [HW6.out]; simp
     have hg := HG.out
     refine (HR_W7.out).rows (fun b hb => ?_) (fun b k hb => World.cell?_of_block (w := W7) (a := ⟨b,k,none⟩) ?_)
     ·rcases hb with hb | hb
      ·exact .inl hb
      ·exact .inr ⟨hb.1,by omega⟩
     ·have n4 : b ≠ g4 := by rcases hb with hb | hb <;> omega
      rw [HW6.out,Below.heap_setCell _ _ _ _ n4,Below.heap_setCell _ _ _ _ n4])
    clear x0 x1 x2 o0 o1 o2 o3 o4 y0 y1 y2 y3 y4 xf0 xf1 xf2 of0 yf0 yf1 yf2 yf3 yf4
    obtain ⟨x0,x1,x2⟩ := b0.c3
    obtain ⟨o0,o1,o2,o3,o4⟩ := b3.c5
    obtain ⟨y0,y1,y2,y3,y4⟩ := b4.c5
    obtain ⟨xf0,xf1,xf2⟩ := b0.f3
    have of0 := b3.fr 0
    have yf0 := b4.fr 0
    obtain ⟨_,yf1,yf2,yf3,yf4⟩ := b4.f5
    have t0 := gcell H.out HB_W6.out hCm 0 (by omega)
    have t1 := gcell H.out HB_W6.out hCm 1 (by omega)
    have t2 := gcell H.out HB_W6.out hCm 2 (by omega)
    have t3 := gcell H.out HB_W6.out hCm 3 (by omega)
    have t4 := gcell H.out HB_W6.out hCm 4 (by omega)
    rw [Nat.add_zero] at t0
    obtain ⟨u0,t0,tf0⟩ := t0
    obtain ⟨u1,t1,tf1⟩ := t1
    obtain ⟨u2,t2,tf2⟩ := t2
    obtain ⟨u3,t3,tf3⟩ := t3
    obtain ⟨u4,t4,tf4⟩ := t4
    go_upto_region 43 with (fail)
    obtain ⟨W8,hW8⟩ : ∃ W8,W8 = (((((W6.setCell ⟨gC,C * 5,none⟩ (.int .i64 4)).setCell ⟨gC,C * 5 + 1,none⟩ (.int .i64 c.st)).setCell ⟨gC,C * 5 + 2,none⟩ (.int .i64 c.cm)).setCell ⟨gC,C * 5 + 3,none⟩ (.slice (some ⟨wb,wof,none⟩) c.ws.length wk)).setCell ⟨gC,C * 5 + 4,none⟩ (.int .i64 ((q : Int) + 1))) := ⟨_,rfl⟩
    rw [← hW8]
    have b0 := BoxIs.to hW8 (.o5 b0 Xk0.out)
    have b1 := BoxIs.to hW8 (.o5 b1 Xk1.out)
    have b2 := BoxIs.to hW8 (.o5 b2 Xk2.out)
    have b3 := BoxIs.to hW8 (.o5 b3 Xk3.out)
    have b4 := BoxIs.to hW8 (.o5 b4 Xk4.out)
    have HW8 := Lib.hid hW8
    clear hW8
    clear t0 t1 t2 t3 t4 tf0 tf1 tf2 tf3 tf4
    clear x0 x1 x2 o0 o1 o2 o3 o4 y0 y1 y2 y3 y4 xf0 xf1 xf2 of0 yf0 yf1 yf2 yf3 yf4
    obtain ⟨x0,x1,x2⟩ := b0.c3
    obtain ⟨r0,r1,r2⟩ := b1.c3
    obtain ⟨s0,s1,s2,s3,s4⟩ := b2.c5
    obtain ⟨o0,o1,o2,o3,o4⟩ := b3.c5
    obtain ⟨y0,y1,y2,y3,y4⟩ := b4.c5
    obtain ⟨xf0,xf1,xf2⟩ := b0.f3
    obtain ⟨rf0,rf1,rf2⟩ := b1.f3
    obtain ⟨sf0,sf1,sf2,sf3,sf4⟩ := b2.f5
    obtain ⟨of0,of1,of2,of3,of4⟩ := b3.f5
    obtain ⟨yf0,yf1,yf2,yf3,yf4⟩ := b4.f5
    have n12 := Xn12.out
    have n21 := Xn21.out
    have n10 := Xn10.out
    have n01 := Xn01.out
    have n20 := Xn20.out
    have n02 := Xn02.out
    have n13 := Xn13.out
    have n31 := Xn31.out
    have n23 := Xn23.out
    have n32 := Xn32.out
    go_region
    obtain ⟨V,hV,⟨e0,e1,e2⟩,⟨d0,d1,d2,d3,d4⟩,hsV⟩ := two_stores (W := W8) (g := g1) (g' := g2) Xn12.out r0 r1 r2 s0 s1 s2 s3 s4 (.slice RA6 NR.length rc6) (.int .i64 wo.clock) (.slice (some ⟨gC,0,none⟩) m cc) (.int .i64 0) (.bool false) (.string ⟨#[]⟩) (.int .i64 0) (.int .i64 0)
    rw [← hV]
    have hVb : ∀ q,q ≠ g1 → q ≠ g2 → V.drew.heap[q]? = W8.heap[q]? := fun q h1 h2 => by
     show V.heap[q]? = _
     rw [hV,Below.heap_setCell _ _ _ _ h2,Below.heap_setCell _ _ _ _ h2,Below.heap_setCell _ _ _ _ h2,Below.heap_setCell _ _ _ _ h2,Below.heap_setCell _ _ _ _ h2,Below.heap_setCell _ _ _ _ h1,Below.heap_setCell _ _ _ _ h1,Below.heap_setCell _ _ _ _ h1]
    have hVB : Below w.heap.size W8 V.drew := by
     obtain ⟨a0,a1,a2,_⟩ := HG.out
     have l1 : w.heap.size ≤ g1 := by omega
     have l2 : w.heap.size ≤ g2 := by omega
     refine Below.drew ?_
     rw [hV]
     exact ((((((((Below.refl _ _).setCell l1 _).setCell l1 _).setCell l1 _).setCell l2 _).setCell l2 _).setCell l2 _).setCell l2 _).setCell l2 _
    clear hV
    go_wp2
    exact bodyPost_ret (v := .tuple #[woV RA6 NR.length rc6 wo.clock (some ⟨gC,0,none⟩) m cc,.agg #[.int .i64 0,.bool false,.string ⟨#[]⟩,.int .i64 0,.int .i64 0]]) (by simp [results,Tryz.results22,go_sem,e0,e1,e2,d0,d1,d2,d3,d4]) rfl
     (by
       have hfin := ref_end2 (B := B) (N := N) (wr := W6) (W8 := W8) (W9 := V.drew) H.out (fun b h => by have := HXL.out b h; have := HG.out; omega) hB HB_W6.out hCm ⟨4,c.st,c.cm,c.ws,(q : Int) + 1⟩ (some ⟨wb,wof,none⟩) wk ⟨by show i64 4; unfold i64; omega,HOK.out.s,HOK.out.m,by show i64 ((q : Int) + 1); have := hwl; have := HQL.out; unfold i64; omega⟩ HWK.out HWS.out HW8.out hVB (by have := HG.out; omega) (fun q h1 _ => hVb q (by have := HG.out; omega) (by have := HG.out; omega)) HR_W6.out HC6.out (ck := wo.clock) H.out.ck
       rw [HE.out]
       exact ⟨_,rfl,RA6,rc6,rfl,hfin.1,hfin.2⟩)
  ·have e0 : (ue == 0) = false := beq_eq_false_iff_ne.2 he
   have HNE := Lib.hid (show (chgRow wo.rows y.k (commitOp c.st c.cm)).2 ≠ 0 from HCN.out he)
   by_cases hq1 : q = 0
   ·have q0' : ((q : Int) == 0) = true := by simpa using hq1
    have HNO := Lib.hid (HCB.out he)
    obtain ⟨uk,uls,ulp,uv,ur⟩ := U1
    dsimp only at HW5
    have HQ1 := Lib.hid hq1
    clear hq1
    go_upto_region 36 with (fail)
    rw [← HW5.out]
    have b0 := BoxIs.upto b0 HB45.out
    have b1 := BoxIs.upto b1 HB45.out
    have b2 := BoxIs.upto b2 HB45.out
    have b3 := BoxIs.upto b3 HB45.out
    have b4 := BoxIs.upto b4 HB45.out
    clear x0 x1 x2 o0 o1 o2 o3 o4 y0 y1 y2 y3 y4 xf0 xf1 xf2 of0 yf0 yf1 yf2 yf3 yf4
    obtain ⟨x0,x1,x2⟩ := b0.c3
    obtain ⟨o0,o1,o2,o3,o4⟩ := b3.c5
    obtain ⟨y0,y1,y2,y3,y4⟩ := b4.c5
    obtain ⟨xf0,xf1,xf2⟩ := b0.f3
    have of0 := b3.fr 0
    have yf0 := b4.fr 0
    obtain ⟨_,yf1,yf2,yf3,yf4⟩ := b4.f5
    go_upto_region 37 with (fail)
    obtain ⟨W8,hW8⟩ : ∃ W8,W8 = (W5.setCell ⟨g3,0,none⟩ (.int .i64 9)) := ⟨_,rfl⟩
    rw [← hW8]
    have b0 := BoxIs.to hW8 (.o1 b0 Xn03.out)
    have b1 := BoxIs.to hW8 (.o1 b1 Xn13.out)
    have b2 := BoxIs.to hW8 (.o1 b2 Xn23.out)
    have b3 : BoxIs W8 g3 [.int .i64 9,.bool false,.string ⟨#[]⟩,.int .i64 0,.int .i64 0] := BoxIs.to hW8 (.set b3 0 _)
    have b4 := BoxIs.to hW8 (.o1 b4 Xn43.out)
    have HW8 := Lib.hid hW8
    clear hW8
    have HB_W8 := Lib.hid (show Below w.heap.size w W8 by
     have hg := HG.out
     have l3 : w.heap.size ≤ g3 := by omega
     rw [HW8.out]
     exact (HB05.out).setCell l3 _)
    have HR_W8 := Lib.hid (show RowsAt W8 (fun b => (b < w.heap.size ∧ b ≠ gC ∧ ¬ X b) ∨ (N ≤ b ∧ b < W8.heap.size)) RA wo.rows from by
     have hs3 : W8.heap.size = W5.heap.size := by rw [HW8.out]; simp
     have hg := HG.out
     refine ((rows_turn H.out.rows (fun b hb => hb.1) HB05.out (fun b hb => .inl hb) : RowsAt W5 (fun b => (b < w.heap.size ∧ b ≠ gC ∧ ¬ X b) ∨ (N ≤ b ∧ b < W5.heap.size)) RA wo.rows)).rows (fun b hb => ?_) (fun b k hb => World.cell?_of_block (w := W5) (a := ⟨b,k,none⟩) ?_)
     ·rcases hb with hb | hb
      ·exact .inl hb
      ·exact .inr ⟨hb.1,by omega⟩
     ·have n3 : b ≠ g3 := by rcases hb with hb | hb <;> omega
      rw [HW8.out,Below.heap_setCell _ _ _ _ n3])
    have hX' : ∀ b,(X b ∨ (w.heap.size ≤ b ∧ b < N)) → b < N := fun b hb => by
     have := HG.out
     rcases hb with hb | hb
     ·have := HXL.out b hb; omega
     ·exact hb.2
    have hRX : RefW w (fun b => X b ∨ (w.heap.size ≤ b ∧ b < N)) gC RA wo.rows.length rc m cc wo := H.out.apart (fun b hb hx e => by rcases e with e | e; exact hx e; omega)
    have H8 := Lib.hid (hRX.upto HB_W8.out)
    have HS8 := Lib.hid (show N ≤ W8.heap.size by
     have e8 : W8.heap.size = W5.heap.size := by rw [HW8.out]; simp
     have := HS1.out; have := HB14.out.size; have := HB45.out.size; omega)
    have HFA := Lib.hid (fun W (hW : Below W8.heap.size W8 W) => failed_any (X := fun b => X b ∨ (w.heap.size ≤ b ∧ b < N)) (B := B) (H8.out.upto hW) (fun b hb => Nat.lt_of_lt_of_le (hX' b hb) (Nat.le_trans HS8.out hW.size)) hB (C := C) (c := c) HCL.out HR.out (inB_true.1 HST.out).1 HWV.out)
    have HE2 := Lib.hid (show Z = (failW wo C c,ansCode 9) by rw [HE.out,HCW.out,if_pos ⟨HNE.out,H34.out.2 HQ1.out⟩])
    have HE := Lib.hid HE2.out
    clear x0 x1 x2 o0 o1 o2 o3 o4 y0 y1 y2 y3 y4 xf0 xf1 xf2 of0 yf0 yf1 yf2 yf3 yf4
    obtain ⟨x0,x1,x2⟩ := b0.c3
    obtain ⟨r0,r1,r2⟩ := b1.c3
    obtain ⟨s0,s1,s2,s3,s4⟩ := b2.c5
    obtain ⟨o0,o1,o2,o3,o4⟩ := b3.c5
    obtain ⟨y0,y1,y2,y3,y4⟩ := b4.c5
    obtain ⟨xf0,xf1,xf2⟩ := b0.f3
    obtain ⟨rf0,rf1,rf2⟩ := b1.f3
    obtain ⟨sf0,sf1,sf2,sf3,sf4⟩ := b2.f5
    obtain ⟨of0,of1,of2,of3,of4⟩ := b3.f5
    obtain ⟨yf0,yf1,yf2,yf3,yf4⟩ := b4.f5
    refine wp_region_held_drew (S := fun W => (W.cell? ⟨g0,0,none⟩ = some (.slice RA wo.rows.length rc) ∧ W.cell? ⟨g0,1,none⟩ = some (.int .i64 wo.clock) ∧ W.cell? ⟨g0,2,none⟩ = some (.slice (some ⟨gC,0,none⟩) m cc)) ∧ (W.cell? ⟨g3,0,none⟩ = some (.int .i64 9) ∧ W.cell? ⟨g3,1,none⟩ = some (.bool false) ∧ W.cell? ⟨g3,2,none⟩ = some (.string ⟨#[]⟩) ∧ W.cell? ⟨g3,3,none⟩ = some (.int .i64 0) ∧ W.cell? ⟨g3,4,none⟩ = some (.int .i64 0))) (by kernel_rfl) ?_ (fun hHeld => ?_)
    ·exact ⟨⟨x0,x1,x2⟩,⟨o0,o1,o2,o3,o4⟩⟩
    refine tq 0 ?_
    refine tq 1 ?_
    refine tq 3 ?_
    (refine cop 2 (h := fun K hK => ?_); go_simp)
    refine (HFA.out _ (below_drew (Below.refl _ _))).mono ?_
    rintro e w5 ⟨v5,rfl,RA5,rc5,rfl,hw5,hk5⟩
    have b0 : BoxIs w5 g0 [.slice RA wo.rows.length rc,.int .i64 wo.clock,.slice (some ⟨gC,0,none⟩) m cc] := BoxIs.blk b0 (hk5.z g0 b0.lt Xk0.out)
    have b1 : BoxIs w5 g1 [.slice none 0 0,.int .i64 0,.slice none 0 0] := BoxIs.blk b1 (hk5.z g1 b1.lt Xk1.out)
    have b2 : BoxIs w5 g2 [.int .i64 0,.bool false,.string ⟨#[]⟩,.int .i64 0,.int .i64 0] := BoxIs.blk b2 (hk5.z g2 b2.lt Xk2.out)
    have b3 : BoxIs w5 g3 [.int .i64 9,.bool false,.string ⟨#[]⟩,.int .i64 0,.int .i64 0] := BoxIs.blk b3 (hk5.z g3 b3.lt Xk3.out)
    have b4 : BoxIs w5 g4 [.int .i64 c.ph,.int .i64 c.st,.int .i64 c.cm,.slice (some ⟨wb,wof,none⟩) c.ws.length wk,.int .i64 (q : Int)] := BoxIs.blk b4 (hk5.z g4 b4.lt Xk4.out)
    obtain ⟨F,hF⟩ : ∃ F,F = failW wo C c := ⟨_,rfl⟩
    rw [← hF] at HE hw5 ⊢
    have HW5 := Lib.hid hw5
    have HK5 := Lib.hid hk5
    clear HE2 hF hw5 hk5 hHeld
    clear x0 x1 x2 r0 r1 r2 s0 s1 s2 s3 s4 o0 o1 o2 o3 o4 y0 y1 y2 y3 y4 xf0 xf1 xf2 rf0 rf1 rf2 sf0 sf1 sf2 sf3 sf4 of0 of1 of2 of3 of4 yf0 yf1 yf2 yf3 yf4
    obtain ⟨x0,x1,x2⟩ := b0.c3
    obtain ⟨r0,r1,r2⟩ := b1.c3
    obtain ⟨s0,s1,s2,s3,s4⟩ := b2.c5
    obtain ⟨o0,o1,o2,o3,o4⟩ := b3.c5
    obtain ⟨y0,y1,y2,y3,y4⟩ := b4.c5
    obtain ⟨xf0,xf1,xf2⟩ := b0.f3
    obtain ⟨rf0,rf1,rf2⟩ := b1.f3
    obtain ⟨sf0,sf1,sf2,sf3,sf4⟩ := b2.f5
    obtain ⟨of0,of1,of2,of3,of4⟩ := b3.f5
    obtain ⟨yf0,yf1,yf2,yf3,yf4⟩ := b4.f5
    (refine hK.out _ _ ?_ (fun hHeld => ?_); exact ⟨⟨x0,x1,x2⟩,⟨o0,o1,o2,o3,o4⟩⟩; clear hK K)
    (refine cop 4 (h := fun K hK => ?_); go_simp)
    obtain ⟨W9,hW9⟩ : ∃ W9,W9 = ((w5.setCell ⟨g1,0,none⟩ (.slice RA5 F.rows.length rc5)).setCell ⟨g1,1,none⟩ (.int .i64 F.clock)).setCell ⟨g1,2,none⟩ (.slice (some ⟨gC,0,none⟩) m cc) := ⟨_,rfl⟩
    rw [← hW9]
    have k9 : ∀ q,q ≠ g1 → W9.heap[q]? = w5.heap[q]? := fun q h => by rw [hW9,Below.heap_setCell _ _ _ _ h,Below.heap_setCell _ _ _ _ h,Below.heap_setCell _ _ _ _ h]
    have d1 : BoxIs W9 g1 [.slice RA5 F.rows.length rc5,.int .i64 F.clock,.slice (some ⟨gC,0,none⟩) m cc] := by rw [hW9]; exact ((b1.set 0 _).set 1 _).set 2 _
    have d0 : BoxIs W9 g0 _ := BoxIs.blk b0 (k9 g0 Xn01.out)
    have d2 : BoxIs W9 g2 [.int .i64 0,.bool false,.string ⟨#[]⟩,.int .i64 0,.int .i64 0] := BoxIs.blk b2 (k9 g2 Xn21.out)
    have d3 : BoxIs W9 g3 _ := BoxIs.blk b3 (k9 g3 Xn31.out)
    have hs9 : W9.heap.size = w5.heap.size := by rw [hW9]; simp
    have K9 := Lib.hid k9
    have HS9 := Lib.hid hs9
    have hB59 : Below w.heap.size w5 W9 := by
     have hl : w.heap.size ≤ g1 := by have := HG.out; omega
     rw [hW9]; exact (((Below.refl _ _).setCell hl _).setCell hl _).setCell hl _
    have HB59 := Lib.hid hB59
    have hx := d0.c3
    have ho := d3.c5
    clear hHeld hW9 k9 hs9 hB59
    clear x0 x1 x2 r0 r1 r2 s0 s1 s2 s3 s4 o0 o1 o2 o3 o4 y0 y1 y2 y3 y4 xf0 xf1 xf2 rf0 rf1 rf2 sf0 sf1 sf2 sf3 sf4 of0 of1 of2 of3 of4 yf0 yf1 yf2 yf3 yf4
    (refine hK.out _ _ ?_ (fun hHeld => ?_); exact ⟨hx,ho⟩; clear hK K)
    obtain ⟨s0,s1,s2,s3,s4⟩ := d2.c5
    obtain ⟨sf0,sf1,sf2,sf3,sf4⟩ := d2.f5
    clear hHeld
    (refine cop 5 (h := fun K hK => ?_); go_simp)
    obtain ⟨V,hV⟩ : ∃ V,V = ((((W9.setCell ⟨g2,0,none⟩ (.int .i64 9)).setCell ⟨g2,1,none⟩ (.bool false)).setCell ⟨g2,2,none⟩ (.string ⟨#[]⟩)).setCell ⟨g2,3,none⟩ (.int .i64 0)).setCell ⟨g2,4,none⟩ (.int .i64 0) := ⟨_,rfl⟩
    rw [← hV]
    have kV : ∀ q,q ≠ g2 → V.heap[q]? = W9.heap[q]? := fun q h => by rw [hV,Below.heap_setCell _ _ _ _ h,Below.heap_setCell _ _ _ _ h,Below.heap_setCell _ _ _ _ h,Below.heap_setCell _ _ _ _ h,Below.heap_setCell _ _ _ _ h]
    have f1 : BoxIs V g1 _ := BoxIs.blk d1 (kV g1 Xn12.out)
    have f0 : BoxIs V g0 _ := BoxIs.blk d0 (kV g0 Xn02.out)
    have f3 : BoxIs V g3 _ := BoxIs.blk d3 (kV g3 Xn32.out)
    have f2 : BoxIs V g2 [.int .i64 9,.bool false,.string ⟨#[]⟩,.int .i64 0,.int .i64 0] := by rw [hV]; exact ((((d2.set 0 _).set 1 _).set 2 _).set 3 _).set 4 _
    have hsV : V.heap.size = W9.heap.size := by rw [hV]; simp
    have hB9V : Below w.heap.size W9 V := by
     have hl : w.heap.size ≤ g2 := by have := HG.out; omega
     rw [hV]; exact (((((Below.refl _ _).setCell hl _).setCell hl _).setCell hl _).setCell hl _).setCell hl _
    have KV := Lib.hid kV
    have HSV := Lib.hid hsV
    have HB9V := Lib.hid hB9V
    have hx' := f0.c3
    have ho' := f3.c5
    clear hV kV hsV hB9V s0 s1 s2 s3 s4 sf0 sf1 sf2 sf3 sf4
    (refine hK.out _ _ ?_ (fun hHeld => ?_); exact ⟨hx',ho'⟩; clear hK K)
    refine wpAnyH_done (by kernel_rfl) ?_ _
    clear hHeld
    obtain ⟨e0,e1,e2⟩ := f1.c3
    obtain ⟨d0',d1',d2',d3',d4'⟩ := f2.c5
    go_wp2
    exact bodyPost_ret (v := .tuple #[woV RA5 F.rows.length rc5 F.clock (some ⟨gC,0,none⟩) m cc,.agg #[.int .i64 9,.bool false,.string ⟨#[]⟩,.int .i64 0,.int .i64 0]]) (by simp [results,Tryz.results22,go_sem,e0,e1,e2,d0',d1',d2',d3',d4']) rfl
     (by
       have hg := HG.out
       have o9 : ∀ b,b ≠ g1 → b ≠ g2 → V.heap[b]? = w5.heap[b]? := fun b h1 h2 => (KV.out b h2).trans (K9.out b h1)
       have hRV := (HW5.out.turned (w' := V) (HSV.out.trans HS9.out) (o9 gC Xm1.out Xm2.out) (fun b hb => o9 b (fun e => hb (.inr (by omega))) (fun e => hb (.inr (by omega))))).apart (X' := X) (fun b _ hx e => hx (.inl e))
       have hw8 : Below w.heap.size w W8.drew := Below.drew HB_W8.out
       have hs8 := hw8.size
       rw [HE.out]
       exact ⟨_,rfl,RA5,rc5,rfl,hRV,⟨(((hw8.mono (by omega)).trans HK5.out.bel).trans (HB59.out.mono (by omega))).trans (HB9V.out.mono (by omega)),fun b hb hne => (o9 b (by omega) (by omega)).trans ((HK5.out.z b (by omega) hne).trans (hw8.block b hb))⟩⟩)
   ·have q0' : ((q : Int) == 0) = false := by simpa using hq1
    have HNO := Lib.hid (HCB.out he)
    obtain ⟨uk,uls,ulp,uv,ur⟩ := U1
    dsimp only at HW5
    go_upto_region 38 with (fail)
    rw [← HW5.out]
    have b0 := BoxIs.upto b0 HB45.out
    have b1 := BoxIs.upto b1 HB45.out
    have b2 := BoxIs.upto b2 HB45.out
    have b3 := BoxIs.upto b3 HB45.out
    have b4 := BoxIs.upto b4 HB45.out
    clear x0 x1 x2 o0 o1 o2 o3 o4 y0 y1 y2 y3 y4 xf0 xf1 xf2 of0 yf0 yf1 yf2 yf3 yf4
    obtain ⟨x0,x1,x2⟩ := b0.c3
    obtain ⟨o0,o1,o2,o3,o4⟩ := b3.c5
    obtain ⟨y0,y1,y2,y3,y4⟩ := b4.c5
    obtain ⟨xf0,xf1,xf2⟩ := b0.f3
    have of0 := b3.fr 0
    have yf0 := b4.fr 0
    obtain ⟨_,yf1,yf2,yf3,yf4⟩ := b4.f5
    by_cases hla : (q : Int) + 1 = c.ws.length
    ·have hl1 : (((q : Int) + 1) == (c.ws.length : Int)) = true := beq_iff_eq.2 hla
     have HLA := Lib.hid hla
     clear hla
     have HE2 := Lib.hid (show Z = (⟨wo.rows,wo.clock,wo.cls.set C idleC⟩,ansCode 0) by rw [HE.out,HCW.out,if_neg (fun h => hq1 (H34.out.1 h.2)),if_pos HLA.out,HNO.out])
     have HE := Lib.hid HE2.out
     go_upto_region 42 with (fail)
     obtain ⟨W6,hW6⟩ : ∃ W6,W6 = (((((((W5.setCell ⟨g4,0,none⟩ (.int .i64 4)).setCell ⟨g4,4,none⟩ (.int .i64 ((q : Int) + 1))).setCell ⟨g4,0,none⟩ (.int .i64 0)).setCell ⟨g4,1,none⟩ (.int .i64 0)).setCell ⟨g4,2,none⟩ (.int .i64 0)).setCell ⟨g4,3,none⟩ (.slice none 0 0)).setCell ⟨g4,4,none⟩ (.int .i64 0)) := ⟨_,rfl⟩
     rw [← hW6]
     have b0 := BoxIs.to hW6 (.o1 (.o1 (.o5 b0 Xn04.out) Xn04.out) Xn04.out)
     have b1 := BoxIs.to hW6 (.o1 (.o1 (.o5 b1 Xn14.out) Xn14.out) Xn14.out)
     have b2 := BoxIs.to hW6 (.o1 (.o1 (.o5 b2 Xn24.out) Xn24.out) Xn24.out)
     have b3 := BoxIs.to hW6 (.o1 (.o1 (.o5 b3 Xn34.out) Xn34.out) Xn34.out)
     have b4 : BoxIs W6 g4 [.int .i64 0,.int .i64 0,.int .i64 0,.slice none 0 0,.int .i64 0] := BoxIs.to hW6 (.set (.set (.set (.set (.set (.set (.set b4 0 _) 4 _) 0 _) 1 _) 2 _) 3 _) 4 _)
     have HW6 := Lib.hid hW6
     clear hW6
     have HB_W6 := Lib.hid (show Below w.heap.size w W6 by
      have hg := HG.out
      have l4 : w.heap.size ≤ g4 := by omega
      rw [HW6.out]
      exact (((((((HB05.out).setCell l4 _).setCell l4 _).setCell l4 _).setCell l4 _).setCell l4 _).setCell l4 _).setCell l4 _)
     have HR_W6 := Lib.hid (show RowsAt W6 (fun b => (b < w.heap.size ∧ b ≠ gC ∧ ¬ X b) ∨ (N ≤ b ∧ b < W6.heap.size)) RA wo.rows from by
      have hs3 : W6.heap.size = W5.heap.size := by rw [HW6.out]; simp
      have hg := HG.out
      refine ((rows_turn H.out.rows (fun b hb => hb.1) HB05.out (fun b hb => .inl hb) : RowsAt W5 (fun b => (b < w.heap.size ∧ b ≠ gC ∧ ¬ X b) ∨ (N ≤ b ∧ b < W5.heap.size)) RA wo.rows)).rows (fun b hb => ?_) (fun b k hb => World.cell?_of_block (w := W5) (a := ⟨b,k,none⟩) ?_)
      ·rcases hb with hb | hb
       ·exact .inl hb
       ·exact .inr ⟨hb.1,by omega⟩
      ·have n4 : b ≠ g4 := by rcases hb with hb | hb <;> omega
       rw [HW6.out,Below.heap_setCell _ _ _ _ n4,Below.heap_setCell _ _ _ _ n4,Below.heap_setCell _ _ _ _ n4,Below.heap_setCell _ _ _ _ n4,Below.heap_setCell _ _ _ _ n4,Below.heap_setCell _ _ _ _ n4,Below.heap_setCell _ _ _ _ n4])
     clear x0 x1 x2 o0 o1 o2 o3 o4 y0 y1 y2 y3 y4 xf0 xf1 xf2 of0 yf0 yf1 yf2 yf3 yf4
     obtain ⟨x0,x1,x2⟩ := b0.c3
     obtain ⟨o0,o1,o2,o3,o4⟩ := b3.c5
     obtain ⟨y0,y1,y2,y3,y4⟩ := b4.c5
     obtain ⟨xf0,xf1,xf2⟩ := b0.f3
     have of0 := b3.fr 0
     have yf0 := b4.fr 0
     obtain ⟨_,yf1,yf2,yf3,yf4⟩ := b4.f5
     have t0 := gcell H.out HB_W6.out hCm 0 (by omega)
     have t1 := gcell H.out HB_W6.out hCm 1 (by omega)
     have t2 := gcell H.out HB_W6.out hCm 2 (by omega)
     have t3 := gcell H.out HB_W6.out hCm 3 (by omega)
     have t4 := gcell H.out HB_W6.out hCm 4 (by omega)
     rw [Nat.add_zero] at t0
     obtain ⟨u0,t0,tf0⟩ := t0
     obtain ⟨u1,t1,tf1⟩ := t1
     obtain ⟨u2,t2,tf2⟩ := t2
     obtain ⟨u3,t3,tf3⟩ := t3
     obtain ⟨u4,t4,tf4⟩ := t4
     go_upto_region 43 with (fail)
     obtain ⟨W8,hW8⟩ : ∃ W8,W8 = (((((W6.setCell ⟨gC,C * 5,none⟩ (.int .i64 0)).setCell ⟨gC,C * 5 + 1,none⟩ (.int .i64 0)).setCell ⟨gC,C * 5 + 2,none⟩ (.int .i64 0)).setCell ⟨gC,C * 5 + 3,none⟩ (.slice none 0 0)).setCell ⟨gC,C * 5 + 4,none⟩ (.int .i64 0)) := ⟨_,rfl⟩
     rw [← hW8]
     have b0 := BoxIs.to hW8 (.o5 b0 Xk0.out)
     have b1 := BoxIs.to hW8 (.o5 b1 Xk1.out)
     have b2 := BoxIs.to hW8 (.o5 b2 Xk2.out)
     have b3 := BoxIs.to hW8 (.o5 b3 Xk3.out)
     have b4 := BoxIs.to hW8 (.o5 b4 Xk4.out)
     have HW8 := Lib.hid hW8
     clear hW8
     clear t0 t1 t2 t3 t4 tf0 tf1 tf2 tf3 tf4
     clear x0 x1 x2 o0 o1 o2 o3 o4 y0 y1 y2 y3 y4 xf0 xf1 xf2 of0 yf0 yf1 yf2 yf3 yf4
     obtain ⟨x0,x1,x2⟩ := b0.c3
     obtain ⟨r0,r1,r2⟩ := b1.c3
     obtain ⟨s0,s1,s2,s3,s4⟩ := b2.c5
     obtain ⟨o0,o1,o2,o3,o4⟩ := b3.c5
     obtain ⟨y0,y1,y2,y3,y4⟩ := b4.c5
     obtain ⟨xf0,xf1,xf2⟩ := b0.f3
     obtain ⟨rf0,rf1,rf2⟩ := b1.f3
     obtain ⟨sf0,sf1,sf2,sf3,sf4⟩ := b2.f5
     obtain ⟨of0,of1,of2,of3,of4⟩ := b3.f5
     obtain ⟨yf0,yf1,yf2,yf3,yf4⟩ := b4.f5
     have n12 := Xn12.out
     have n21 := Xn21.out
     have n10 := Xn10.out
     have n01 := Xn01.out
     have n20 := Xn20.out
     have n02 := Xn02.out
     have n13 := Xn13.out
     have n31 := Xn31.out
     have n23 := Xn23.out
     have n32 := Xn32.out
     go_region
     obtain ⟨V,hV,⟨e0,e1,e2⟩,⟨d0,d1,d2,d3,d4⟩,hsV⟩ := two_stores (W := W8) (g := g1) (g' := g2) Xn12.out r0 r1 r2 s0 s1 s2 s3 s4 (.slice RA wo.rows.length rc) (.int .i64 wo.clock) (.slice (some ⟨gC,0,none⟩) m cc) (.int .i64 0) (.bool false) (.string ⟨#[]⟩) (.int .i64 0) (.int .i64 0)
     rw [← hV]
     have hVb : ∀ q,q ≠ g1 → q ≠ g2 → V.drew.heap[q]? = W8.heap[q]? := fun q h1 h2 => by
      show V.heap[q]? = _
      rw [hV,Below.heap_setCell _ _ _ _ h2,Below.heap_setCell _ _ _ _ h2,Below.heap_setCell _ _ _ _ h2,Below.heap_setCell _ _ _ _ h2,Below.heap_setCell _ _ _ _ h2,Below.heap_setCell _ _ _ _ h1,Below.heap_setCell _ _ _ _ h1,Below.heap_setCell _ _ _ _ h1]
     have hVB : Below w.heap.size W8 V.drew := by
      obtain ⟨a0,a1,a2,_⟩ := HG.out
      have l1 : w.heap.size ≤ g1 := by omega
      have l2 : w.heap.size ≤ g2 := by omega
      refine Below.drew ?_
      rw [hV]
      exact ((((((((Below.refl _ _).setCell l1 _).setCell l1 _).setCell l1 _).setCell l2 _).setCell l2 _).setCell l2 _).setCell l2 _).setCell l2 _
     clear hV
     go_wp2
     exact bodyPost_ret (v := .tuple #[woV RA wo.rows.length rc wo.clock (some ⟨gC,0,none⟩) m cc,.agg #[.int .i64 0,.bool false,.string ⟨#[]⟩,.int .i64 0,.int .i64 0]]) (by simp [results,Tryz.results22,go_sem,e0,e1,e2,d0,d1,d2,d3,d4]) rfl
      (by
        have hfin := ref_end2 (B := B) (N := N) (wr := W6) (W8 := W8) (W9 := V.drew) H.out (fun b h => by have := HXL.out b h; have := HG.out; omega) hB HB_W6.out hCm idleC none 0 ⟨i64_zero,i64_zero,i64_zero,i64_zero⟩ (Nat.le_refl _) (SeqAt.nil_ _) HW8.out hVB (by have := HG.out; omega) (fun q h1 _ => hVb q (by have := HG.out; omega) (by have := HG.out; omega)) HR_W6.out H.out.hrc (ck := wo.clock) H.out.ck
        rw [HE.out]
        exact ⟨_,rfl,RA,rc,rfl,hfin.1,hfin.2⟩)
    ·have hl1 : (((q : Int) + 1) == (c.ws.length : Int)) = false := beq_eq_false_iff_ne.2 hla
     have HLA := Lib.hid hla
     clear hla
     have HE2 := Lib.hid (show Z = (⟨wo.rows,wo.clock,wo.cls.set C ⟨4,c.st,c.cm,c.ws,(q : Int) + 1⟩⟩,ansCode 0) by rw [HE.out,HCW.out,if_neg (fun h => hq1 (H34.out.1 h.2)),if_neg HLA.out,HNO.out])
     have HE := Lib.hid HE2.out
     go_upto_region 42 with (fail)
     obtain ⟨W6,hW6⟩ : ∃ W6,W6 = ((W5.setCell ⟨g4,0,none⟩ (.int .i64 4)).setCell ⟨g4,4,none⟩ (.int .i64 ((q : Int) + 1))) := ⟨_,rfl⟩
     rw [← hW6]
     have b0 := BoxIs.to hW6 (.o1 (.o1 b0 Xn04.out) Xn04.out)
     have b1 := BoxIs.to hW6 (.o1 (.o1 b1 Xn14.out) Xn14.out)
     have b2 := BoxIs.to hW6 (.o1 (.o1 b2 Xn24.out) Xn24.out)
     have b3 := BoxIs.to hW6 (.o1 (.o1 b3 Xn34.out) Xn34.out)
     have b4 : BoxIs W6 g4 [.int .i64 4,.int .i64 c.st,.int .i64 c.cm,.slice (some ⟨wb,wof,none⟩) c.ws.length wk,.int .i64 ((q : Int) + 1)] := BoxIs.to hW6 (.set (.set b4 0 _) 4 _)
     have HW6 := Lib.hid hW6
     clear hW6
     have HB_W6 := Lib.hid (show Below w.heap.size w W6 by
      have hg := HG.out
      have l4 : w.heap.size ≤ g4 := by omega
      rw [HW6.out]
      exact ((HB05.out).setCell l4 _).setCell l4 _)
     have HR_W6 := Lib.hid (show RowsAt W6 (fun b => (b < w.heap.size ∧ b ≠ gC ∧ ¬ X b) ∨ (N ≤ b ∧ b < W6.heap.size)) RA wo.rows from by
      have hs3 : W6.heap.size = W5.heap.size := by rw [HW6.out]; simp
      have hg := HG.out
      refine ((rows_turn H.out.rows (fun b hb => hb.1) HB05.out (fun b hb => .inl hb) : RowsAt W5 (fun b => (b < w.heap.size ∧ b ≠ gC ∧ ¬ X b) ∨ (N ≤ b ∧ b < W5.heap.size)) RA wo.rows)).rows (fun b hb => ?_) (fun b k hb => World.cell?_of_block (w := W5) (a := ⟨b,k,none⟩) ?_)
      ·rcases hb with hb | hb
       ·exact .inl hb
       ·exact .inr ⟨hb.1,by omega⟩
      ·have n4 : b ≠ g4 := by rcases hb with hb | hb <;> omega
       rw [HW6.out,Below.heap_setCell _ _ _ _ n4,Below.heap_setCell _ _ _ _ n4])
     clear x0 x1 x2 o0 o1 o2 o3 o4 y0 y1 y2 y3 y4 xf0 xf1 xf2 of0 yf0 yf1 yf2 yf3 yf4
     obtain ⟨x0,x1,x2⟩ := b0.c3
     obtain ⟨o0,o1,o2,o3,o4⟩ := b3.c5
     obtain ⟨y0,y1,y2,y3,y4⟩ := b4.c5
     obtain ⟨xf0,xf1,xf2⟩ := b0.f3
     have of0 := b3.fr 0
     have yf0 := b4.fr 0
     obtain ⟨_,yf1,yf2,yf3,yf4⟩ := b4.f5
     have t0 := gcell H.out HB_W6.out hCm 0 (by omega)
     have t1 := gcell H.out HB_W6.out hCm 1 (by omega)
     have t2 := gcell H.out HB_W6.out hCm 2 (by omega)
     have t3 := gcell H.out HB_W6.out hCm 3 (by omega)
     have t4 := gcell H.out HB_W6.out hCm 4 (by omega)
     rw [Nat.add_zero] at t0
     obtain ⟨u0,t0,tf0⟩ := t0
     obtain ⟨u1,t1,tf1⟩ := t1
     obtain ⟨u2,t2,tf2⟩ := t2
     obtain ⟨u3,t3,tf3⟩ := t3
     obtain ⟨u4,t4,tf4⟩ := t4
     go_upto_region 43 with (fail)
     obtain ⟨W8,hW8⟩ : ∃ W8,W8 = (((((W6.setCell ⟨gC,C * 5,none⟩ (.int .i64 4)).setCell ⟨gC,C * 5 + 1,none⟩ (.int .i64 c.st)).setCell ⟨gC,C * 5 + 2,none⟩ (.int .i64 c.cm)).setCell ⟨gC,C * 5 + 3,none⟩ (.slice (some ⟨wb,wof,none⟩) c.ws.length wk)).setCell ⟨gC,C * 5 + 4,none⟩ (.int .i64 ((q : Int) + 1))) := ⟨_,rfl⟩
     rw [← hW8]
     have b0 := BoxIs.to hW8 (.o5 b0 Xk0.out)
     have b1 := BoxIs.to hW8 (.o5 b1 Xk1.out)
     have b2 := BoxIs.to hW8 (.o5 b2 Xk2.out)
     have b3 := BoxIs.to hW8 (.o5 b3 Xk3.out)
     have b4 := BoxIs.to hW8 (.o5 b4 Xk4.out)
     have HW8 := Lib.hid hW8
     clear hW8
     clear t0 t1 t2 t3 t4 tf0 tf1 tf2 tf3 tf4
     clear x0 x1 x2 o0 o1 o2 o3 o4 y0 y1 y2 y3 y4 xf0 xf1 xf2 of0 yf0 yf1 yf2 yf3 yf4
     obtain ⟨x0,x1,x2⟩ := b0.c3
     obtain ⟨r0,r1,r2⟩ := b1.c3
     obtain ⟨s0,s1,s2,s3,s4⟩ := b2.c5
     obtain ⟨o0,o1,o2,o3,o4⟩ := b3.c5
     obtain ⟨y0,y1,y2,y3,y4⟩ := b4.c5
     obtain ⟨xf0,xf1,xf2⟩ := b0.f3
     obtain ⟨rf0,rf1,rf2⟩ := b1.f3
     obtain ⟨sf0,sf1,sf2,sf3,sf4⟩ := b2.f5
     obtain ⟨of0,of1,of2,of3,of4⟩ := b3.f5
     obtain ⟨yf0,yf1,yf2,yf3,yf4⟩ := b4.f5
     have n12 := Xn12.out
     have n21 := Xn21.out
     have n10 := Xn10.out
     have n01 := Xn01.out
     have n20 := Xn20.out
     have n02 := Xn02.out
     have n13 := Xn13.out
     have n31 := Xn31.out
     have n23 := Xn23.out
     have n32 := Xn32.out
     go_region
     obtain ⟨V,hV,⟨e0,e1,e2⟩,⟨d0,d1,d2,d3,d4⟩,hsV⟩ := two_stores (W := W8) (g := g1) (g' := g2) Xn12.out r0 r1 r2 s0 s1 s2 s3 s4 (.slice RA wo.rows.length rc) (.int .i64 wo.clock) (.slice (some ⟨gC,0,none⟩) m cc) (.int .i64 0) (.bool false) (.string ⟨#[]⟩) (.int .i64 0) (.int .i64 0)
     rw [← hV]
     have hVb : ∀ q,q ≠ g1 → q ≠ g2 → V.drew.heap[q]? = W8.heap[q]? := fun q h1 h2 => by
      show V.heap[q]? = _
      rw [hV,Below.heap_setCell _ _ _ _ h2,Below.heap_setCell _ _ _ _ h2,Below.heap_setCell _ _ _ _ h2,Below.heap_setCell _ _ _ _ h2,Below.heap_setCell _ _ _ _ h2,Below.heap_setCell _ _ _ _ h1,Below.heap_setCell _ _ _ _ h1,Below.heap_setCell _ _ _ _ h1]
     have hVB : Below w.heap.size W8 V.drew := by
      obtain ⟨a0,a1,a2,_⟩ := HG.out
      have l1 : w.heap.size ≤ g1 := by omega
      have l2 : w.heap.size ≤ g2 := by omega
      refine Below.drew ?_
      rw [hV]
      exact ((((((((Below.refl _ _).setCell l1 _).setCell l1 _).setCell l1 _).setCell l2 _).setCell l2 _).setCell l2 _).setCell l2 _).setCell l2 _
     clear hV
     go_wp2
     exact bodyPost_ret (v := .tuple #[woV RA wo.rows.length rc wo.clock (some ⟨gC,0,none⟩) m cc,.agg #[.int .i64 0,.bool false,.string ⟨#[]⟩,.int .i64 0,.int .i64 0]]) (by simp [results,Tryz.results22,go_sem,e0,e1,e2,d0,d1,d2,d3,d4]) rfl
      (by
        have hfin := ref_end2 (B := B) (N := N) (wr := W6) (W8 := W8) (W9 := V.drew) H.out (fun b h => by have := HXL.out b h; have := HG.out; omega) hB HB_W6.out hCm ⟨4,c.st,c.cm,c.ws,(q : Int) + 1⟩ (some ⟨wb,wof,none⟩) wk ⟨by show i64 4; unfold i64; omega,HOK.out.s,HOK.out.m,by show i64 ((q : Int) + 1); have := hwl; have := HQL.out; unfold i64; omega⟩ HWK.out HWS.out HW8.out hVB (by have := HG.out; omega) (fun q h1 _ => hVb q (by have := HG.out; omega) (by have := HG.out; omega)) HR_W6.out H.out.hrc (ck := wo.clock) H.out.ck
        rw [HE.out]
        exact ⟨_,rfl,RA,rc,rfl,hfin.1,hfin.2⟩)
end
end Go.Proofs.YtambkjnhfejfaaaGreat
