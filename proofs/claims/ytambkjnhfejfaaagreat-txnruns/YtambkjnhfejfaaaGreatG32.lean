/-
  Contracts of functions of the program and words for memory, several texts in one: RStep. Conditions: those stated with each.
-/
import Derived.Test.YtambkjnhfejfaaaGreatG30
namespace Go.Proofs.YtambkjnhfejfaaaGreat
open Go.RowKit
set_option linter.unusedVariables false
def StepOut (X : Nat → Prop) (gC m cc B : Nat) (x : WoM × AnsM) (w : World) (e : Ending) (w' : World) : Prop := ∃ v, e = .returned (.tuple #[v, ansV x.2]) ∧ WOut X gC m cc B x.1 w v w'
theorem BoxIs.to {W W' : World} {g : Nat} {vals : List Value} (e : W' = W) (h : BoxIs W g vals) : BoxIs W' g vals := e ▸ h
theorem BoxIs.o1 {W : World} {g g' i : Nat} {v : Value} {vals : List Value} (h : BoxIs W g vals) (n : g ≠ g') : BoxIs (W.setCell ⟨g', i, none⟩ v) g vals := h.other v n
theorem BoxIs.o3 {W : World} {g g' i0 i1 i2 : Nat} {v0 v1 v2 : Value} {vals : List Value} (h : BoxIs W g vals) (n : g ≠ g') : BoxIs (((W.setCell ⟨g', i0, none⟩ v0).setCell ⟨g', i1, none⟩ v1).setCell ⟨g', i2, none⟩ v2) g vals := ((h.other v0 n).other v1 n).other v2 n
theorem BoxIs.o5 {W : World} {g g' i0 i1 i2 i3 i4 : Nat} {v0 v1 v2 v3 v4 : Value} {vals : List Value} (h : BoxIs W g vals) (n : g ≠ g') : BoxIs (((((W.setCell ⟨g', i0, none⟩ v0).setCell ⟨g', i1, none⟩ v1).setCell ⟨g', i2, none⟩ v2).setCell ⟨g', i3, none⟩ v3).setCell ⟨g', i4, none⟩ v4) g vals := ((((h.other v0 n).other v1 n).other v2 n).other v3 n).other v4 n
theorem gcell {w W : World} {gC : Nat} {RA : Option Addr} {n rc m cc C : Nat} {wo : WoM} {X : Nat → Prop} (h : RefW w X gC RA n rc m cc wo) (hb : Below w.heap.size w W) (hC : C < m) (j : Nat) (hj : j < 5) : ∃ v, W.cell? ⟨gC, C * 5 + j, none⟩ = some v ∧ W.frozen? ⟨gC, C * 5 + j, none⟩ = false := by
 obtain ⟨v, h1, h2⟩ := h.cell hC j hj
 exact ⟨v, (hb.cell (p := ⟨gC, C * 5 + j, none⟩) h.lt).trans h1, (hb.frozen (p := ⟨gC, C * 5 + j, none⟩) h.lt).trans h2⟩
section
variable {w : World} {X : Nat → Prop} {gC B : Nat} {RA : Option Addr} {n rc m cc C : Nat} {wo : WoM} {c : ClM}
set_option maxRecDepth 100000 in
set_option maxHeartbeats 16000000 in
theorem stepped_idle (h : RefW w X gC RA n rc m cc wo) (hX : ∀ b, X b → b < w.heap.size) (hB : B ≤ gC) (hc : wo.cls[C]? = some c) (hph : c.ph = 0) :
 Calls Tryz.prog 22 #[woV RA n rc wo.clock (some ⟨gC, 0, none⟩) m cc, .int .i64 C] w (StepOut X gC m cc B (stepW wo C c) w) := by
 have HPH := Lib.hid hph
 have HE := Lib.hid (show stepW wo C c = (wo, ansCode 6) by rw [stepW, if_neg (by omega), if_neg (by omega), if_neg (by omega)])
 clear hph
 obtain ⟨Z, hZ⟩ : ∃ Z, Z = stepW wo C c := ⟨_, rfl⟩
 rw [← hZ] at HE ⊢
 clear hZ
 have hn := h.hn
 subst hn
 have hCm : C < m := by rw [h.hm]; exact (List.getElem?_eq_some_iff.1 hc).1
 have hcl := h.cls C c hc
 obtain ⟨WA, wk, q3, hwk, hws⟩ := hcl.cw
 have q0 := hcl.cp
 have q1 := hcl.cs
 have q2 := hcl.cm
 have q4 := hcl.ca
 have hcok := hcl.ok
 have hgl : gC < w.heap.size := h.lt
 have hgl1 : gC < w.heap.size + 1 := by omega
 have hgl2 : gC < w.heap.size + 1 + 1 := by omega
 have hgl3 : gC < w.heap.size + 1 + 1 + 1 := by omega
 have hgl4 : gC < w.heap.size + 1 + 1 + 1 + 1 := by omega
 have hcc := h.hcc
 have hwl : c.ws.length ≤ 4398046511104 := hws.1
 obtain ⟨W0, hW0, hb0, hs0, b0, b1, b2, b3, b4⟩ := five_boxes w #[.slice RA wo.rows.length rc, .int .i64 wo.clock, .slice (some ⟨gC, 0, none⟩) m cc] #[.slice none 0 0, .int .i64 0, .slice none 0 0] #[.int .i64 0, .bool false, .string ⟨#[]⟩, .int .i64 0, .int .i64 0] #[.int .i64 0, .bool false, .string ⟨#[]⟩, .int .i64 0, .int .i64 0] #[.int .i64 c.ph, .int .i64 c.st, .int .i64 c.cm, .slice WA c.ws.length wk, .int .i64 c.at_] 25 25 31 31 49
 have H := Lib.hid h
 have HXL := Lib.hid hX
 have HW0 := Lib.hid hW0
 have HB0 := Lib.hid hb0
 have HCL := Lib.hid hc
 have HWS := Lib.hid hws
 have HOK := Lib.hid hcok
 have HWK := Lib.hid hwk
 have j0 : (0 : Int) ≤ (C : Int) := by omega
 have j1 : (C : Int) < (m : Int) := by omega
 clear h hX hb0 hW0 hcl hc hws hcok hwk
 go_enter Tryz.func22, Tryz.ntmps22
 go_upto_region 4 with (fail)
 rw [← HW0.out]
 obtain ⟨g4, hg4⟩ : ∃ g4, g4 = w.heap.size + 1 + 1 + 1 + 1 := ⟨_, rfl⟩
 rw [← hg4] at b4 ⊢
 obtain ⟨g3, hg3⟩ : ∃ g3, g3 = w.heap.size + 1 + 1 + 1 := ⟨_, rfl⟩
 rw [← hg3] at b3 ⊢
 obtain ⟨g2, hg2⟩ : ∃ g2, g2 = w.heap.size + 1 + 1 := ⟨_, rfl⟩
 rw [← hg2] at b2 ⊢
 obtain ⟨g1, hg1⟩ : ∃ g1, g1 = w.heap.size + 1 := ⟨_, rfl⟩
 rw [← hg1] at b1 ⊢
 obtain ⟨g0, hg0⟩ : ∃ g0, g0 = w.heap.size := ⟨_, rfl⟩
 rw [← hg0] at b0 ⊢
 obtain ⟨N, hN⟩ : ∃ N, N = W0.heap.size := ⟨_, rfl⟩
 have HG := Lib.hid (show (g0 = w.heap.size ∧ g1 = w.heap.size + 1 ∧ g2 = w.heap.size + 2 ∧ g3 = w.heap.size + 3 ∧ g4 = w.heap.size + 4 ∧ N = w.heap.size + 5) from ⟨hg0, hg1, by omega, by omega, by omega, by omega⟩)
 have HN := Lib.hid hN
 have n01 : g0 ≠ g1 := by omega
 have n02 : g0 ≠ g2 := by omega
 have n03 : g0 ≠ g3 := by omega
 have n04 : g0 ≠ g4 := by omega
 have n10 : g1 ≠ g0 := by omega
 have n12 : g1 ≠ g2 := by omega
 have n13 : g1 ≠ g3 := by omega
 have n14 : g1 ≠ g4 := by omega
 have n20 : g2 ≠ g0 := by omega
 have n21 : g2 ≠ g1 := by omega
 have n23 : g2 ≠ g3 := by omega
 have n24 : g2 ≠ g4 := by omega
 have n30 : g3 ≠ g0 := by omega
 have n31 : g3 ≠ g1 := by omega
 have n32 : g3 ≠ g2 := by omega
 have n34 : g3 ≠ g4 := by omega
 have n40 : g4 ≠ g0 := by omega
 have n41 : g4 ≠ g1 := by omega
 have n42 : g4 ≠ g2 := by omega
 have n43 : g4 ≠ g3 := by omega
 have m0 : gC ≠ g0 := by omega
 have m1 : gC ≠ g1 := by omega
 have m2 : gC ≠ g2 := by omega
 have m3 : gC ≠ g3 := by omega
 have m4 : gC ≠ g4 := by omega
 have k0 : g0 ≠ gC := by omega
 have k1 : g1 ≠ gC := by omega
 have k2 : g2 ≠ gC := by omega
 have k3 : g3 ≠ gC := by omega
 have k4 : g4 ≠ gC := by omega
 have Xn01 := Lib.hid n01
 have Xn02 := Lib.hid n02
 have Xn03 := Lib.hid n03
 have Xn04 := Lib.hid n04
 have Xn10 := Lib.hid n10
 have Xn12 := Lib.hid n12
 have Xn13 := Lib.hid n13
 have Xn14 := Lib.hid n14
 have Xn20 := Lib.hid n20
 have Xn21 := Lib.hid n21
 have Xn23 := Lib.hid n23
 have Xn24 := Lib.hid n24
 have Xn30 := Lib.hid n30
 have Xn31 := Lib.hid n31
 have Xn32 := Lib.hid n32
 have Xn34 := Lib.hid n34
 have Xn40 := Lib.hid n40
 have Xn41 := Lib.hid n41
 have Xn42 := Lib.hid n42
 have Xn43 := Lib.hid n43
 have Xm0 := Lib.hid m0
 have Xm1 := Lib.hid m1
 have Xm2 := Lib.hid m2
 have Xm3 := Lib.hid m3
 have Xm4 := Lib.hid m4
 have Xk0 := Lib.hid k0
 have Xk1 := Lib.hid k1
 have Xk2 := Lib.hid k2
 have Xk3 := Lib.hid k3
 have Xk4 := Lib.hid k4
 clear hg0 hg1 hg2 hg3 hg4 hs0 hN hgl1 hgl2 hgl3 hgl4 q0 q1 q2 q3 q4
 clear n01 n02 n10 n12 n13 n14 n20 n21 n23 n24 n31 n32 n41 n42 m1 m2 k1 k2
 obtain ⟨x0, x1, x2⟩ := b0.c3
 obtain ⟨r0, r1, r2⟩ := b1.c3
 obtain ⟨s0, s1, s2, s3, s4⟩ := b2.c5
 obtain ⟨o0, o1, o2, o3, o4⟩ := b3.c5
 obtain ⟨y0, y1, y2, y3, y4⟩ := b4.c5
 obtain ⟨xf0, xf1, xf2⟩ := b0.f3
 obtain ⟨rf0, rf1, rf2⟩ := b1.f3
 obtain ⟨sf0, sf1, sf2, sf3, sf4⟩ := b2.f5
 obtain ⟨of0, of1, of2, of3, of4⟩ := b3.f5
 obtain ⟨yf0, yf1, yf2, yf3, yf4⟩ := b4.f5
 rw [HPH.out] at y0
 go_upto_region 6 with (fail)
 obtain ⟨W1, hW1⟩ : ∃ W1, W1 = (W0.setCell ⟨g3, 0, none⟩ (.int .i64 6)) := ⟨_, rfl⟩
 rw [← hW1]
 have b0 := BoxIs.to hW1 (.o1 b0 Xn03.out)
 have b1 := BoxIs.to hW1 (.o1 b1 Xn13.out)
 have b2 := BoxIs.to hW1 (.o1 b2 Xn23.out)
 have b3 : BoxIs W1 g3 [.int .i64 6, .bool false, .string ⟨#[]⟩, .int .i64 0, .int .i64 0] := BoxIs.to hW1 (.set b3 0 _)
 have b4 := BoxIs.to hW1 (.o1 b4 Xn43.out)
 have HW1 := Lib.hid hW1
 clear hW1
 clear x0 x1 x2 r0 r1 r2 s0 s1 s2 s3 s4 o0 o1 o2 o3 o4 y0 y1 y2 y3 y4 xf0 xf1 xf2 rf0 rf1 rf2 sf0 sf1 sf2 sf3 sf4 of0 of1 of2 of3 of4 yf0 yf1 yf2 yf3 yf4
 obtain ⟨x0, x1, x2⟩ := b0.c3
 obtain ⟨r0, r1, r2⟩ := b1.c3
 obtain ⟨s0, s1, s2, s3, s4⟩ := b2.c5
 obtain ⟨o0, o1, o2, o3, o4⟩ := b3.c5
 obtain ⟨y0, y1, y2, y3, y4⟩ := b4.c5
 obtain ⟨xf0, xf1, xf2⟩ := b0.f3
 obtain ⟨rf0, rf1, rf2⟩ := b1.f3
 obtain ⟨sf0, sf1, sf2, sf3, sf4⟩ := b2.f5
 obtain ⟨of0, of1, of2, of3, of4⟩ := b3.f5
 obtain ⟨yf0, yf1, yf2, yf3, yf4⟩ := b4.f5
 have n12 := Xn12.out
 have n21 := Xn21.out
 have n10 := Xn10.out
 have n01 := Xn01.out
 have n20 := Xn20.out
 have n02 := Xn02.out
 have n13 := Xn13.out
 have n31 := Xn31.out
 have n23 := Xn23.out
 have n32 := Xn32.out
 go_region
 obtain ⟨V, hV, ⟨e0, e1, e2⟩, ⟨d0, d1, d2, d3, d4⟩, hsV⟩ := two_stores (W := W1) (g := g1) (g' := g2) Xn12.out r0 r1 r2 s0 s1 s2 s3 s4 (.slice RA wo.rows.length rc) (.int .i64 wo.clock) (.slice (some ⟨gC, 0, none⟩) m cc) (.int .i64 6) (.bool false) (.string ⟨#[]⟩) (.int .i64 0) (.int .i64 0)
 rw [← hV]
 have hVb : ∀ q, q ≠ g1 → q ≠ g2 → V.drew.heap[q]? = W1.heap[q]? := fun q h1 h2 => by
  show V.heap[q]? = _
  rw [hV, Below.heap_setCell _ _ _ _ h2, Below.heap_setCell _ _ _ _ h2, Below.heap_setCell _ _ _ _ h2, Below.heap_setCell _ _ _ _ h2, Below.heap_setCell _ _ _ _ h2, Below.heap_setCell _ _ _ _ h1, Below.heap_setCell _ _ _ _ h1, Below.heap_setCell _ _ _ _ h1]
 have hVB : Below w.heap.size W1 V.drew := by
  obtain ⟨a0, a1, a2, _⟩ := HG.out
  have l1 : w.heap.size ≤ g1 := by omega
  have l2 : w.heap.size ≤ g2 := by omega
  refine Below.drew ?_
  rw [hV]
  exact ((((((((Below.refl _ _).setCell l1 _).setCell l1 _).setCell l1 _).setCell l2 _).setCell l2 _).setCell l2 _).setCell l2 _).setCell l2 _
 clear hV
 go_wp2
 exact bodyPost_ret (v := .tuple #[woV RA wo.rows.length rc wo.clock (some ⟨gC, 0, none⟩) m cc, .agg #[.int .i64 6, .bool false, .string ⟨#[]⟩, .int .i64 0, .int .i64 0]]) (by simp [results, Tryz.results22, go_sem, e0, e1, e2, d0, d1, d2, d3, d4]) rfl
  (by
    have hbw : Below w.heap.size w V.drew := (below_set (p := ⟨g3, 0, none⟩) HB0.out (by show w.heap.size ≤ g3; have := HG.out; omega) _).trans (by rw [← HW1.out]; exact hVB)
    rw [HE.out]
    exact ⟨_, rfl, RA, rc, rfl, H.out.upto hbw, Keeps.new (by omega) hbw⟩)
set_option maxRecDepth 100000 in
set_option maxHeartbeats 16000000 in
theorem stepped_empty (h : RefW w X gC RA n rc m cc wo) (hX : ∀ b, X b → b < w.heap.size) (hB : B ≤ gC) (hc : wo.cls[C]? = some c) (hph : c.ph = 1) (hl : c.ws.length = 0) :
 Calls Tryz.prog 22 #[woV RA n rc wo.clock (some ⟨gC, 0, none⟩) m cc, .int .i64 C] w (StepOut X gC m cc B (stepW wo C c) w) := by
 have HPH := Lib.hid hph
 have HL0 := Lib.hid hl
 have HE := Lib.hid (show stepW wo C c = (wo.setC C idleC, ansCode 0) by rw [stepW, if_pos hph, if_pos hl])
 clear hph hl
 obtain ⟨Z, hZ⟩ : ∃ Z, Z = stepW wo C c := ⟨_, rfl⟩
 rw [← hZ] at HE ⊢
 clear hZ
 have hn := h.hn
 subst hn
 have hCm : C < m := by rw [h.hm]; exact (List.getElem?_eq_some_iff.1 hc).1
 have hcl := h.cls C c hc
 obtain ⟨WA, wk, q3, hwk, hws⟩ := hcl.cw
 have q0 := hcl.cp
 have q1 := hcl.cs
 have q2 := hcl.cm
 have q4 := hcl.ca
 have hcok := hcl.ok
 have hgl : gC < w.heap.size := h.lt
 have hgl1 : gC < w.heap.size + 1 := by omega
 have hgl2 : gC < w.heap.size + 1 + 1 := by omega
 have hgl3 : gC < w.heap.size + 1 + 1 + 1 := by omega
 have hgl4 : gC < w.heap.size + 1 + 1 + 1 + 1 := by omega
 have hcc := h.hcc
 have hwl : c.ws.length ≤ 4398046511104 := hws.1
 obtain ⟨W0, hW0, hb0, hs0, b0, b1, b2, b3, b4⟩ := five_boxes w #[.slice RA wo.rows.length rc, .int .i64 wo.clock, .slice (some ⟨gC, 0, none⟩) m cc] #[.slice none 0 0, .int .i64 0, .slice none 0 0] #[.int .i64 0, .bool false, .string ⟨#[]⟩, .int .i64 0, .int .i64 0] #[.int .i64 0, .bool false, .string ⟨#[]⟩, .int .i64 0, .int .i64 0] #[.int .i64 c.ph, .int .i64 c.st, .int .i64 c.cm, .slice WA c.ws.length wk, .int .i64 c.at_] 25 25 31 31 49
 have H := Lib.hid h
 have HXL := Lib.hid hX
 have HW0 := Lib.hid hW0
 have HB0 := Lib.hid hb0
 have HCL := Lib.hid hc
 have HWS := Lib.hid hws
 have HOK := Lib.hid hcok
 have HWK := Lib.hid hwk
 have j0 : (0 : Int) ≤ (C : Int) := by omega
 have j1 : (C : Int) < (m : Int) := by omega
 clear h hX hb0 hW0 hcl hc hws hcok hwk
 go_enter Tryz.func22, Tryz.ntmps22
 go_upto_region 4 with (fail)
 rw [← HW0.out]
 obtain ⟨g4, hg4⟩ : ∃ g4, g4 = w.heap.size + 1 + 1 + 1 + 1 := ⟨_, rfl⟩
 rw [← hg4] at b4 ⊢
 obtain ⟨g3, hg3⟩ : ∃ g3, g3 = w.heap.size + 1 + 1 + 1 := ⟨_, rfl⟩
 rw [← hg3] at b3 ⊢
 obtain ⟨g2, hg2⟩ : ∃ g2, g2 = w.heap.size + 1 + 1 := ⟨_, rfl⟩
 rw [← hg2] at b2 ⊢
 obtain ⟨g1, hg1⟩ : ∃ g1, g1 = w.heap.size + 1 := ⟨_, rfl⟩
 rw [← hg1] at b1 ⊢
 obtain ⟨g0, hg0⟩ : ∃ g0, g0 = w.heap.size := ⟨_, rfl⟩
 rw [← hg0] at b0 ⊢
 obtain ⟨N, hN⟩ : ∃ N, N = W0.heap.size := ⟨_, rfl⟩
 have HG := Lib.hid (show (g0 = w.heap.size ∧ g1 = w.heap.size + 1 ∧ g2 = w.heap.size + 2 ∧ g3 = w.heap.size + 3 ∧ g4 = w.heap.size + 4 ∧ N = w.heap.size + 5) from ⟨hg0, hg1, by omega, by omega, by omega, by omega⟩)
 have HN := Lib.hid hN
 have n01 : g0 ≠ g1 := by omega
 have n02 : g0 ≠ g2 := by omega
 have n03 : g0 ≠ g3 := by omega
 have n04 : g0 ≠ g4 := by omega
 have n10 : g1 ≠ g0 := by omega
 have n12 : g1 ≠ g2 := by omega
 have n13 : g1 ≠ g3 := by omega
 have n14 : g1 ≠ g4 := by omega
 have n20 : g2 ≠ g0 := by omega
 have n21 : g2 ≠ g1 := by omega
 have n23 : g2 ≠ g3 := by omega
 have n24 : g2 ≠ g4 := by omega
 have n30 : g3 ≠ g0 := by omega
 have n31 : g3 ≠ g1 := by omega
 have n32 : g3 ≠ g2 := by omega
 have n34 : g3 ≠ g4 := by omega
 have n40 : g4 ≠ g0 := by omega
 have n41 : g4 ≠ g1 := by omega
 have n42 : g4 ≠ g2 := by omega
 have n43 : g4 ≠ g3 := by omega
 have m0 : gC ≠ g0 := by omega
 have m1 : gC ≠ g1 := by omega
 have m2 : gC ≠ g2 := by omega
 have m3 : gC ≠ g3 := by omega
 have m4 : gC ≠ g4 := by omega
 have k0 : g0 ≠ gC := by omega
 have k1 : g1 ≠ gC := by omega
 have k2 : g2 ≠ gC := by omega
 have k3 : g3 ≠ gC := by omega
 have k4 : g4 ≠ gC := by omega
 have Xn01 := Lib.hid n01
 have Xn02 := Lib.hid n02
 have Xn03 := Lib.hid n03
 have Xn04 := Lib.hid n04
 have Xn10 := Lib.hid n10
 have Xn12 := Lib.hid n12
 have Xn13 := Lib.hid n13
 have Xn14 := Lib.hid n14
 have Xn20 := Lib.hid n20
 have Xn21 := Lib.hid n21
 have Xn23 := Lib.hid n23
 have Xn24 := Lib.hid n24
 have Xn30 := Lib.hid n30
 have Xn31 := Lib.hid n31
 have Xn32 := Lib.hid n32
 have Xn34 := Lib.hid n34
 have Xn40 := Lib.hid n40
 have Xn41 := Lib.hid n41
 have Xn42 := Lib.hid n42
 have Xn43 := Lib.hid n43
 have Xm0 := Lib.hid m0
 have Xm1 := Lib.hid m1
 have Xm2 := Lib.hid m2
 have Xm3 := Lib.hid m3
 have Xm4 := Lib.hid m4
 have Xk0 := Lib.hid k0
 have Xk1 := Lib.hid k1
 have Xk2 := Lib.hid k2
 have Xk3 := Lib.hid k3
 have Xk4 := Lib.hid k4
 clear hg0 hg1 hg2 hg3 hg4 hs0 hN hgl1 hgl2 hgl3 hgl4 q0 q1 q2 q3 q4
 clear n01 n02 n10 n12 n13 n14 n20 n21 n23 n24 n31 n32 n41 n42 m1 m2 k1 k2
 obtain ⟨x0, x1, x2⟩ := b0.c3
 obtain ⟨r0, r1, r2⟩ := b1.c3
 obtain ⟨s0, s1, s2, s3, s4⟩ := b2.c5
 obtain ⟨o0, o1, o2, o3, o4⟩ := b3.c5
 obtain ⟨y0, y1, y2, y3, y4⟩ := b4.c5
 obtain ⟨xf0, xf1, xf2⟩ := b0.f3
 obtain ⟨rf0, rf1, rf2⟩ := b1.f3
 obtain ⟨sf0, sf1, sf2, sf3, sf4⟩ := b2.f5
 obtain ⟨of0, of1, of2, of3, of4⟩ := b3.f5
 obtain ⟨yf0, yf1, yf2, yf3, yf4⟩ := b4.f5
 rw [HPH.out] at y0
 go_upto_region 7 with (fail)
 rw [HL0.out]
 have t0 := gcell H.out HB0.out hCm 0 (by omega)
 have t1 := gcell H.out HB0.out hCm 1 (by omega)
 have t2 := gcell H.out HB0.out hCm 2 (by omega)
 have t3 := gcell H.out HB0.out hCm 3 (by omega)
 have t4 := gcell H.out HB0.out hCm 4 (by omega)
 rw [Nat.add_zero] at t0
 obtain ⟨u0, t0, tf0⟩ := t0
 obtain ⟨u1, t1, tf1⟩ := t1
 obtain ⟨u2, t2, tf2⟩ := t2
 obtain ⟨u3, t3, tf3⟩ := t3
 obtain ⟨u4, t4, tf4⟩ := t4
 go_upto_region 9 with (fail)
 obtain ⟨W8, hW8⟩ : ∃ W8, W8 = (((((W0.setCell ⟨gC, C * 5, none⟩ (.int .i64 0)).setCell ⟨gC, C * 5 + 1, none⟩ (.int .i64 0)).setCell ⟨gC, C * 5 + 2, none⟩ (.int .i64 0)).setCell ⟨gC, C * 5 + 3, none⟩ (.slice none 0 0)).setCell ⟨gC, C * 5 + 4, none⟩ (.int .i64 0)) := ⟨_, rfl⟩
 rw [← hW8]
 have b0 := BoxIs.to hW8 (.o5 b0 Xk0.out)
 have b1 := BoxIs.to hW8 (.o5 b1 Xk1.out)
 have b2 := BoxIs.to hW8 (.o5 b2 Xk2.out)
 have b3 := BoxIs.to hW8 (.o5 b3 Xk3.out)
 have b4 := BoxIs.to hW8 (.o5 b4 Xk4.out)
 have HW8 := Lib.hid hW8
 clear hW8
 clear t0 t1 t2 t3 t4 tf0 tf1 tf2 tf3 tf4
 clear x0 x1 x2 r0 r1 r2 s0 s1 s2 s3 s4 o0 o1 o2 o3 o4 y0 y1 y2 y3 y4 xf0 xf1 xf2 rf0 rf1 rf2 sf0 sf1 sf2 sf3 sf4 of0 of1 of2 of3 of4 yf0 yf1 yf2 yf3 yf4
 obtain ⟨x0, x1, x2⟩ := b0.c3
 obtain ⟨r0, r1, r2⟩ := b1.c3
 obtain ⟨s0, s1, s2, s3, s4⟩ := b2.c5
 obtain ⟨o0, o1, o2, o3, o4⟩ := b3.c5
 obtain ⟨y0, y1, y2, y3, y4⟩ := b4.c5
 obtain ⟨xf0, xf1, xf2⟩ := b0.f3
 obtain ⟨rf0, rf1, rf2⟩ := b1.f3
 obtain ⟨sf0, sf1, sf2, sf3, sf4⟩ := b2.f5
 obtain ⟨of0, of1, of2, of3, of4⟩ := b3.f5
 obtain ⟨yf0, yf1, yf2, yf3, yf4⟩ := b4.f5
 have n12 := Xn12.out
 have n21 := Xn21.out
 have n10 := Xn10.out
 have n01 := Xn01.out
 have n20 := Xn20.out
 have n02 := Xn02.out
 have n13 := Xn13.out
 have n31 := Xn31.out
 have n23 := Xn23.out
 have n32 := Xn32.out
 go_region
 obtain ⟨V, hV, ⟨e0, e1, e2⟩, ⟨d0, d1, d2, d3, d4⟩, hsV⟩ := two_stores (W := W8) (g := g1) (g' := g2) Xn12.out r0 r1 r2 s0 s1 s2 s3 s4 (.slice RA wo.rows.length rc) (.int .i64 wo.clock) (.slice (some ⟨gC, 0, none⟩) m cc) (.int .i64 0) (.bool false) (.string ⟨#[]⟩) (.int .i64 0) (.int .i64 0)
 rw [← hV]
 have hVb : ∀ q, q ≠ g1 → q ≠ g2 → V.drew.heap[q]? = W8.heap[q]? := fun q h1 h2 => by
  show V.heap[q]? = _
  rw [hV, Below.heap_setCell _ _ _ _ h2, Below.heap_setCell _ _ _ _ h2, Below.heap_setCell _ _ _ _ h2, Below.heap_setCell _ _ _ _ h2, Below.heap_setCell _ _ _ _ h2, Below.heap_setCell _ _ _ _ h1, Below.heap_setCell _ _ _ _ h1, Below.heap_setCell _ _ _ _ h1]
 have hVB : Below w.heap.size W8 V.drew := by
  obtain ⟨a0, a1, a2, _⟩ := HG.out
  have l1 : w.heap.size ≤ g1 := by omega
  have l2 : w.heap.size ≤ g2 := by omega
  refine Below.drew ?_
  rw [hV]
  exact ((((((((Below.refl _ _).setCell l1 _).setCell l1 _).setCell l1 _).setCell l2 _).setCell l2 _).setCell l2 _).setCell l2 _).setCell l2 _
 clear hV
 go_wp2
 exact bodyPost_ret (v := .tuple #[woV RA wo.rows.length rc wo.clock (some ⟨gC, 0, none⟩) m cc, .agg #[.int .i64 0, .bool false, .string ⟨#[]⟩, .int .i64 0, .int .i64 0]]) (by simp [results, Tryz.results22, go_sem, e0, e1, e2, d0, d1, d2, d3, d4]) rfl
  (by
    have hfin := ref_end2 (B := B) (N := N) (wr := W0) (W8 := W8) (W9 := V.drew) H.out (fun b h => by have := HXL.out b h; have := HG.out; omega) hB HB0.out hCm idleC none 0 ⟨i64_zero, i64_zero, i64_zero, i64_zero⟩ (Nat.le_refl _) (SeqAt.nil_ _) HW8.out hVB (by have := HG.out; omega) (fun q h1 _ => hVb q (by have := HG.out; omega) (by have := HG.out; omega)) (rows_turn H.out.rows (fun b hb => hb.1) HB0.out (fun b hb => .inl hb)) H.out.hrc (ck := wo.clock) H.out.ck
    rw [HE.out]
    exact ⟨_, rfl, RA, rc, rfl, hfin.1, hfin.2⟩)
end
end Go.Proofs.YtambkjnhfejfaaaGreat
