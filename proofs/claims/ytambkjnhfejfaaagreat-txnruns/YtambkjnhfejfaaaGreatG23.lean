/-
  Contracts of functions of the program and words for memory, several texts in one: TChange3. Conditions: those stated with each.
-/
import Derived.Test.YtambkjnhfejfaaaGreatG20
namespace Go.Proofs.YtambkjnhfejfaaaGreat
open Go.RowKit
section
variable {w : World} {t : Bool} {Z : Nat → Prop} {B bx bC : Nat} {wo : WoM}
set_option maxRecDepth 100000 in
set_option maxHeartbeats 4000000 in
theorem change3_found (F : FuncId) (p1 p2 p3 : Nat) (op : RowM → RowM × Int) (hE : ∀ args w, (callFunc F args).run Tryz.prog w = .ok (.enter F args) w) (hF : ∀ (r : RowM) (A : Option Addr) (n c : Nat) (W : World), Below w.heap.size w W → OpIn W r A n c → Calls Tryz.prog F #[rV r A n c, .pointer (some ⟨p1, 0, none⟩), .pointer (some ⟨p2, 0, none⟩), .pointer (some ⟨p3, 0, none⟩)] W (OpOut (op r) W)) (key : ByteArray) (h : Own w t Z B bx bC wo) (hr : RowsOk wo.rows) (hk : hasK (rowKeys wo.rows) key = true) (hop : (op (rowAt wo.rows key)).2 = 0 → RowOk (op (rowAt wo.rows key)).1) :
 Calls Tryz.prog 79 #[.pointer (some ⟨bx, 0, none⟩), .string key, .func (.func F) #[] #[.pointer (some ⟨p1, 0, none⟩), .pointer (some ⟨p2, 0, none⟩), .pointer (some ⟨p3, 0, none⟩)]] w (FoundOut t Z B bx bC (⟨(chgRow wo.rows key op).1, wo.clock, wo.cls⟩, (chgRow wo.rows key op).2) w) := by
 obtain ⟨i, hi⟩ : ∃ i, i = lowIx (rowKeys wo.rows) key := ⟨_, rfl⟩
 have hlt : i < wo.rows.length := by rw [hi]; exact hasK_lt hk
 obtain ⟨r, hr0⟩ : ∃ r, r = rowAt wo.rows key := ⟨_, rfl⟩
 have hget : wo.rows[i]? = some r := by rw [hi, hr0]; exact rowAt_get hk
 obtain ⟨x, hx⟩ : ∃ x, x = op r := ⟨_, rfl⟩
 have hchg := chg_found hk hr0 hx
 rw [← hr0, ← hx] at hop
 rw [← hi] at hchg
 have HG := Lib.hid hchg
 have HOP := Lib.hid hop
 have HX := Lib.hid hx
 have HO := Lib.hid h
 have HR := Lib.hid hr
 have HI := Lib.hid hi
 have HGET := Lib.hid hget
 have HF := Lib.hid hF
 have j0 : (0 : Int) ≤ (i : Int) := by omega
 have j1 : (i : Int) < (wo.rows.length : Int) := by omega
 clear hi hr0 hx hchg hop h hr hget hF
 go_enter Tryz.func79, Tryz.ntmps79
 go_wp2_with fail
 refine (findRow_any key HO.out HR.out.inc).mono ?_
 rw [← HI.out, hk]
 rintro e w1 ⟨rfl, hb1⟩
 have HO1 := Lib.hid (HO.out.upto hb1)
 obtain ⟨bR, rc, c0, hrows⟩ := HO1.out.rowsAt
 obtain ⟨wb, _, _, _, hco1⟩ := HO1.out.open_ c0
 obtain ⟨b, o, hA, hbb, hrow⟩ := hrows.at_ HGET.out
 obtain ⟨rfl, rfl⟩ : bR = b ∧ 0 = o := by injection hA with e; injection e with e1 e2; exact ⟨e1, e2⟩
 rw [Nat.zero_add] at hrow
 have d0 := hrow.ck
 have d1 := hrow.cs
 have d2 := hrow.cp
 have d3 := hrow.cv
 obtain ⟨A, q, d4, hcq, hri⟩ := hrow.rowIn (fun _ h => h)
 have HRI := Lib.hid (show OpIn w1 r A r.recs.length q from ⟨hri, hcq⟩)
 have HB1 := Lib.hid hb1
 have HF1 := Lib.hid (HF.out r A r.recs.length q w1 hb1 HRI.out)
 have hxlt : bx < w1.heap.size := HO1.out.xB.2
 have hRlt : bR < w1.heap.size := hco1.rB.2.1
 have hBR : B ≤ bR := hco1.rB.1
 have HZR := Lib.hid (show ¬ Z bR from fun e => hco1.rB.2.2 (.inr e))
 have HRF := Lib.hid hco1.rf
 have HC0 := Lib.hid c0
 clear hrow hrows hA hri hco1 hb1 hcq
 obtain ⟨rk, ls, lp, val, recs⟩ := r
 dsimp only at d0 d1 d2 d3 d4
 by_cases hx0 : x.2 = 0
 ·have hx1 : (x.2 == 0) = true := by simpa using hx0
  have HX0 := Lib.hid hx0
  have hokx := HOP.out hx0
  have HOKX := Lib.hid hokx
  clear hx0 hokx
  go_wp2_with (go_at_fn F; refine HF1.out.mono ?_; rw [← HX.out]; rintro e w2 ⟨A2, c2, rfl, hr2, hn2, hb2⟩; have HR2 := Lib.hid hr2; have HN2 := Lib.hid hn2; have HB2 := Lib.hid hb2; have e0 := (hb2.cell (p := ⟨bx, 0, none⟩) hxlt).trans HC0.out; have y0 := (hb2.cell (p := ⟨bR, i * 5, none⟩) hRlt).trans d0; have y1 := (hb2.cell (p := ⟨bR, i * 5 + 1, none⟩) hRlt).trans d1; have y2 := (hb2.cell (p := ⟨bR, i * 5 + 2, none⟩) hRlt).trans d2; have y3 := (hb2.cell (p := ⟨bR, i * 5 + 3, none⟩) hRlt).trans d3; have y4 := (hb2.cell (p := ⟨bR, i * 5 + 4, none⟩) hRlt).trans d4; have v0 := (hb2.frozen (p := ⟨bR, i * 5, none⟩) hRlt).trans (HRF.out _); have v1 := (hb2.frozen (p := ⟨bR, i * 5 + 1, none⟩) hRlt).trans (HRF.out _); have v2 := (hb2.frozen (p := ⟨bR, i * 5 + 2, none⟩) hRlt).trans (HRF.out _); have v3 := (hb2.frozen (p := ⟨bR, i * 5 + 3, none⟩) hRlt).trans (HRF.out _); have v4 := (hb2.frozen (p := ⟨bR, i * 5 + 4, none⟩) hRlt).trans (HRF.out _); have hx2 : bx < w2.heap.size := Nat.lt_of_lt_of_le hxlt hb2.size; have hR2 : bR < w2.heap.size := Nat.lt_of_lt_of_le hRlt hb2.size; clear hr2 hn2 hb2)
  obtain ⟨W3, hW3⟩ : ∃ W3, W3 = w2.alloc (.cells #[.string x.1.key, .int .i64 x.1.ls, .string x.1.lp, .string x.1.val, .slice A2 x.1.recs.length c2] 45) := ⟨_, rfl⟩
  have hb3 : Below w2.heap.size w2 W3 := by rw [hW3]; exact below_alloc (Below.refl _ _) _
  have HB3 := Lib.hid hb3
  have t0 : W3.cell? ⟨w2.heap.size, 0, none⟩ = some (.string x.1.key) := by rw [hW3]; simp
  have t1 : W3.cell? ⟨w2.heap.size, 1, none⟩ = some (.int .i64 x.1.ls) := by rw [hW3]; simp
  have t2 : W3.cell? ⟨w2.heap.size, 2, none⟩ = some (.string x.1.lp) := by rw [hW3]; simp
  have t3 : W3.cell? ⟨w2.heap.size, 3, none⟩ = some (.string x.1.val) := by rw [hW3]; simp
  have t4 : W3.cell? ⟨w2.heap.size, 4, none⟩ = some (.slice A2 x.1.recs.length c2) := by rw [hW3]; simp
  have s0 : W3.cell? ⟨bx, 0, none⟩ = some (.slice (some ⟨bR, 0, none⟩) wo.rows.length rc) := (hb3.cell (p := ⟨bx, 0, none⟩) hx2).trans e0
  have s1 : ∀ o, W3.cell? ⟨bR, o, none⟩ = w2.cell? ⟨bR, o, none⟩ := fun o => hb3.cell (p := ⟨bR, o, none⟩) hR2
  have s2 : ∀ o, W3.frozen? ⟨bR, o, none⟩ = w2.frozen? ⟨bR, o, none⟩ := fun o => hb3.frozen (p := ⟨bR, o, none⟩) hR2
  have y0' := (s1 _).trans y0
  have y1' := (s1 _).trans y1
  have y2' := (s1 _).trans y2
  have y3' := (s1 _).trans y3
  have y4' := (s1 _).trans y4
  have v0' := (s2 _).trans v0
  have v1' := (s2 _).trans v1
  have v2' := (s2 _).trans v2
  have v3' := (s2 _).trans v3
  have v4' := (s2 _).trans v4
  rw [← hW3]
  clear hW3 hb3 s1 s2 y0 y1 y2 y3 y4 v0 v1 v2 v3 v4 e0 c0
  go_still_tail 7, (by kernel_rfl)
  change wpList _ _ _ _ _ W3.drew
  go_wp2
  go_ret
  rw [HG.out, if_pos HX0.out]
  have hbw : Below w1.heap.size w1 W3 := below_next HB2.out HB3.out
  obtain ⟨a0, a1, a2, a3, a4⟩ := set5_at y0' y1' y2' y3' y4' (.string x.1.key) (.int .i64 x.1.ls) (.string x.1.lp) (.string x.1.val) (.slice A2 x.1.recs.length c2)
  have hs := (set5_same W3 bR (i * 5) (.string x.1.key) (.int .i64 x.1.ls) (.string x.1.lp) (.string x.1.val) (.slice A2 x.1.recs.length c2))
  have hown := (HO1.out.row hbw HC0.out hlt hs a0 a1 a2 a3 a4 HN2.out.2 (HR2.out.upto HB3.out) HN2.out.1 HOKX.out).drew
  have hkeep := ((Keeps.new (Z := Z) HO.out.base (below_next HB1.out hbw)).set5 hBR HZR.out (i * 5) (.string x.1.key) (.int .i64 x.1.ls) (.string x.1.lp) (.string x.1.val) (.slice A2 x.1.recs.length c2)).drew
  refine ⟨⟨rfl, hown, hkeep⟩, ?_⟩
  exact turn_set5 (below_next HB1.out hbw) ((HB1.out.cell (p := ⟨bx, 0, none⟩) HO.out.xB.2).symm.trans HC0.out) (i * 5) (.string x.1.key) (.int .i64 x.1.ls) (.string x.1.lp) (.string x.1.val) (.slice A2 x.1.recs.length c2)
 ·have hx1 : (x.2 == 0) = false := by simpa using hx0
  have HX0 := Lib.hid hx0
  clear hx0
  go_wp2_with (go_at_fn F; refine HF1.out.mono ?_; rw [← HX.out]; rintro e w2 ⟨A2, c2, rfl, hr2, hn2, hb2⟩; have HR2 := Lib.hid hr2; have HN2 := Lib.hid hn2; have HB2 := Lib.hid hb2; clear hr2 hn2 hb2)
  go_ret
  rw [HG.out, if_neg HX0.out]
  have hbw : Below w1.heap.size w1 (w2.alloc (.cells #[.string x.1.key, .int .i64 x.1.ls, .string x.1.lp, .string x.1.val, .slice A2 x.1.recs.length c2] 45)) := below_alloc HB2.out _
  exact ⟨⟨rfl, HO1.out.upto hbw, Keeps.new HO.out.base (below_next HB1.out hbw)⟩, fun _ _ _ _ b hb _ => (below_next HB1.out hbw).block b hb⟩
set_option maxRecDepth 100000 in
set_option maxHeartbeats 4000000 in
theorem change3_new (F : FuncId) (p1 p2 p3 : Nat) (op : RowM → RowM × Int) (hE : ∀ args w, (callFunc F args).run Tryz.prog w = .ok (.enter F args) w) (hF : ∀ (r : RowM) (A : Option Addr) (n c : Nat) (W : World), Below w.heap.size w W → OpIn W r A n c → Calls Tryz.prog F #[rV r A n c, .pointer (some ⟨p1, 0, none⟩), .pointer (some ⟨p2, 0, none⟩), .pointer (some ⟨p3, 0, none⟩)] W (OpOut (op r) W)) (key : ByteArray) (hks : key.size ≤ maxLen) (h : Own w true Z B bx bC wo) (hr : RowsOk wo.rows) (hk : hasK (rowKeys wo.rows) key = false) (hop : (op (freshRow key)).2 = 0 → RowOk (op (freshRow key)).1) :
 Calls Tryz.prog 79 #[.pointer (some ⟨bx, 0, none⟩), .string key, .func (.func F) #[] #[.pointer (some ⟨p1, 0, none⟩), .pointer (some ⟨p2, 0, none⟩), .pointer (some ⟨p3, 0, none⟩)]] w (NumOut false Z B bx bC (⟨(chgRow wo.rows key op).1, wo.clock, wo.cls⟩, (chgRow wo.rows key op).2) w) := by
 obtain ⟨i, hi⟩ : ∃ i, i = lowIx (rowKeys wo.rows) key := ⟨_, rfl⟩
 have hle : i ≤ wo.rows.length := by rw [hi]; have := lowIx_le (rowKeys wo.rows) key; simpa using this
 have hlen := hr.len
 have HO := Lib.hid h
 have HR := Lib.hid hr
 have HI := Lib.hid hi
 by_cases h40 : 40 ≤ wo.rows.length
 ·have HG := Lib.hid (chg_full (op := op) hk h40)
  have d40 : decide ((40 : Int) ≤ (wo.rows.length : Int)) = true := by simp; omega
  clear hi h hr hF hop
  go_enter Tryz.func79, Tryz.ntmps79
  go_wp2_with fail
  refine (findRow_any key HO.out HR.out.inc).mono ?_
  rw [← HI.out, hk]
  rintro e w1 ⟨rfl, hb1⟩
  have HO1 := Lib.hid (HO.out.upto hb1)
  obtain ⟨bR, rc, c0, _⟩ := HO1.out.rowsAt
  go_wp2
  go_ret
  rw [HG.out]
  exact ⟨rfl, HO1.out.loose, Keeps.new HO.out.base hb1⟩
 ·have d40 : decide ((40 : Int) ≤ (wo.rows.length : Int)) = false := by simp; omega
  obtain ⟨x, hx⟩ : ∃ x, x = op (freshRow key) := ⟨_, rfl⟩
  have hchg := chg_new hk h40 hx
  rw [← hi] at hchg
  rw [← hx] at hop
  have HG := Lib.hid hchg
  have HOP := Lib.hid hop
  have HX := Lib.hid hx
  have HF := Lib.hid hF
  have j0 : (0 : Int) ≤ (i : Int) := by omega
  clear hi hx hchg hop h hr hF
  by_cases hx0 : x.2 = 0
  ·have hx1 : (x.2 == 0) = true := by simpa using hx0
   have HX0 := Lib.hid hx0
   have hokx := HOP.out hx0
   have HOKX := Lib.hid hokx
   clear hx0 hokx
   go_enter Tryz.func79, Tryz.ntmps79
   go_wp2_with fail
   refine (findRow_any key HO.out HR.out.inc).mono ?_
   rw [← HI.out, hk]
   rintro e w1 ⟨rfl, hb1⟩
   have HO1 := Lib.hid (HO.out.upto hb1)
   obtain ⟨bR, rc, c0, hrows⟩ := HO1.out.rowsAt
   obtain ⟨wb, _, _, htt, hco1⟩ := HO1.out.open_ c0
   have hrc : rc = wo.rows.length := htt rfl
   subst hrc
   obtain ⟨cs, hcl, hcs, hc1⟩ := rows_cells hco1.rows
   have HF1 := Lib.hid (HF.out (freshRow key) none 0 0 w1 hb1 ⟨⟨rfl, RecsAt.nil_ _ _ _, hks, Nat.zero_le _, Nat.zero_le _⟩, Nat.le_refl _⟩)
   have hxlt : bx < w1.heap.size := HO1.out.xB.2
   have hRlt : bR < w1.heap.size := hco1.rB.2.1
   have hxf := HO1.out.xf 0
   have HC0 := Lib.hid c0
   have HB1 := Lib.hid hb1
   have HCL := Lib.hid hcl
   have HCS := Lib.hid hcs
   have HC1 := Lib.hid hc1
   clear hrows hco1 hb1 hcl hcs hc1 htt
   go_wp2_with (go_at_fn F; refine HF1.out.mono ?_; rw [← HX.out]; rintro e w2 ⟨A2, c2, rfl, hr2, hn2, hb2⟩; have HR2 := Lib.hid hr2; have HN2 := Lib.hid hn2; have HB2 := Lib.hid hb2; have e0 := (hb2.cell (p := ⟨bx, 0, none⟩) hxlt).trans HC0.out; have ef := (hb2.frozen (p := ⟨bx, 0, none⟩) hxlt).trans hxf; have hx2 : bx < w2.heap.size := Nat.lt_of_lt_of_le hxlt hb2.size; have hR2 : bR < w2.heap.size := Nat.lt_of_lt_of_le hRlt hb2.size; clear hr2 hn2 hb2)
   obtain ⟨W3, hW3⟩ : ∃ W3, W3 = w2.alloc (.cells #[.string x.1.key, .int .i64 x.1.ls, .string x.1.lp, .string x.1.val, .slice A2 x.1.recs.length c2] 45) := ⟨_, rfl⟩
   have hb3 : Below w2.heap.size w2 W3 := by rw [hW3]; exact below_alloc (Below.refl _ _) _
   have hs3 : W3.heap.size = w2.heap.size + 1 := by rw [hW3]; simp
   have HB3 := Lib.hid hb3
   have t0 : W3.cell? ⟨w2.heap.size, 0, none⟩ = some (.string x.1.key) := by rw [hW3]; simp
   have t1 : W3.cell? ⟨w2.heap.size, 1, none⟩ = some (.int .i64 x.1.ls) := by rw [hW3]; simp
   have t2 : W3.cell? ⟨w2.heap.size, 2, none⟩ = some (.string x.1.lp) := by rw [hW3]; simp
   have t3 : W3.cell? ⟨w2.heap.size, 3, none⟩ = some (.string x.1.val) := by rw [hW3]; simp
   have t4 : W3.cell? ⟨w2.heap.size, 4, none⟩ = some (.slice A2 x.1.recs.length c2) := by rw [hW3]; simp
   have s0 : W3.cell? ⟨bx, 0, none⟩ = some (.slice (some ⟨bR, 0, none⟩) wo.rows.length wo.rows.length) := (hb3.cell (p := ⟨bx, 0, none⟩) hx2).trans e0
   have hx3 : bx < W3.heap.size := by omega
   rw [← hW3]
   obtain ⟨WI, hWI⟩ : ∃ WI, WI = (W3.alloc (.cells #[.string x.1.key, .int .i64 x.1.ls, .string x.1.lp, .string x.1.val, .slice A2 x.1.recs.length c2] 45)).drew := ⟨_, rfl⟩
   have hb3I : Below W3.heap.size W3 WI := by rw [hWI]; exact below_drew (below_alloc (Below.refl _ _) _)
   have HB2I := Lib.hid (below_next hb3 hb3I)
   have hbI : Below w1.heap.size w1 WI := below_next (below_next HB2.out hb3) hb3I
   have hvI : CellsAt WI (w2.heap.size + 1) 0 [.string x.1.key, .int .i64 x.1.ls, .string x.1.lp, .string x.1.val, .slice A2 x.1.recs.length c2] := by
    intro j v hj
    have h := World.cell?_alloc_new W3 #[.string x.1.key, .int .i64 x.1.ls, .string x.1.lp, .string x.1.val, .slice A2 x.1.recs.length c2] 45 (0 + j)
    rw [hs3] at h
    rw [hWI, World.cell?_drew, h, Nat.zero_add]
    simpa using hj
   have hvlt : w2.heap.size + 1 < WI.heap.size := by
    have : WI.heap.size = W3.heap.size + 1 := by rw [hWI]; simp
    omega
   have hv1 : ∀ v ∈ ([.string x.1.key, .int .i64 x.1.ls, .string x.1.lp, .string x.1.val, .slice A2 x.1.recs.length c2] : List Value), v.oneCell' = true := by
    intro v hv
    simp only [List.mem_cons, List.not_mem_nil, or_false] at hv
    rcases hv with rfl | rfl | rfl | rfl | rfl <;> rfl
   have hSk : ∀ W : World, Below WI.heap.size WI W → (W.cell? ⟨w2.heap.size, 0, none⟩ = some (.string x.1.key) ∧ W.cell? ⟨w2.heap.size, 1, none⟩ = some (.int .i64 x.1.ls) ∧ W.cell? ⟨w2.heap.size, 2, none⟩ = some (.string x.1.lp) ∧ W.cell? ⟨w2.heap.size, 3, none⟩ = some (.string x.1.val) ∧ W.cell? ⟨w2.heap.size, 4, none⟩ = some (.slice A2 x.1.recs.length c2)) := fun W hW => by
    obtain ⟨g0, g1, g2, g3, g4, _⟩ := boxS t0 t1 t2 t3 t4 (below_next hb3I hW)
    exact ⟨g0, g1, g2, g3, g4⟩
   have hxne : bx ≠ w2.heap.size := by omega
   have hSs : ∀ W : World, (W.cell? ⟨w2.heap.size, 0, none⟩ = some (.string x.1.key) ∧ W.cell? ⟨w2.heap.size, 1, none⟩ = some (.int .i64 x.1.ls) ∧ W.cell? ⟨w2.heap.size, 2, none⟩ = some (.string x.1.lp) ∧ W.cell? ⟨w2.heap.size, 3, none⟩ = some (.string x.1.val) ∧ W.cell? ⟨w2.heap.size, 4, none⟩ = some (.slice A2 x.1.recs.length c2)) → ∀ u, ((W.setCell ⟨bx, 0, none⟩ u).cell? ⟨w2.heap.size, 0, none⟩ = some (.string x.1.key) ∧ (W.setCell ⟨bx, 0, none⟩ u).cell? ⟨w2.heap.size, 1, none⟩ = some (.int .i64 x.1.ls) ∧ (W.setCell ⟨bx, 0, none⟩ u).cell? ⟨w2.heap.size, 2, none⟩ = some (.string x.1.lp) ∧ (W.setCell ⟨bx, 0, none⟩ u).cell? ⟨w2.heap.size, 3, none⟩ = some (.string x.1.val) ∧ (W.setCell ⟨bx, 0, none⟩ u).cell? ⟨w2.heap.size, 4, none⟩ = some (.slice A2 x.1.recs.length c2)) := fun W h u => by
    have hk : ∀ o, (W.setCell ⟨bx, 0, none⟩ u).cell? ⟨w2.heap.size, o, none⟩ = W.cell? ⟨w2.heap.size, o, none⟩ := fun o => World.cell?_setCell_other W _ _ u fun e => hxne (congrArg Addr.block e)
    exact ⟨(hk 0).trans h.1, (hk 1).trans h.2.1, (hk 2).trans h.2.2.1, (hk 3).trans h.2.2.2.1, (hk 4).trans h.2.2.2.2⟩
   have sI : WI.cell? ⟨bx, 0, none⟩ = some (.slice (some ⟨bR, 0, none⟩) wo.rows.length wo.rows.length) := (hb3I.cell (p := ⟨bx, 0, none⟩) hx3).trans s0
   have HSI := Lib.hid (hSk WI (Below.refl _ _))
   have HWI := Lib.hid hWI
   have HBI := Lib.hid hbI
   have HVI := Lib.hid hvI
   have HV1 := Lib.hid hv1
   have HSK := Lib.hid hSk
   have HSS := Lib.hid hSs
   clear hW3 hb3 hWI hb3I hbI hvI hv1 hSk hSs e0 c0
   refine wp_region_held_drew (S := fun W => W.cell? ⟨w2.heap.size, 0, none⟩ = some (.string x.1.key) ∧ W.cell? ⟨w2.heap.size, 1, none⟩ = some (.int .i64 x.1.ls) ∧ W.cell? ⟨w2.heap.size, 2, none⟩ = some (.string x.1.lp) ∧ W.cell? ⟨w2.heap.size, 3, none⟩ = some (.string x.1.val) ∧ W.cell? ⟨w2.heap.size, 4, none⟩ = some (.slice A2 x.1.recs.length c2)) (by kernel_rfl) ?_ (fun hHeld => ?_)
   ·exact ⟨t0, t1, t2, t3, t4⟩
   refine tq 0 ?_
   refine tq 1 ?_
   refine tq 2 ?_
   refine tq 3 ?_
   refine tq 5 ?_
   refine tq 6 ?_
   refine wpAnyH_ready (rs := [4, 7]) (by kernel_rfl) (by simp) ?_
   refine AllReadyH.cons (o := ?_) ?_ (fun K hK => ?_) ?_
   rotate_left 1
   ·(simp only [List.getElem?_toArray, List.getElem?_cons_zero, List.getElem?_cons_succ]; rfl)
   ·go_simp
    (refine hK.out _ _ ?_ (fun hHeld => ?_); exact ⟨t0, t1, t2, t3, t4⟩; clear hK K)
    (refine cop 7 (h := fun K hK => ?_); go_simp)
    rw [← HWI.out]
    clear hHeld
    (refine hK.out _ _ ?_ (fun hHeld => ?_); exact HSI.out; clear hK K)
    (refine cop 8 (h := fun K hK => ?_); go_simp)
    refine (insRow_any bR (w2.heap.size + 1) wo.rows.length i cs [.string x.1.key, .int .i64 x.1.ls, .string x.1.lp, .string x.1.val, .slice A2 x.1.recs.length c2] _ HCL.out rfl (HCS.out.keep fun k => HBI.out.cell (p := ⟨bR, k, none⟩) hRlt) HVI.out (Nat.lt_of_lt_of_le hRlt HBI.out.size) hvlt HC1.out HV1.out hle (by omega)).mono ?_
    rintro e w4 ⟨g, cg, rfl, hcap, hg1, hg2, hgc, hgf, hb4⟩
    have hbW4 : Below w1.heap.size w1 w4 := below_next HBI.out hb4
    have hS4 := HSK.out w4 hb4
    have q0 : w4.cell? ⟨bx, 0, none⟩ = some (.slice (some ⟨bR, 0, none⟩) wo.rows.length wo.rows.length) := (hbW4.cell (p := ⟨bx, 0, none⟩) hxlt).trans HC0.out
    have qf : w4.frozen? ⟨bx, 0, none⟩ = false := (hbW4.frozen (p := ⟨bx, 0, none⟩) hxlt).trans hxf
    have HS4 := Lib.hid hS4
    have HCAP := Lib.hid hcap
    have HG1 := Lib.hid hg1
    have HG2 := Lib.hid hg2
    have HGC := Lib.hid hgc
    have HGF := Lib.hid hgf
    have HBW4 := Lib.hid hbW4
    have HB4 := Lib.hid hb4
    clear hHeld hcap hg1 hg2 hgc hgf hbW4 hb4 hS4
    (refine hK.out _ _ ?_ (fun hHeld => ?_); exact HS4.out; clear hK K)
    refine tq 9 ?_
    refine tq 10 ?_
    clear hHeld
    (refine cop 11 (h := fun K hK => ?_); go_simp)
    have hS5 := HSS.out w4 HS4.out (.slice (some ⟨g, 0, none⟩) (wo.rows.length + 1) cg)
    have HS5 := Lib.hid hS5
    clear hS5
    (refine hK.out _ _ ?_ (fun hHeld => ?_); exact HS5.out; clear hK K)
    refine wpAnyH_done (by kernel_rfl) ?_ _
    clear hHeld
    go_wp2
    go_ret
    rw [HG.out, if_pos HX0.out]
    have hnw : w1.heap.size ≤ g := Nat.le_trans HBI.out.size HG1.out
    have h24 : Below w2.heap.size w2 w4 := below_next HB2I.out HB4.out
    have h2g : w2.heap.size ≤ g := Nat.le_trans HB2I.out.size HG1.out
    exact ⟨rfl, HO1.out.ins HBW4.out HC0.out hle HCL.out rfl HCS.out hnw HG2.out HGF.out HCAP.out HGC.out rfl HN2.out.2 (HR2.out.below h24) h2g HN2.out.1 HOKX.out (by omega), (Keeps.new HO.out.base (below_next HB1.out HBW4.out)).set HO.out.xB.1 HO.out.xZ _⟩
   ·refine AllReadyH.cons (o := ?_) ?_ (fun K hK => ?_) AllReadyH.nil
    rotate_left 1
    ·(simp only [List.getElem?_toArray, List.getElem?_cons_zero, List.getElem?_cons_succ]; rfl)
    ·go_simp
     rw [← HWI.out]
     clear hHeld
     (refine hK.out _ _ ?_ (fun hHeld => ?_); exact HSI.out; clear hK K)
     (refine cop 4 (h := fun K hK => ?_); go_simp)
     clear hHeld
     (refine hK.out _ _ ?_ (fun hHeld => ?_); exact HSI.out; clear hK K)
     (refine cop 8 (h := fun K hK => ?_); go_simp)
     refine (insRow_any bR (w2.heap.size + 1) wo.rows.length i cs [.string x.1.key, .int .i64 x.1.ls, .string x.1.lp, .string x.1.val, .slice A2 x.1.recs.length c2] _ HCL.out rfl (HCS.out.keep fun k => HBI.out.cell (p := ⟨bR, k, none⟩) hRlt) HVI.out (Nat.lt_of_lt_of_le hRlt HBI.out.size) hvlt HC1.out HV1.out hle (by omega)).mono ?_
     rintro e w4 ⟨g, cg, rfl, hcap, hg1, hg2, hgc, hgf, hb4⟩
     have hbW4 : Below w1.heap.size w1 w4 := below_next HBI.out hb4
     have hS4 := HSK.out w4 hb4
     have q0 : w4.cell? ⟨bx, 0, none⟩ = some (.slice (some ⟨bR, 0, none⟩) wo.rows.length wo.rows.length) := (hbW4.cell (p := ⟨bx, 0, none⟩) hxlt).trans HC0.out
     have qf : w4.frozen? ⟨bx, 0, none⟩ = false := (hbW4.frozen (p := ⟨bx, 0, none⟩) hxlt).trans hxf
     have HS4 := Lib.hid hS4
     have HCAP := Lib.hid hcap
     have HG1 := Lib.hid hg1
     have HG2 := Lib.hid hg2
     have HGC := Lib.hid hgc
     have HGF := Lib.hid hgf
     have HBW4 := Lib.hid hbW4
     have HB4 := Lib.hid hb4
     clear hHeld hcap hg1 hg2 hgc hgf hbW4 hb4 hS4
     (refine hK.out _ _ ?_ (fun hHeld => ?_); exact HS4.out; clear hK K)
     refine tq 9 ?_
     refine tq 10 ?_
     clear hHeld
     (refine cop 11 (h := fun K hK => ?_); go_simp)
     have hS5 := HSS.out w4 HS4.out (.slice (some ⟨g, 0, none⟩) (wo.rows.length + 1) cg)
     have HS5 := Lib.hid hS5
     clear hS5
     (refine hK.out _ _ ?_ (fun hHeld => ?_); exact HS5.out; clear hK K)
     refine wpAnyH_done (by kernel_rfl) ?_ _
     clear hHeld
     go_wp2
     go_ret
     rw [HG.out, if_pos HX0.out]
     have hnw : w1.heap.size ≤ g := Nat.le_trans HBI.out.size HG1.out
     have h24 : Below w2.heap.size w2 w4 := below_next HB2I.out HB4.out
     have h2g : w2.heap.size ≤ g := Nat.le_trans HB2I.out.size HG1.out
     exact ⟨rfl, HO1.out.ins HBW4.out HC0.out hle HCL.out rfl HCS.out hnw HG2.out HGF.out HCAP.out HGC.out rfl HN2.out.2 (HR2.out.below h24) h2g HN2.out.1 HOKX.out (by omega), (Keeps.new HO.out.base (below_next HB1.out HBW4.out)).set HO.out.xB.1 HO.out.xZ _⟩
  ·have hx1 : (x.2 == 0) = false := by simpa using hx0
   have HX0 := Lib.hid hx0
   clear hx0
   go_enter Tryz.func79, Tryz.ntmps79
   go_wp2_with fail
   refine (findRow_any key HO.out HR.out.inc).mono ?_
   rw [← HI.out, hk]
   rintro e w1 ⟨rfl, hb1⟩
   have HO1 := Lib.hid (HO.out.upto hb1)
   obtain ⟨bR, rc, c0, hrows⟩ := HO1.out.rowsAt
   have HF1 := Lib.hid (HF.out (freshRow key) none 0 0 w1 hb1 ⟨⟨rfl, RecsAt.nil_ _ _ _, hks, Nat.zero_le _, Nat.zero_le _⟩, Nat.le_refl _⟩)
   have HB1 := Lib.hid hb1
   clear hrows hb1
   go_wp2_with (go_at_fn F; refine HF1.out.mono ?_; rw [← HX.out]; rintro e w2 ⟨A2, c2, rfl, hr2, hn2, hb2⟩; have HB2 := Lib.hid hb2; clear hr2 hn2 hb2)
   go_ret
   rw [HG.out, if_neg HX0.out]
   have hbw : Below w1.heap.size w1 (w2.alloc (.cells #[.string x.1.key, .int .i64 x.1.ls, .string x.1.lp, .string x.1.val, .slice A2 x.1.recs.length c2] 45)) := below_alloc HB2.out _
   exact ⟨rfl, (HO1.out.upto hbw).loose, Keeps.new HO.out.base (below_next HB1.out hbw)⟩
end
end Go.Proofs.YtambkjnhfejfaaaGreat
