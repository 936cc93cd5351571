/-
  Contracts of functions of the program and words for memory, several texts in one: RWith. Conditions: those stated with each.
-/
import Derived.Test.YtambkjnhfejfaaaGreatG20
namespace Go.Proofs.YtambkjnhfejfaaaGreat
open Go.RowKit
set_option linter.unusedVariables false
theorem blocks3 (w : World) (o1 o2 o3 : Obj) : (((w.alloc o1).alloc o2).alloc o3).heap[w.heap.size]? = some o1 ∧ (((w.alloc o1).alloc o2).alloc o3).heap[w.heap.size + 1]? = some o2 ∧ (((w.alloc o1).alloc o2).alloc o3).heap[w.heap.size + 1 + 1]? = some o3 := by
 have s1 : (w.alloc o1).heap.size = w.heap.size + 1 := by simp
 have s2 : ((w.alloc o1).alloc o2).heap.size = w.heap.size + 1 + 1 := by simp
 refine ⟨?_, ?_, ?_⟩
 ·rw [Below.heap_alloc _ _ _ (by omega), Below.heap_alloc _ _ _ (by omega)]; exact heap_alloc_new w o1
 ·rw [Below.heap_alloc _ _ _ (by omega), ← s1]; exact heap_alloc_new (w.alloc o1) o2
 ·rw [← s2]; exact heap_alloc_new ((w.alloc o1).alloc o2) o3
theorem three_boxes (w : World) (v0 v1 v2 u0 u1 u2 u3 u4 z0 z1 z2 : Value) (t t' : TypeId) : ∃ W, W = ((w.alloc (.cells #[v0, v1, v2] t)).alloc (.cells #[u0, u1, u2, u3, u4] t')).alloc (.cells #[z0, z1, z2] t) ∧ Below w.heap.size w W ∧ W.heap.size = w.heap.size + 3 ∧
 W.cell? ⟨w.heap.size, 0, none⟩ = some v0 ∧ W.cell? ⟨w.heap.size, 1, none⟩ = some v1 ∧ W.cell? ⟨w.heap.size, 2, none⟩ = some v2 ∧ (∀ o, W.frozen? ⟨w.heap.size, o, none⟩ = false) ∧
 W.cell? ⟨w.heap.size + 1, 0, none⟩ = some u0 ∧ W.cell? ⟨w.heap.size + 1, 1, none⟩ = some u1 ∧ W.cell? ⟨w.heap.size + 1, 2, none⟩ = some u2 ∧ W.cell? ⟨w.heap.size + 1, 3, none⟩ = some u3 ∧ W.cell? ⟨w.heap.size + 1, 4, none⟩ = some u4 ∧
 W.cell? ⟨w.heap.size + 1 + 1, 0, none⟩ = some z0 ∧ W.cell? ⟨w.heap.size + 1 + 1, 1, none⟩ = some z1 ∧ W.cell? ⟨w.heap.size + 1 + 1, 2, none⟩ = some z2 ∧ (∀ o, W.frozen? ⟨w.heap.size + 1 + 1, o, none⟩ = false) := by
 obtain ⟨h1, h2, h3⟩ := blocks3 w (.cells #[v0, v1, v2] t) (.cells #[u0, u1, u2, u3, u4] t') (.cells #[z0, z1, z2] t)
 exact ⟨_, rfl, below_alloc (below_alloc (below_alloc (Below.refl _ _) _) _) _, by simp, by rw [Joins.cell_of_block h1]; rfl, by rw [Joins.cell_of_block h1]; rfl, by rw [Joins.cell_of_block h1]; rfl, fun o => Joins.unfrozen_of_block h1 o, by rw [Joins.cell_of_block h2]; rfl, by rw [Joins.cell_of_block h2]; rfl, by rw [Joins.cell_of_block h2]; rfl, by rw [Joins.cell_of_block h2]; rfl, by rw [Joins.cell_of_block h2]; rfl, by rw [Joins.cell_of_block h3]; rfl, by rw [Joins.cell_of_block h3]; rfl, by rw [Joins.cell_of_block h3]; rfl, fun o => Joins.unfrozen_of_block h3 o⟩
theorem set_four {w : World} {g g' : Nat} (hne : g ≠ g') {u0 t0 t1 t2 : Value} (h0 : w.cell? ⟨g, 0, none⟩ = some u0) (k0 : w.cell? ⟨g', 0, none⟩ = some t0) (k1 : w.cell? ⟨g', 1, none⟩ = some t1) (k2 : w.cell? ⟨g', 2, none⟩ = some t2) (a b c : Value) :
 ∃ W, W = (((w.setCell ⟨g, 0, none⟩ a).setCell ⟨g', 0, none⟩ a).setCell ⟨g', 1, none⟩ b).setCell ⟨g', 2, none⟩ c ∧ W.cell? ⟨g', 0, none⟩ = some a ∧ W.cell? ⟨g', 1, none⟩ = some b ∧ W.cell? ⟨g', 2, none⟩ = some c ∧ W.heap.size = w.heap.size ∧ (∀ B w0, B ≤ g → B ≤ g' → Below B w0 w → Below B w0 W) ∧ ∀ q, q ≠ g → q ≠ g' → W.heap[q]? = w.heap[q]? := by
 have e : ∀ o o' : Nat, (⟨g, o, none⟩ : Addr) ≠ ⟨g', o', none⟩ := fun o o' e => hne (by injection e)
 have ne : ∀ a b, a ≠ b → (⟨g', a, none⟩ : Addr) ≠ ⟨g', b, none⟩ := fun a b hab e => hab (by injection e)
 refine ⟨_, rfl, ?_, ?_, ?_, by simp, fun B w0 h1 h2 hb => (((hb.setCell h1 _).setCell h2 _).setCell h2 _).setCell h2 _, fun q h1 h2 => ?_⟩
 ·rw [World.cell?_setCell_other _ _ _ _ (ne 2 0 (by omega)), World.cell?_setCell_other _ _ _ _ (ne 1 0 (by omega)), World.cell?_setCell_same _ _ _ (by rw [World.cell?_setCell_other _ _ _ _ (e _ _)]; exact k0)]
 ·rw [World.cell?_setCell_other _ _ _ _ (ne 2 1 (by omega)), World.cell?_setCell_same _ _ _ (by rw [World.cell?_setCell_other _ _ _ _ (ne 0 1 (by omega)), World.cell?_setCell_other _ _ _ _ (e _ _)]; exact k1)]
 ·rw [World.cell?_setCell_same _ _ _ (by rw [World.cell?_setCell_other _ _ _ _ (ne 1 2 (by omega)), World.cell?_setCell_other _ _ _ _ (ne 0 2 (by omega)), World.cell?_setCell_other _ _ _ _ (e _ _)]; exact k2)]
 ·rw [Below.heap_setCell _ _ _ _ h2, Below.heap_setCell _ _ _ _ h2, Below.heap_setCell _ _ _ _ h2, Below.heap_setCell _ _ _ _ h1]
theorem rows_turn {w w' : World} {P P' : Nat → Prop} {A : Option Addr} {rows : List RowM} (h : RowsAt w P A rows) (hP : ∀ b, P b → b < w.heap.size) (hb : Below w.heap.size w w') (hP' : ∀ b, P b → P' b) : RowsAt w' P' A rows :=
 h.rows hP' fun b k hp => hb.cell (p := ⟨b, k, none⟩) (hP b hp)
def WithOut (rows : List RowM) (r : RowM) (P : Nat → Prop) (ck : Int) (CA : Option Addr) (m cc : Nat) (w : World) (e : Ending) (w' : World) : Prop :=
 ∃ RA' rc', e = .returned (woV RA' (insK RowM.key rows r).length rc' ck CA m cc) ∧ (insK RowM.key rows r).length ≤ rc' ∧ RowsAt w' (fun b => P b ∨ (w.heap.size ≤ b ∧ b < w'.heap.size)) RA' (insK RowM.key rows r) ∧ Below w.heap.size w w'
theorem with_end {w W0 wr W9 : World} {rows : List RowM} {r : RowM} {P : Nat → Prop} {ck : Int} {CA A : Option Addr} {m cc c : Nat} {l : List RowX} (hb0 : Below w.heap.size w W0) (hb : Below W0.heap.size W0 wr) (hs0 : W0.heap.size = w.heap.size + 3) (hP : ∀ b, P b → b < w.heap.size) (hown : OwnsRows wr W0.heap.size (.slice A l.length c) l) (hl : l.length ≤ 100) (hh : ∀ x ∈ l, RowHas w P x) (hd : l.map Prod.fst = insK RowM.key rows r)
 (hb9 : ∀ B w0, B ≤ w.heap.size → B ≤ w.heap.size + 1 + 1 → Below B w0 wr → Below B w0 W9) (hs9 : W9.heap.size = wr.heap.size) (hk9 : ∀ q, q ≠ w.heap.size → q ≠ w.heap.size + 1 + 1 → W9.heap[q]? = wr.heap[q]?) :
 WithOut rows r P ck CA m cc w (.returned (woV A l.length c ck CA m cc)) W9 := by
 have hbw : Below w.heap.size w W9 := hb9 _ _ (Nat.le_refl _) (by omega) (below_next hb0 hb)
 have hown9 : OwnsRows W9 W0.heap.size (.slice A l.length c) l := hown.blk fun g h1 _ => hk9 g (by omega) (by omega)
 obtain ⟨A', c', hv, hc, hrows⟩ := OwnsRows.rows (P := fun b => P b ∨ (w.heap.size ≤ b ∧ b < W9.heap.size)) hown9 (by omega) (fun x hx => (hh x hx).mono (fun b hp => .inl hp) (fun b k hp => hbw.cell (p := ⟨b, k, none⟩) (hP b hp))) (fun b h1 h2 _ => .inr ⟨by omega, h2⟩)
 injection hv with e1 _ e3
 subst e1 e3
 have hlen : l.length = (insK RowM.key rows r).length := by rw [← hd, List.length_map]
 rw [hd] at hrows
 exact ⟨A, c, by rw [hlen], by rw [← hlen]; exact hc, hrows, hbw⟩
set_option maxRecDepth 100000 in
set_option maxHeartbeats 4000000 in
theorem withRow_any (P : Nat → Prop) (RA CA : Option Addr) (n rc m cc : Nat) (ck : Int) (rows : List RowM) (r : RowM) (A0 : Option Addr) (k0 : Nat) (w : World) (hn : n = rows.length) (hr : RowsAt w P RA rows) (hP : ∀ b, P b → b < w.heap.size) (hs : Inc (rowKeys rows)) (hx : RowHas w P (r, A0, k0)) (h40 : rows.length ≤ 40) :
 Calls Tryz.prog 39 #[woV RA n rc ck CA m cc, rV r A0 r.recs.length k0] w (WithOut rows r P ck CA m cc w) := by
 subst hn
 obtain ⟨W0, hW0, hb0, hs0, x0, x1, x2, xf, u0, u1, u2, u3, u4, z0, z1, z2, zf⟩ := three_boxes w (.slice RA rows.length rc) (.int .i64 ck) (.slice CA m cc) (.string r.key) (.int .i64 r.ls) (.string r.lp) (.string r.val) (.slice A0 r.recs.length k0) (.slice none 0 0) (.int .i64 0) (.slice none 0 0) 25 45
 have HR := Lib.hid hr
 have HS := Lib.hid hs
 have HP := Lib.hid hP
 have HX := Lib.hid hx
 have HW0 := Lib.hid hW0
 have HB0 := Lib.hid hb0
 have hbx : w.heap.size < W0.heap.size := by omega
 have hbx1 : w.heap.size + 1 < W0.heap.size := by omega
 have hbx2 : w.heap.size + 1 + 1 < W0.heap.size := by omega
 have HXC := Lib.hid (show ∀ W, Below W0.heap.size W0 W → (W.cell? ⟨w.heap.size, 0, none⟩ = some (.slice RA rows.length rc) ∧ W.cell? ⟨w.heap.size, 1, none⟩ = some (.int .i64 ck) ∧ W.cell? ⟨w.heap.size, 2, none⟩ = some (.slice CA m cc)) ∧
  (W.cell? ⟨w.heap.size + 1, 0, none⟩ = some (.string r.key) ∧ W.cell? ⟨w.heap.size + 1, 1, none⟩ = some (.int .i64 r.ls) ∧ W.cell? ⟨w.heap.size + 1, 2, none⟩ = some (.string r.lp) ∧ W.cell? ⟨w.heap.size + 1, 3, none⟩ = some (.string r.val) ∧ W.cell? ⟨w.heap.size + 1, 4, none⟩ = some (.slice A0 r.recs.length k0)) ∧ w.heap.size < W.heap.size ∧ w.heap.size + 1 < W.heap.size from fun W hb =>
  ⟨⟨(hb.cell (p := ⟨w.heap.size, 0, none⟩) hbx).trans x0, (hb.cell (p := ⟨w.heap.size, 1, none⟩) hbx).trans x1, (hb.cell (p := ⟨w.heap.size, 2, none⟩) hbx).trans x2⟩,
   ⟨(hb.cell (p := ⟨w.heap.size + 1, 0, none⟩) hbx1).trans u0, (hb.cell (p := ⟨w.heap.size + 1, 1, none⟩) hbx1).trans u1, (hb.cell (p := ⟨w.heap.size + 1, 2, none⟩) hbx1).trans u2, (hb.cell (p := ⟨w.heap.size + 1, 3, none⟩) hbx1).trans u3, (hb.cell (p := ⟨w.heap.size + 1, 4, none⟩) hbx1).trans u4⟩, Nat.lt_of_lt_of_le hbx hb.size, Nat.lt_of_lt_of_le hbx1 hb.size⟩)
 have HZC := Lib.hid (show ∀ W, Below W0.heap.size W0 W → (W.cell? ⟨w.heap.size + 1 + 1, 0, none⟩ = some (.slice none 0 0) ∧ W.cell? ⟨w.heap.size + 1 + 1, 1, none⟩ = some (.int .i64 0) ∧ W.cell? ⟨w.heap.size + 1 + 1, 2, none⟩ = some (.slice none 0 0)) ∧ (∀ o, W.frozen? ⟨w.heap.size + 1 + 1, o, none⟩ = false) ∧ (∀ o, W.frozen? ⟨w.heap.size, o, none⟩ = false) ∧ w.heap.size + 1 + 1 < W.heap.size from fun W hb =>
  ⟨⟨(hb.cell (p := ⟨w.heap.size + 1 + 1, 0, none⟩) hbx2).trans z0, (hb.cell (p := ⟨w.heap.size + 1 + 1, 1, none⟩) hbx2).trans z1, (hb.cell (p := ⟨w.heap.size + 1 + 1, 2, none⟩) hbx2).trans z2⟩, fun o => (hb.frozen (p := ⟨w.heap.size + 1 + 1, o, none⟩) hbx2).trans (zf o), fun o => (hb.frozen (p := ⟨w.heap.size, o, none⟩) hbx).trans (xf o), Nat.lt_of_lt_of_le hbx2 hb.size⟩)
 clear hr hs hP hx hW0 hb0 u0 u1 u2 u3 u4 x0 x1 x2 xf z0 z1 z2 zf
 obtain ⟨L, hL⟩ : ∃ L, L = lowIx (rowKeys rows) r.key := ⟨_, rfl⟩
 have HL := Lib.hid hL
 have hLle : L ≤ rows.length := by rw [hL]; have := lowIx_le (rowKeys rows) r.key; simpa using this
 clear hL
 go_enter Tryz.func39, Tryz.ntmps39
 go_wp2
 rw [← HW0.out]
 go_loopw [5, 6, 7] (fun v d i wr => ∃ (k : Nat) (A : Option Addr) (c : Nat) (l : List RowX), k ≤ rows.length ∧ i = .int .i64 k ∧ d = .bool (decide (L < k)) ∧ v = .slice A l.length c ∧ l.map Prod.fst = insP RowM.key rows r k ∧ OwnsRows wr W0.heap.size (.slice A l.length c) l ∧ (∀ x ∈ l, RowHas w P x) ∧ Below W0.heap.size W0 wr) (fun _ _ i _ => rows.length - (intOf i).toNat)
 case atStart => exact ⟨0, none, 0, [], Nat.zero_le _, rfl, by simp, rfl, by rw [insP_zero]; rfl, Cells.Owns.nil _ _ _, fun _ h => (by cases h), Below.refl _ _⟩
 case round =>
  obtain ⟨k, A, c, l, hk, rfl, rfl, rfl, hl, hown, hh, hb⟩ := hrel
  have hll : l.length ≤ 41 := by
   have h1 := insP_len (f := RowM.key) (l := rows) (x := r) k
   rw [← hl, List.length_map] at h1
   omega
  obtain ⟨⟨x0, x1, x2⟩, ⟨u0, u1, u2, u3, u4⟩, hgx, hgx1⟩ := HXC.out wr hb
  have HOWN := Lib.hid hown
  have HH := Lib.hid hh
  have HB := Lib.hid hb
  have HLL := Lib.hid hl
  have hszw := hb.size
  clear hown hh hl
  by_cases hm : k < rows.length
  ·obtain ⟨b, o, rfl, hbp, hrow⟩ := SeqAt.at_ HR.out (getD_some (d := default) hm)
   obtain ⟨y, hy0⟩ : ∃ y, y = rows.getD k default := ⟨_, rfl⟩
   rw [← hy0] at hrow
   have hbw := HP.out b hbp
   obtain ⟨A1, c1, y4, hc, hrecs⟩ := hrow.cr
   have HY := Lib.hid (show RowHas w P (y, A1, c1) from ⟨hc, hrecs, hrow.ok⟩)
   have HYC := Lib.hid (show ∀ W, Below W0.heap.size W0 W → W.cell? ⟨b, o + k * 5, none⟩ = some (.string y.key) ∧ W.cell? ⟨b, o + k * 5 + 1, none⟩ = some (.int .i64 y.ls) ∧ W.cell? ⟨b, o + k * 5 + 2, none⟩ = some (.string y.lp) ∧ W.cell? ⟨b, o + k * 5 + 3, none⟩ = some (.string y.val) ∧ W.cell? ⟨b, o + k * 5 + 4, none⟩ = some (.slice A1 y.recs.length c1) ∧ b < W.heap.size from fun W hW => by
    have e : ∀ j, W.cell? ⟨b, j, none⟩ = w.cell? ⟨b, j, none⟩ := fun j => (below_next HB0.out hW).cell (p := ⟨b, j, none⟩) hbw
    exact ⟨(e _).trans hrow.ck, (e _).trans hrow.cs, (e _).trans hrow.cp, (e _).trans hrow.cv, (e _).trans y4, Nat.lt_of_lt_of_le hbw (below_next HB0.out hW).size⟩)
   have HGET := Lib.hid (show rows[k]? = some y by rw [hy0]; exact getD_some hm)
   have j0 : (0 : Int) ≤ (k : Int) := by omega
   have j1 : (k : Int) < (rows.length : Int) := by omega
   clear hrow hrecs hc hy0 hbp hb y4
   obtain ⟨y0, y1, y2, y3, y4, hbb⟩ := HYC.out wr HB.out
   have HALL := Lib.hid (show ∀ z ∈ l ++ [(y, A1, c1)], RowHas w P z from fun z hz => by
    rcases List.mem_append.1 hz with hz | hz
    ·exact HH.out z hz
    ·rw [List.mem_singleton.1 hz]; exact HY.out)
   by_cases h1 : k < L
   ·have HST := Lib.hid (insP_low (f := RowM.key) (x := r) HGET.out (by rw [HL.out] at h1; exact h1))
    have hlt := HST.out.2
    have hlt2 : Op.bytesLess y.key.toList r.key.toList = true := hlt
    have hd : decide (L < k) = false := by simp; omega
    rw [hd]
    have hne : (y.key.toList == r.key.toList) = false := by rw [beq_eq_false_iff_ne]; intro e; exact ltS_ne hlt (ba_ext e)
    have hgt : Op.bytesLess r.key.toList y.key.toList = false := ltS_asymm hlt
    have HAP := Lib.hid (fun ty p => app_row (ty := ty) (wr.drewN p) W0.heap.size c l.length A l (y, A1, c1) rfl (HOWN.out.kept (below_drewN (Below.refl _ _) _)) (by omega) hszw)
    clear hlt
    go_wp2
    go_quiet (fail)
    go_wp2
    go_quiet (fail)
    go_wp2_with (at_builtin; refine (wpList_append_run _ rfl (.tmp 41) (.tmp 47) 22 rfl (.slice A l.length c) (.slice (some ⟨wr.heap.size, 0, none⟩) 1 1) rfl rfl (HAP.out _ _) ?_); rintro v1 w6 ⟨A6, c6, rfl, hown6, _, _, hb6, _⟩; have HO6 := Lib.hid hown6; have HB6 := Lib.hid (hb6 W0 (below_drewN HB.out _)); clear hown6 hb6)
    go_roundw
    case rel => exact ⟨k + 1, A6, c6, l ++ [(y, A1, c1)], by omega, by go_num, by rw [decide_eq_false (by omega)], by rw [List.length_append]; rfl, by rw [List.map_append, HLL.out]; exact HST.out.1.symm, by rw [List.length_append]; exact HO6.out, HALL.out, HB6.out⟩
    case measure => simp [intOf]; omega
   ·by_cases h2 : k = L
    ·have hd : decide (L < k) = false := by simp; omega
     rw [hd]
     have HGL := Lib.hid (show rows[lowIx (rows.map RowM.key) (RowM.key r)]? = some y by rw [show lowIx (rows.map RowM.key) (RowM.key r) = k by rw [h2, HL.out]]; exact HGET.out)
     have HKL := Lib.hid (show lowIx (rows.map RowM.key) (RowM.key r) = k by rw [h2, HL.out])
     have HAP := Lib.hid (fun ty p => app_row (ty := ty) (wr.drewN p) W0.heap.size c l.length A l (r, A0, k0) rfl (HOWN.out.kept (below_drewN (Below.refl _ _) _)) (by omega) hszw)
     have HALR := Lib.hid (show ∀ z ∈ l ++ [(r, A0, k0)], RowHas w P z from fun z hz => by
      rcases List.mem_append.1 hz with hz | hz
      ·exact HH.out z hz
      ·rw [List.mem_singleton.1 hz]; exact HX.out)
     have H2 := Lib.hid h2
     clear h2
     cases hh : hasK (rows.map RowM.key) (RowM.key r) with
     | true =>
      have HST := Lib.hid (insP_same HGL.out hh)
      have hke := HST.out.2
      have hgt : Op.bytesLess y.key.toList r.key.toList = false := by rw [hke]; exact ltS_irrefl _
      have hgt2 : Op.bytesLess r.key.toList y.key.toList = false := by rw [hke]; exact ltS_irrefl _
      have hne : (y.key.toList == r.key.toList) = true := by rw [hke]; simp
      clear hke hh hd
      go_wp2
      go_quiet (fail)
      go_wp2_with (at_builtin; refine (wpList_append_run _ rfl (.tmp 28) (.tmp 30) 22 rfl (.slice A l.length c) (.slice (some ⟨wr.heap.size, 0, none⟩) 1 1) rfl rfl (HAP.out _ _) ?_); rintro v1 w6 ⟨A6, c6, rfl, hown6, _, _, hb6, _⟩; have HO6 := Lib.hid hown6; have HB6 := Lib.hid (hb6 W0 (below_drewN HB.out _)); clear hown6 hb6; clear x0 x1 x2 u0 u1 u2 u3 u4 hgx hgx1 y0 y1 y2 y3 y4 hbb; obtain ⟨⟨x0, x1, x2⟩, ⟨u0, u1, u2, u3, u4⟩, hgx, hgx1⟩ := HXC.out w6 HB6.out; obtain ⟨y0, y1, y2, y3, y4, hbb⟩ := HYC.out w6 HB6.out)
      go_quiet (fail)
      go_wp2
      go_roundw
      case rel => exact ⟨k + 1, A6, c6, l ++ [(r, A0, k0)], by omega, by go_num, by rw [decide_eq_true (by have := H2.out; omega)], by rw [List.length_append]; rfl, by have := HST.out.1; rw [HKL.out] at this; rw [List.map_append, HLL.out, this]; rfl, by rw [List.length_append]; exact HO6.out.kept (below_drewN (Below.refl _ _) _), HALR.out, below_drewN HB6.out _⟩
      case measure => simp [intOf]; omega
     | false =>
      have HST := Lib.hid (insP_new HGL.out hh)
      have hlt2 : Op.bytesLess y.key.toList r.key.toList = false := HST.out.2.2
      have hne : (y.key.toList == r.key.toList) = false := by rw [beq_eq_false_iff_ne]; intro e; exact HST.out.2.1 (ba_ext e)
      have hgt : Op.bytesLess r.key.toList y.key.toList = true := by
       cases e : Op.bytesLess r.key.toList y.key.toList with
       | true => rfl
       | false => exact absurd (ltS_total hlt2 e) HST.out.2.1
      clear hh hd
      go_wp2
      go_quiet (fail)
      go_wp2_with (at_builtin; refine (wpList_append_run _ rfl (.tmp 28) (.tmp 30) 22 rfl (.slice A l.length c) (.slice (some ⟨wr.heap.size, 0, none⟩) 1 1) rfl rfl (HAP.out _ _) ?_); rintro v1 w6 ⟨A6, c6, rfl, hown6, _, _, hb6, _⟩; have HO6 := Lib.hid hown6; have HB6 := Lib.hid (hb6 W0 (below_drewN HB.out _)); clear hown6 hb6; clear x0 x1 x2 u0 u1 u2 u3 u4 hgx hgx1 y0 y1 y2 y3 y4 hbb; obtain ⟨⟨x0, x1, x2⟩, ⟨u0, u1, u2, u3, u4⟩, hgx, hgx1⟩ := HXC.out w6 HB6.out; obtain ⟨y0, y1, y2, y3, y4, hbb⟩ := HYC.out w6 HB6.out)
      have HAP2 := Lib.hid (fun ty p => app_row (ty := ty) (w6.drewN p) W0.heap.size c6 (l.length + 1) A6 (l ++ [(r, A0, k0)]) (y, A1, c1) (by simp) (HO6.out.kept (below_drewN (Below.refl _ _) _)) (by simp; omega) HB6.out.size)
      go_quiet (fail)
      go_wp2_with (at_builtin; refine (wpList_append_run _ rfl (.tmp 41) (.tmp 47) 22 rfl (.slice A6 (l.length + 1) c6) (.slice (some ⟨w6.heap.size, 0, none⟩) 1 1) rfl rfl (HAP2.out _ _) ?_); rintro v2 w7 ⟨A7, c7, rfl, hown7, _, _, hb7, _⟩; have HO7 := Lib.hid hown7; have HB7 := Lib.hid (hb7 W0 (below_drewN HB6.out _)); clear hown7 hb7)
      go_roundw
      case rel => exact ⟨k + 1, A7, c7, l ++ [(r, A0, k0)] ++ [(y, A1, c1)], by omega, by go_num, by rw [decide_eq_true (by have := H2.out; omega)], by rw [List.length_append, List.length_append]; rfl, by have := HST.out.1; rw [HKL.out] at this; rw [List.map_append, List.map_append, HLL.out, this]; rfl, by rw [List.length_append, List.length_append]; exact HO7.out, fun z hz => (by
       rcases List.mem_append.1 hz with hz | hz
       ·exact HALR.out z hz
       ·rw [List.mem_singleton.1 hz]; exact HY.out), HB7.out⟩
      case measure => simp [intOf]; omega
    ·have HST := Lib.hid (insP_high (f := RowM.key) (x := r) HS.out HGET.out (show lowIx (rows.map RowM.key) (RowM.key r) < k by have := HL.out; unfold rowKeys at this; omega))
     have hd : decide (L < k) = true := by simp; omega
     rw [hd]
     have hne : (y.key.toList == r.key.toList) = false := by rw [beq_eq_false_iff_ne]; intro e; exact HST.out.2 (ba_ext e)
     have HAP := Lib.hid (fun ty p => app_row (ty := ty) (wr.drewN p) W0.heap.size c l.length A l (y, A1, c1) rfl (HOWN.out.kept (below_drewN (Below.refl _ _) _)) (by omega) hszw)
     go_wp2
     go_quiet (fail)
     go_wp2
     go_quiet (fail)
     go_wp2_with (at_builtin; refine (wpList_append_run _ rfl (.tmp 41) (.tmp 47) 22 rfl (.slice A l.length c) (.slice (some ⟨wr.heap.size, 0, none⟩) 1 1) rfl rfl (HAP.out _ _) ?_); rintro v1 w6 ⟨A6, c6, rfl, hown6, _, _, hb6, _⟩; have HO6 := Lib.hid hown6; have HB6 := Lib.hid (hb6 W0 (below_drewN HB.out _)); clear hown6 hb6)
     go_roundw
     case rel => exact ⟨k + 1, A6, c6, l ++ [(y, A1, c1)], by omega, by go_num, by rw [decide_eq_true (by omega)], by rw [List.length_append]; rfl, by rw [List.map_append, HLL.out]; exact HST.out.1.symm, by rw [List.length_append]; exact HO6.out, HALL.out, HB6.out⟩
     case measure => simp [intOf]; omega
  ·have hke : k = rows.length := by omega
   subst hke
   obtain ⟨⟨z0, z1, z2⟩, zf, xf, hgx2⟩ := HZC.out wr hb
   have zf0 := zf 0
   have zf1 := zf 1
   have zf2 := zf 2
   have xf0 := xf 0
   clear hb zf xf
   have hnb : w.heap.size ≠ w.heap.size + 1 + 1 := by omega
   by_cases h3 : L < rows.length
   ·have hd : decide (L < rows.length) = true := by simpa using h3
    rw [hd]
    have HDN := Lib.hid (show l.map Prod.fst = insK RowM.key rows r by rw [HLL.out]; exact insP_done (by have := HL.out; unfold rowKeys at this; omega))
    go_wp2
    obtain ⟨W9, hW9, q0, q1, q2, hs9, hb9, hk9⟩ := set_four hnb x0 z0 z1 z2 (.slice A l.length c) (.int .i64 ck) (.slice CA m cc)
    rw [← hW9]
    exact bodyPost_ret (v := woV A l.length c ck CA m cc) (by simp [results, Tryz.results39, go_sem, q0, q1, q2]) rfl (with_end HB0.out HB.out hs0 HP.out HOWN.out (by omega) HH.out HDN.out hb9 hs9 hk9)
   ·have hd : decide (L < rows.length) = false := by simpa using h3
    rw [hd]
    have HDN := Lib.hid (show (l ++ [(r, A0, k0)]).map Prod.fst = insK RowM.key rows r by rw [List.map_append, HLL.out]; exact insP_last (by have := HL.out; unfold rowKeys at this; omega))
    have HALR := Lib.hid (show ∀ z ∈ l ++ [(r, A0, k0)], RowHas w P z from fun z hz => by
     rcases List.mem_append.1 hz with hz | hz
     ·exact HH.out z hz
     ·rw [List.mem_singleton.1 hz]; exact HX.out)
    have HAP := Lib.hid (fun ty => app_row (ty := ty) wr W0.heap.size c l.length A l (r, A0, k0) rfl HOWN.out (by omega) hszw)
    go_wp2_with (at_builtin; refine (wpList_append_run _ rfl (.tmp 51) (.tmp 53) 22 rfl (.slice A l.length c) (.slice (some ⟨wr.heap.size, 0, none⟩) 1 1) rfl rfl (HAP.out _) ?_); rintro v1 w6 ⟨A6, c6, rfl, hown6, _, _, hb6, _⟩; have HO6 := Lib.hid hown6; have HB6 := Lib.hid (hb6 W0 HB.out); clear hown6 hb6; clear x0 x1 x2 u0 u1 u2 u3 u4 hgx hgx1 z0 z1 z2 zf0 zf1 zf2 xf0 hgx2; obtain ⟨⟨x0, x1, x2⟩, ⟨u0, u1, u2, u3, u4⟩, hgx, hgx1⟩ := HXC.out w6 HB6.out; obtain ⟨⟨z0, z1, z2⟩, zf, xf, hgx2⟩ := HZC.out w6 HB6.out; have zf0 := zf 0; have zf1 := zf 1; have zf2 := zf 2; have xf0 := xf 0; clear zf xf)
    obtain ⟨W9, hW9, q0, q1, q2, hs9, hb9, hk9⟩ := set_four hnb x0 z0 z1 z2 (.slice A6 (l.length + 1) c6) (.int .i64 ck) (.slice CA m cc)
    rw [← hW9]
    have e1 : (l ++ [(r, A0, k0)]).length = l.length + 1 := by simp
    exact bodyPost_ret (v := woV A6 (l.length + 1) c6 ck CA m cc) (by simp [results, Tryz.results39, go_sem, q0, q1, q2]) rfl (by rw [← e1]; exact with_end HB0.out HB6.out hs0 HP.out (by rw [e1]; exact HO6.out) (by simp; omega) HALR.out HDN.out hb9 hs9 hk9)
end Go.Proofs.YtambkjnhfejfaaaGreat
