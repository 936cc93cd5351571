/-
  Contracts of functions of the program and words for memory, several texts in one: RCopyW. Conditions: those stated with each.
-/
import Derived.Test.YtambkjnhfejfaaaGreatG29
namespace Go.Proofs.YtambkjnhfejfaaaGreat
open Go.RowKit
set_option linter.unusedVariables false
def CopyOut (wo : WoM) (w : World) (e : Ending) (w' : World) : Prop :=
 ∃ RA rc CA cc, e = .returned (woV RA wo.rows.length rc wo.clock CA wo.cls.length cc) ∧ WoInX w' (· < w.heap.size) RA wo.rows.length rc CA wo.cls.length cc wo ∧ (0 < wo.cls.length → wo.cls.length ≤ 1000 → ∃ gC, CA = some ⟨gC, 0, none⟩ ∧ w.heap.size ≤ gC ∧ RefW w' (· < w.heap.size) gC RA wo.rows.length rc wo.cls.length cc wo) ∧ Below w.heap.size w w'
theorem copy_end {w ws wr W9 : World} {g0 g1 g2 N rc0 cc0 c c2 : Nat} {RA0 CA0 A A2 : Option Addr} {wo : WoM} {L : List RowX} {L2 : List ClX} (hin : WoIn w RA0 wo.rows.length rc0 CA0 wo.cls.length cc0 wo) (hG : g0 = w.heap.size ∧ g1 = w.heap.size + 1 ∧ g2 = w.heap.size + 2 ∧ N = w.heap.size + 3) (hws : Below w.heap.size w ws)
 (hL : L.map Prod.fst = wo.rows) (hown : OwnsRows ws N (.slice A L.length c) L) (hh : ∀ x ∈ L, RowHas ws (fun b => N ≤ b ∧ b < ws.heap.size ∧ (Value.slice A L.length c).ownBlock ≠ some b) x) (hNs : N ≤ ws.heap.size) (hwr : Below w.heap.size w wr) (hL2 : L2.map Prod.fst = wo.cls) (hown2 : OwnsCls wr ws.heap.size (.slice A2 L2.length c2) L2) (hh2 : ∀ x ∈ L2, ClHas wr (fun b => ws.heap.size ≤ b ∧ b < wr.heap.size ∧ (Value.slice A2 L2.length c2).ownBlock ≠ some b) x)
 (hkeep : Keeps w.heap.size (· ≠ g2) ws wr) (hs9 : W9.heap.size = wr.heap.size) (hb9 : ∀ B w0, B ≤ g1 → Below B w0 wr → Below B w0 W9) (hk9 : ∀ q, q ≠ g1 → W9.heap[q]? = wr.heap[q]?) : CopyOut wo w (.returned (woV A L.length c wo.clock A2 L2.length c2)) W9 := by
 have hr := hin.rows.1
 have hc := hin.cls.1
 have hl1 : L.length = wo.rows.length := by rw [← hL, List.length_map]
 have hl2 : L2.length = wo.cls.length := by rw [← hL2, List.length_map]
 have hsw := hkeep.bel.size
 have k1 : ∀ b, b < ws.heap.size → b ≠ g2 → b ≠ g1 → W9.heap[b]? = ws.heap[b]? := fun b h1 h2 h3 => (hk9 b h3).trans (hkeep.z b h1 h2)
 have c1 : ∀ b, N ≤ b → b < ws.heap.size → ∀ j, W9.cell? ⟨b, j, none⟩ = ws.cell? ⟨b, j, none⟩ := fun b h1 h2 j => World.cell?_of_block (w := ws) (a := ⟨b, j, none⟩) (k1 b h2 (by omega) (by omega))
 have c2' : ∀ b, ws.heap.size ≤ b → ∀ j, W9.cell? ⟨b, j, none⟩ = wr.cell? ⟨b, j, none⟩ := fun b h1 j => World.cell?_of_block (w := wr) (a := ⟨b, j, none⟩) (hk9 b (by omega))
 obtain ⟨A', c', hv, hcap, hs⟩ := hown.at_ (mx := 1759218604441) (by omega)
 injection hv with e1 _ e3
 subst e1 e3
 obtain ⟨A2', c2'', hv2, hcap2, hs2⟩ := hown2.at_ (mx := 2513169434916) (by omega)
 injection hv2 with e1 _ e3
 subst e1 e3
 have hrows : RowsAt W9 (fun b => N ≤ b ∧ b < ws.heap.size) A wo.rows := by
  rw [← hL]
  refine ⟨by simpa using hs.1, fun h0 => ?_⟩
  obtain ⟨b, o, hA, hb, hx⟩ := hs.2 (by simpa using h0)
  refine ⟨b, o, hA, hb, fun i r hr => ?_⟩
  rw [List.getElem?_map] at hr
  obtain ⟨x, hxx, rfl⟩ := Option.map_eq_some_iff.1 hr
  have hat := hx i x hxx
  have hx' := hh x (List.mem_of_getElem? hxx)
  have e : ∀ j, W9.cell? ⟨b, j, none⟩ = ws.cell? ⟨b, j, none⟩ := c1 b hb.1 hb.2
  exact ⟨(e _).trans (hat 0 _ rfl), (e _).trans (hat 1 _ rfl), (e _).trans (hat 2 _ rfl), (e _).trans (hat 3 _ rfl), ⟨x.2.1, x.2.2, (e _).trans (hat 4 _ rfl), hx'.c, hx'.r.mono (fun b hb => ⟨hb.1, hb.2.1⟩) (fun b k hb => c1 b hb.1 hb.2.1 k)⟩, hx'.ok⟩
 have hcls : ∀ b o, A2 = some ⟨b, o, none⟩ → ∀ i x, wo.cls[i]? = some x → ClAt W9 (fun q => ws.heap.size ≤ q ∧ q < W9.heap.size ∧ q ≠ b) b (o + i * 5) x := fun b o hA i x hx => by
  have hi : i < wo.cls.length := (List.getElem?_eq_some_iff.1 hx).1
  rw [← hL2, List.getElem?_map] at hx
  obtain ⟨z, hzz, rfl⟩ := Option.map_eq_some_iff.1 hx
  obtain ⟨b', o', hA', hb', hat⟩ := SeqAt.at_ hs2 hzz
  rw [hA] at hA'
  injection hA' with hA'
  injection hA' with e1 e2
  subst e1 e2
  have hx' := hh2 z (List.mem_of_getElem? hzz)
  have e : ∀ j, W9.cell? ⟨b, j, none⟩ = wr.cell? ⟨b, j, none⟩ := c2' b hb'.1
  exact ⟨(e _).trans (hat 0 _ rfl), (e _).trans (hat 1 _ rfl), (e _).trans (hat 2 _ rfl), ⟨z.2.1, z.2.2, (e _).trans (hat 3 _ rfl), hx'.c, SeqAt.wrs hx'.r (fun q hq => ⟨hq.1, by rw [hs9]; exact hq.2.1, fun e => hq.2.2 (by rw [e, hA]; rfl)⟩) (fun q k hq => c2' q hq.1 k)⟩, (e _).trans (hat 4 _ rfl), hx'.ok⟩
 have hb : Below w.heap.size w W9 := hb9 _ _ (by omega) hwr
 rw [hl1, hl2]
 refine ⟨A, c, A2, c2, rfl, ⟨rfl, by omega, hrows.rows (fun b hb => ⟨by have h2 : b < ws.heap.size := hb.2; omega, by have h1 : N ≤ b := hb.1; omega⟩) (fun _ _ _ => rfl), rfl, by omega, ⟨by omega, fun h0 => ?_⟩, hin.ck⟩, fun h0 h1000 => ?_, hb⟩
 ·obtain ⟨b, o, hA, hb', _⟩ := hs2.2 (by omega)
  exact ⟨b, o, hA, ⟨by have h2 : b < wr.heap.size := hb'.2; omega, by have h1 : ws.heap.size ≤ b := hb'.1; omega⟩, fun i x hx => (hcls b o hA i x hx).mono (fun q hq => ⟨hq.2.1, by have h1 : ws.heap.size ≤ q := hq.1; omega⟩) (fun _ _ _ => rfl) (fun _ _ _ => rfl)⟩
 ·rcases hown2.2 with ⟨hv, h00⟩ | ⟨g, cap, cur, hv, hg, hgh, hcp, _, hsz, _⟩
  ·omega
  ·injection hv with e1 _ e3
   have hne1 : g ≠ g1 := by omega
   have hglt : g < wr.heap.size := (Array.getElem?_eq_some_iff.1 hgh).1
   refine ⟨g, e1, by omega, ⟨rfl, by omega, hrows.rows (fun b hb => ⟨by have h2 : b < ws.heap.size := hb.2; omega, by have h2 : b < ws.heap.size := hb.2; omega, by have h1 : N ≤ b := hb.1; omega⟩) (fun _ _ _ => rfl), rfl, by omega, h1000, ⟨cur, cap, (hk9 g hne1).trans hgh, hsz, by omega⟩, fun i x hx => ?_, hin.ck⟩⟩
   have := hcls g 0 e1 i x hx
   rw [Nat.zero_add] at this
   exact this.mono (fun q hq => ⟨hq.2.1, hq.2.2, by have h1 : ws.heap.size ≤ q := hq.1; omega⟩) (fun _ _ _ => rfl) (fun _ _ _ => rfl)
set_option maxRecDepth 100000 in
set_option maxHeartbeats 4000000 in
theorem worldCopy_any (wo : WoM) (RA : Option Addr) (n rc : Nat) (CA : Option Addr) (m cc : Nat) (w : World) (hin : WoIn w RA n rc CA m cc wo) (h56 : wo.cls.length ≤ 2513169434916) :
 Calls Tryz.prog 5 #[woV RA n rc wo.clock CA m cc] w (CopyOut wo w) := by
 have e1 := hin.hn
 have e2 := hin.hm
 subst e1 e2
 obtain ⟨W0, hW0, hb0, hs0, bx0, bx1, bx2⟩ := boxes_three w #[.slice RA wo.rows.length rc, .int .i64 wo.clock, .slice CA wo.cls.length cc] #[.slice none 0 0, .int .i64 0, .slice none 0 0] #[.slice none 0 0, .int .i64 wo.clock, .slice none 0 0] 25 25 25
 have HI := Lib.hid hin
 have HW0 := Lib.hid hW0
 have HB0 := Lib.hid hb0
 have hrl := hin.rows.1
 have hcl := hin.cls.1
 clear hin hW0 hb0
 go_enter Tryz.func5, Tryz.ntmps5
 go_wp2
 rw [← HW0.out]
 obtain ⟨g2, hg2⟩ : ∃ g2, g2 = w.heap.size + 1 + 1 := ⟨_, rfl⟩
 rw [← hg2] at bx2 ⊢
 obtain ⟨g1, hg1⟩ : ∃ g1, g1 = w.heap.size + 1 := ⟨_, rfl⟩
 rw [← hg1] at bx1 ⊢
 obtain ⟨g0, hg0⟩ : ∃ g0, g0 = w.heap.size := ⟨_, rfl⟩
 rw [← hg0] at bx0 ⊢
 obtain ⟨N, hN⟩ : ∃ N, N = W0.heap.size := ⟨_, rfl⟩
 have HG := Lib.hid (show g0 = w.heap.size ∧ g1 = w.heap.size + 1 ∧ g2 = w.heap.size + 2 ∧ N = w.heap.size + 3 from ⟨hg0, hg1, by omega, by omega⟩)
 have HN := Lib.hid hN
 have n02 : g0 ≠ g2 := by omega
 have n20 : g2 ≠ g0 := by omega
 have n12 : g1 ≠ g2 := by omega
 have n21 : g2 ≠ g1 := by omega
 have hg2w : w.heap.size ≤ g2 := by omega
 have hg2N : g2 < N := by omega
 have hg0N : g0 < N := by omega
 have BX0 := Lib.hid bx0
 have BX1 := Lib.hid bx1
 have HST := Lib.hid (show CopyR w W0 N g2 wo.rows wo.clock 0 W0 from ⟨none, 0, [], bx2, rfl, Cells.Owns.nil _ _ _, fun _ h => (by cases h), Keeps.refl _ _ _⟩)
 clear hg0 hg1 hg2 hN hs0 bx0 bx1 bx2
 go_loopw [4] (fun i wr => ∃ (k : Nat), k ≤ wo.rows.length ∧ i = .int .i64 k ∧ CopyR w W0 N g2 wo.rows wo.clock k wr) (fun i _ => wo.rows.length - (intOf i).toNat)
 case atStart => exact ⟨0, Nat.zero_le _, rfl, HST.out⟩
 case round =>
  obtain ⟨k, hk, rfl, A, c, L, hb2, hL, hown, hh, hkeep⟩ := hrel
  have HB2 := Lib.hid hb2
  have HL := Lib.hid hL
  have HOWN := Lib.hid hown
  have HHAS := Lib.hid hh
  have HKEEP := Lib.hid hkeep
  have hb0 : BoxIs wr g0 _ := BX0.out.blk (hkeep.z g0 (by have := HN.out; omega) n02)
  have x0 := hb0.cell 0 _ rfl
  have x1 := hb0.cell 1 _ rfl
  have x2 := hb0.cell 2 _ rfl
  have z0 := hb2.cell 0 _ rfl
  have z1 := hb2.cell 1 _ rfl
  have z2 := hb2.cell 2 _ rfl
  have zf0 := hb2.fr 0
  have hlt0 : g0 < wr.heap.size := hb0.lt
  have hlt2 : g2 < wr.heap.size := hb2.lt
  have hNw : N ≤ wr.heap.size := by have h1 := hkeep.bel.size; have h2 := HN.out; omega
  have hLl : L.length = k := by have h1 := congrArg List.length hL; rw [List.length_map, List.length_take] at h1; omega
  by_cases hm : k < wo.rows.length
  ·have hww : Below w.heap.size w wr := HB0.out.trans hkeep.bel
   obtain ⟨b, o, rfl, hbp, hrow⟩ := SeqAt.at_ HI.out.rows (getD_some (d := default) hm)
   obtain ⟨y, hy0⟩ : ∃ y, y = wo.rows.getD k default := ⟨_, rfl⟩
   rw [← hy0] at hrow
   obtain ⟨A1, c1, hy4, hc, hrecs⟩ := hrow.cr
   have hcw : ∀ j, wr.cell? ⟨b, j, none⟩ = w.cell? ⟨b, j, none⟩ := fun j => hww.cell (p := ⟨b, j, none⟩) hbp
   have y0 := (hcw _).trans hrow.ck
   have y1 := (hcw _).trans hrow.cs
   have y2 := (hcw _).trans hrow.cp
   have y3 := (hcw _).trans hrow.cv
   have y4 := (hcw _).trans hy4
   have HROK := Lib.hid hrow.ok
   have hbN : b < N := by have := HG.out; omega
   have nb2 : b ≠ g2 := by omega
   have hbw : b < wr.heap.size := by omega
   have hrw : RecsAt wr wr.heap.size A1 y.recs := (hrecs.recs (fun _ h => h)).upto' hww
   have HCP := Lib.hid (fun W (hW : Below wr.heap.size wr W) => refCopy_any y.key y.lp y.val y.ls A1 y.recs.length c1 y.recs W rfl (hrw.upto hW))
   have HBCUR := Lib.hid (show Below wr.heap.size wr wr.drew from below_drew (Below.refl _ _))
   have HC := Lib.hid (show ∀ W, Below wr.heap.size wr W → (fun W => W.cell? ⟨g0, 0, none⟩ = some (.slice (some ⟨b, o, none⟩) wo.rows.length rc) ∧ (W.cell? ⟨b, o + k * 5, none⟩ = some (.string y.key) ∧ W.cell? ⟨b, o + k * 5 + 1, none⟩ = some (.int .i64 y.ls) ∧ W.cell? ⟨b, o + k * 5 + 2, none⟩ = some (.string y.lp) ∧ W.cell? ⟨b, o + k * 5 + 3, none⟩ = some (.string y.val) ∧ W.cell? ⟨b, o + k * 5 + 4, none⟩ = some (.slice A1 y.recs.length c1))) W from fun W hW => ⟨(hW.cell (p := ⟨g0, 0, none⟩) hlt0).trans x0, (hW.cell (p := ⟨b, _, none⟩) hbw).trans y0, (hW.cell (p := ⟨b, _, none⟩) hbw).trans y1, (hW.cell (p := ⟨b, _, none⟩) hbw).trans y2, (hW.cell (p := ⟨b, _, none⟩) hbw).trans y3, (hW.cell (p := ⟨b, _, none⟩) hbw).trans y4⟩)
   have HGET := Lib.hid (show wo.rows[k]? = some y by rw [hy0]; exact getD_some hm)
   have HM := Lib.hid hm
   have HBD := Lib.hid (show (L.length + 1) * 80 ≤ 140737488355328 by rw [hLl]; omega)
   have j0 : (0 : Int) ≤ (k : Int) := by omega
   have j1 : (k : Int) < (wo.rows.length : Int) := by omega
   clear hrow hrecs hc hy0 hb2 hL hown hh hkeep hb0 hww hcw hrw hy4 hLl
   go_wp2
   refine wp_region_held_drew (S := fun W => W.cell? ⟨g0, 0, none⟩ = some (.slice (some ⟨b, o, none⟩) wo.rows.length rc) ∧ (W.cell? ⟨b, o + k * 5, none⟩ = some (.string y.key) ∧ W.cell? ⟨b, o + k * 5 + 1, none⟩ = some (.int .i64 y.ls) ∧ W.cell? ⟨b, o + k * 5 + 2, none⟩ = some (.string y.lp) ∧ W.cell? ⟨b, o + k * 5 + 3, none⟩ = some (.string y.val) ∧ W.cell? ⟨b, o + k * 5 + 4, none⟩ = some (.slice A1 y.recs.length c1))) (by kernel_rfl) ?_ (fun hHeld => ?_)
   ·exact ⟨x0, y0, y1, y2, y3, y4⟩
   refine tq 0 ?_
   refine tq 2 ?_
   refine tq 3 ?_
   refine tq 4 ?_
   refine tq 5 ?_
   refine tq 6 ?_
   refine wpAnyH_ready (rs := [1, 7]) (by kernel_rfl) (by simp) ?_
   refine AllReadyH.cons (o := ?_) ?_ (fun K hK => ?_) ?_
   rotate_left 1
   ·(simp only [List.getElem?_toArray, List.getElem?_cons_zero, List.getElem?_cons_succ]; rfl)
   ·go_simp
    clear hHeld
    (refine hK.out _ _ ?_ (fun hHeld => ?_); exact HC.out _ HBCUR.out; clear hK K)
    (refine cop 7 (h := fun K hK => ?_); go_simp)
    refine (HCP.out _ HBCUR.out).mono ?_
    rintro e w3 ⟨A3, c3, rfl, hrec3, hnew3, hb3⟩
    have HB3 := Lib.hid (show Below wr.heap.size wr w3 from below_next (below_drew (Below.refl _ _)) hb3)
    have HREC := Lib.hid hrec3
    have HNEW := Lib.hid hnew3
    have t0 := (hb3.cell (p := ⟨g2, 0, none⟩) hlt2).trans z0
    have ft0 := (hb3.frozen (p := ⟨g2, 0, none⟩) hlt2).trans zf0
    have lt3 : g2 < w3.heap.size := World.block_lt_of_cell? w3 _ t0
    have HAP := Lib.hid (fun ty => app_row_big (ty := ty) w3 N c A L (y, A3, c3) (HOWN.out.kept HB3.out) HBD.out (Nat.le_trans hNw HB3.out.size))
    clear hb3 hrec3 hnew3 hHeld
    (refine hK.out _ _ ?_ (fun hHeld => ?_); exact HC.out _ HB3.out; clear hK K)
    (refine cop 8 (h := fun K hK => ?_); go_simp)
    clear hHeld
    (refine hK.out _ _ ?_ (fun hHeld => ?_); exact HC.out _ (below_alloc HB3.out _); clear hK K)
    refine wpAnyH_ready (rs := [9]) (by kernel_rfl) (by simp) ?_
    refine AllReadyH.cons (o := ?_) ?_ (fun K hK => ?_) AllReadyH.nil
    rotate_left 1
    ·(simp only [List.getElem?_toArray, List.getElem?_cons_zero, List.getElem?_cons_succ]; rfl)
    refine step_append_run _ rfl (.tmp 18) (.tmp 25) 22 rfl (.slice A L.length c) (.slice (some ⟨w3.heap.size, 0, none⟩) 1 1) rfl rfl (HAP.out _) ?_
    rintro v6 w6 ⟨A6, c6, rfl, hown6, hg6, ho6⟩
    have HOWN6 := Lib.hid hown6
    have HG6 := Lib.hid hg6
    have HO6 := Lib.hid ho6
    have e6 : ∀ q, q < w3.heap.size → (Value.slice A L.length c).ownBlock ≠ some q → w6.heap[q]? = w3.heap[q]? := fun q h1 h2 => (hg6.block q (by simp; omega) (fun e => h2 e.symm)).trans (Below.heap_alloc _ _ _ h1)
    have no : ∀ q, q < N → (Value.slice A L.length c).ownBlock ≠ some q := fun q h e => by have := (World.ownsRow.lt HOWN.out q e).1; omega
    have hgN3 : g2 < w3.heap.size := lt3
    have hs6 : ∀ q j, q < N → w6.cell? ⟨q, j, none⟩ = wr.cell? ⟨q, j, none⟩ := fun q j h => (World.cell?_of_block (w := w3) (a := ⟨q, j, none⟩) (e6 q (by have := HB3.out.size; omega) (no q h))).trans (HB3.out.cell (p := ⟨q, j, none⟩) (show q < wr.heap.size by omega))
    have u0 : w6.cell? ⟨g2, 0, none⟩ = some (.slice A L.length c) := (hs6 g2 0 hg2N).trans z0
    have uf0 : w6.frozen? ⟨g2, 0, none⟩ = false := (World.frozen?_of_block (w := w3) (a := ⟨g2, 0, none⟩) (e6 g2 lt3 (no g2 hg2N))).trans ft0
    have hS6 : (fun W => W.cell? ⟨g0, 0, none⟩ = some (.slice (some ⟨b, o, none⟩) wo.rows.length rc) ∧ (W.cell? ⟨b, o + k * 5, none⟩ = some (.string y.key) ∧ W.cell? ⟨b, o + k * 5 + 1, none⟩ = some (.int .i64 y.ls) ∧ W.cell? ⟨b, o + k * 5 + 2, none⟩ = some (.string y.lp) ∧ W.cell? ⟨b, o + k * 5 + 3, none⟩ = some (.string y.val) ∧ W.cell? ⟨b, o + k * 5 + 4, none⟩ = some (.slice A1 y.recs.length c1))) w6 := ⟨(hs6 g0 0 hg0N).trans x0, (hs6 b _ hbN).trans y0, (hs6 b _ hbN).trans y1, (hs6 b _ hbN).trans y2, (hs6 b _ hbN).trans y3, (hs6 b _ hbN).trans y4⟩
    clear hown6 hg6 ho6 e6 no hs6 t0 ft0 hgN3 hHeld
    (refine hK.out _ _ ?_ (fun hHeld => ?_); exact hS6; clear hK K)
    refine tq 10 ?_
    (refine cop 11 (h := fun K hK => ?_); go_simp)
    have hS7 : (fun W => W.cell? ⟨g0, 0, none⟩ = some (.slice (some ⟨b, o, none⟩) wo.rows.length rc) ∧ (W.cell? ⟨b, o + k * 5, none⟩ = some (.string y.key) ∧ W.cell? ⟨b, o + k * 5 + 1, none⟩ = some (.int .i64 y.ls) ∧ W.cell? ⟨b, o + k * 5 + 2, none⟩ = some (.string y.lp) ∧ W.cell? ⟨b, o + k * 5 + 3, none⟩ = some (.string y.val) ∧ W.cell? ⟨b, o + k * 5 + 4, none⟩ = some (.slice A1 y.recs.length c1))) (w6.setCell ⟨g2, 0, none⟩ (.slice A6 (L.length + 1) c6)) := by
     have e7 : ∀ q j, q ≠ g2 → (w6.setCell ⟨g2, 0, none⟩ (.slice A6 (L.length + 1) c6)).cell? ⟨q, j, none⟩ = w6.cell? ⟨q, j, none⟩ := fun q j h => World.cell?_of_block (w := w6) (a := ⟨q, j, none⟩) (Below.heap_setCell _ _ _ _ h)
     exact ⟨(e7 g0 0 n02).trans hS6.1, (e7 b _ nb2).trans hS6.2.1, (e7 b _ nb2).trans hS6.2.2.1, (e7 b _ nb2).trans hS6.2.2.2.1, (e7 b _ nb2).trans hS6.2.2.2.2.1, (e7 b _ nb2).trans hS6.2.2.2.2.2⟩
    clear hHeld hS6
    (refine hK.out _ _ ?_ (fun hHeld => ?_); exact hS7; clear hK K)
    refine wpAnyH_done (by kernel_rfl) ?_ _
    clear hHeld hS7
    have HNX := Lib.hid (copyR_step (w := w) (ck := wo.clock) HN.out hg2w hg2N HB2.out HL.out HOWN.out HHAS.out HKEEP.out HGET.out HB3.out HREC.out HNEW.out HROK.out HOWN6.out HG6.out HO6.out)
    clear u0 uf0
    go_wp2
    go_roundw
    case rel => exact ⟨k + 1, by have := HM.out; omega, by have := HM.out; go_num, HNX.out⟩
    case measure => have := HM.out; simp [intOf]; omega
   ·refine AllReadyH.cons (o := ?_) ?_ (fun K hK => ?_) AllReadyH.nil
    rotate_left 1
    ·(simp only [List.getElem?_toArray, List.getElem?_cons_zero, List.getElem?_cons_succ]; rfl)
    ·go_simp
     refine (HCP.out _ HBCUR.out).mono ?_
     rintro e w3 ⟨A3, c3, rfl, hrec3, hnew3, hb3⟩
     have HB3 := Lib.hid (show Below wr.heap.size wr w3 from below_next (below_drew (Below.refl _ _)) hb3)
     have HREC := Lib.hid hrec3
     have HNEW := Lib.hid hnew3
     have t0 := (hb3.cell (p := ⟨g2, 0, none⟩) hlt2).trans z0
     have ft0 := (hb3.frozen (p := ⟨g2, 0, none⟩) hlt2).trans zf0
     have lt3 : g2 < w3.heap.size := World.block_lt_of_cell? w3 _ t0
     have HAP := Lib.hid (fun ty => app_row_big (ty := ty) w3 N c A L (y, A3, c3) (HOWN.out.kept HB3.out) HBD.out (Nat.le_trans hNw HB3.out.size))
     clear hb3 hrec3 hnew3 hHeld
     (refine hK.out _ _ ?_ (fun hHeld => ?_); exact HC.out _ HB3.out; clear hK K)
     refine wpAnyH_ready (rs := [1, 8]) (by kernel_rfl) (by simp) ?_
     refine AllReadyH.cons (o := ?_) ?_ (fun K hK => ?_) ?_
     rotate_left 1
     ·(simp only [List.getElem?_toArray, List.getElem?_cons_zero, List.getElem?_cons_succ]; rfl)
     ·go_simp
      clear hHeld
      (refine hK.out _ _ ?_ (fun hHeld => ?_); exact HC.out _ HB3.out; clear hK K)
      (refine cop 8 (h := fun K hK => ?_); go_simp)
      clear hHeld
      (refine hK.out _ _ ?_ (fun hHeld => ?_); exact HC.out _ (below_alloc HB3.out _); clear hK K)
      refine wpAnyH_ready (rs := [9]) (by kernel_rfl) (by simp) ?_
      refine AllReadyH.cons (o := ?_) ?_ (fun K hK => ?_) AllReadyH.nil
      rotate_left 1
      ·(simp only [List.getElem?_toArray, List.getElem?_cons_zero, List.getElem?_cons_succ]; rfl)
      refine step_append_run _ rfl (.tmp 18) (.tmp 25) 22 rfl (.slice A L.length c) (.slice (some ⟨w3.heap.size, 0, none⟩) 1 1) rfl rfl (HAP.out _) ?_
      rintro v6 w6 ⟨A6, c6, rfl, hown6, hg6, ho6⟩
      have HOWN6 := Lib.hid hown6
      have HG6 := Lib.hid hg6
      have HO6 := Lib.hid ho6
      have e6 : ∀ q, q < w3.heap.size → (Value.slice A L.length c).ownBlock ≠ some q → w6.heap[q]? = w3.heap[q]? := fun q h1 h2 => (hg6.block q (by simp; omega) (fun e => h2 e.symm)).trans (Below.heap_alloc _ _ _ h1)
      have no : ∀ q, q < N → (Value.slice A L.length c).ownBlock ≠ some q := fun q h e => by have := (World.ownsRow.lt HOWN.out q e).1; omega
      have hgN3 : g2 < w3.heap.size := lt3
      have hs6 : ∀ q j, q < N → w6.cell? ⟨q, j, none⟩ = wr.cell? ⟨q, j, none⟩ := fun q j h => (World.cell?_of_block (w := w3) (a := ⟨q, j, none⟩) (e6 q (by have := HB3.out.size; omega) (no q h))).trans (HB3.out.cell (p := ⟨q, j, none⟩) (show q < wr.heap.size by omega))
      have u0 : w6.cell? ⟨g2, 0, none⟩ = some (.slice A L.length c) := (hs6 g2 0 hg2N).trans z0
      have uf0 : w6.frozen? ⟨g2, 0, none⟩ = false := (World.frozen?_of_block (w := w3) (a := ⟨g2, 0, none⟩) (e6 g2 lt3 (no g2 hg2N))).trans ft0
      have hS6 : (fun W => W.cell? ⟨g0, 0, none⟩ = some (.slice (some ⟨b, o, none⟩) wo.rows.length rc) ∧ (W.cell? ⟨b, o + k * 5, none⟩ = some (.string y.key) ∧ W.cell? ⟨b, o + k * 5 + 1, none⟩ = some (.int .i64 y.ls) ∧ W.cell? ⟨b, o + k * 5 + 2, none⟩ = some (.string y.lp) ∧ W.cell? ⟨b, o + k * 5 + 3, none⟩ = some (.string y.val) ∧ W.cell? ⟨b, o + k * 5 + 4, none⟩ = some (.slice A1 y.recs.length c1))) w6 := ⟨(hs6 g0 0 hg0N).trans x0, (hs6 b _ hbN).trans y0, (hs6 b _ hbN).trans y1, (hs6 b _ hbN).trans y2, (hs6 b _ hbN).trans y3, (hs6 b _ hbN).trans y4⟩
      clear hown6 hg6 ho6 e6 no hs6 t0 ft0 hgN3 hHeld
      (refine hK.out _ _ ?_ (fun hHeld => ?_); exact hS6; clear hK K)
      refine tq 10 ?_
      (refine cop 11 (h := fun K hK => ?_); go_simp)
      have hS7 : (fun W => W.cell? ⟨g0, 0, none⟩ = some (.slice (some ⟨b, o, none⟩) wo.rows.length rc) ∧ (W.cell? ⟨b, o + k * 5, none⟩ = some (.string y.key) ∧ W.cell? ⟨b, o + k * 5 + 1, none⟩ = some (.int .i64 y.ls) ∧ W.cell? ⟨b, o + k * 5 + 2, none⟩ = some (.string y.lp) ∧ W.cell? ⟨b, o + k * 5 + 3, none⟩ = some (.string y.val) ∧ W.cell? ⟨b, o + k * 5 + 4, none⟩ = some (.slice A1 y.recs.length c1))) (w6.setCell ⟨g2, 0, none⟩ (.slice A6 (L.length + 1) c6)) := by
       have e7 : ∀ q j, q ≠ g2 → (w6.setCell ⟨g2, 0, none⟩ (.slice A6 (L.length + 1) c6)).cell? ⟨q, j, none⟩ = w6.cell? ⟨q, j, none⟩ := fun q j h => World.cell?_of_block (w := w6) (a := ⟨q, j, none⟩) (Below.heap_setCell _ _ _ _ h)
       exact ⟨(e7 g0 0 n02).trans hS6.1, (e7 b _ nb2).trans hS6.2.1, (e7 b _ nb2).trans hS6.2.2.1, (e7 b _ nb2).trans hS6.2.2.2.1, (e7 b _ nb2).trans hS6.2.2.2.2.1, (e7 b _ nb2).trans hS6.2.2.2.2.2⟩
      clear hHeld hS6
      (refine hK.out _ _ ?_ (fun hHeld => ?_); exact hS7; clear hK K)
      refine wpAnyH_done (by kernel_rfl) ?_ _
      clear hHeld hS7
      have HNX := Lib.hid (copyR_step (w := w) (ck := wo.clock) HN.out hg2w hg2N HB2.out HL.out HOWN.out HHAS.out HKEEP.out HGET.out HB3.out HREC.out HNEW.out HROK.out HOWN6.out HG6.out HO6.out)
      clear u0 uf0
      go_wp2
      go_roundw
      case rel => exact ⟨k + 1, by have := HM.out; omega, by have := HM.out; go_num, HNX.out⟩
      case measure => have := HM.out; simp [intOf]; omega
     ·refine AllReadyH.cons (o := ?_) ?_ (fun K hK => ?_) AllReadyH.nil
      rotate_left 1
      ·(simp only [List.getElem?_toArray, List.getElem?_cons_zero, List.getElem?_cons_succ]; rfl)
      ·go_simp
       clear hHeld
       (refine hK.out _ _ ?_ (fun hHeld => ?_); exact HC.out _ (below_alloc HB3.out _); clear hK K)
       (refine cop 1 (h := fun K hK => ?_); go_simp)
       clear hHeld
       (refine hK.out _ _ ?_ (fun hHeld => ?_); exact HC.out _ (below_alloc HB3.out _); clear hK K)
       refine wpAnyH_ready (rs := [9]) (by kernel_rfl) (by simp) ?_
       refine AllReadyH.cons (o := ?_) ?_ (fun K hK => ?_) AllReadyH.nil
       rotate_left 1
       ·(simp only [List.getElem?_toArray, List.getElem?_cons_zero, List.getElem?_cons_succ]; rfl)
       refine step_append_run _ rfl (.tmp 18) (.tmp 25) 22 rfl (.slice A L.length c) (.slice (some ⟨w3.heap.size, 0, none⟩) 1 1) rfl rfl (HAP.out _) ?_
       rintro v6 w6 ⟨A6, c6, rfl, hown6, hg6, ho6⟩
       have HOWN6 := Lib.hid hown6
       have HG6 := Lib.hid hg6
       have HO6 := Lib.hid ho6
       have e6 : ∀ q, q < w3.heap.size → (Value.slice A L.length c).ownBlock ≠ some q → w6.heap[q]? = w3.heap[q]? := fun q h1 h2 => (hg6.block q (by simp; omega) (fun e => h2 e.symm)).trans (Below.heap_alloc _ _ _ h1)
       have no : ∀ q, q < N → (Value.slice A L.length c).ownBlock ≠ some q := fun q h e => by have := (World.ownsRow.lt HOWN.out q e).1; omega
       have hgN3 : g2 < w3.heap.size := lt3
       have hs6 : ∀ q j, q < N → w6.cell? ⟨q, j, none⟩ = wr.cell? ⟨q, j, none⟩ := fun q j h => (World.cell?_of_block (w := w3) (a := ⟨q, j, none⟩) (e6 q (by have := HB3.out.size; omega) (no q h))).trans (HB3.out.cell (p := ⟨q, j, none⟩) (show q < wr.heap.size by omega))
       have u0 : w6.cell? ⟨g2, 0, none⟩ = some (.slice A L.length c) := (hs6 g2 0 hg2N).trans z0
       have uf0 : w6.frozen? ⟨g2, 0, none⟩ = false := (World.frozen?_of_block (w := w3) (a := ⟨g2, 0, none⟩) (e6 g2 lt3 (no g2 hg2N))).trans ft0
       have hS6 : (fun W => W.cell? ⟨g0, 0, none⟩ = some (.slice (some ⟨b, o, none⟩) wo.rows.length rc) ∧ (W.cell? ⟨b, o + k * 5, none⟩ = some (.string y.key) ∧ W.cell? ⟨b, o + k * 5 + 1, none⟩ = some (.int .i64 y.ls) ∧ W.cell? ⟨b, o + k * 5 + 2, none⟩ = some (.string y.lp) ∧ W.cell? ⟨b, o + k * 5 + 3, none⟩ = some (.string y.val) ∧ W.cell? ⟨b, o + k * 5 + 4, none⟩ = some (.slice A1 y.recs.length c1))) w6 := ⟨(hs6 g0 0 hg0N).trans x0, (hs6 b _ hbN).trans y0, (hs6 b _ hbN).trans y1, (hs6 b _ hbN).trans y2, (hs6 b _ hbN).trans y3, (hs6 b _ hbN).trans y4⟩
       clear hown6 hg6 ho6 e6 no hs6 t0 ft0 hgN3 hHeld
       (refine hK.out _ _ ?_ (fun hHeld => ?_); exact hS6; clear hK K)
       refine tq 10 ?_
       (refine cop 11 (h := fun K hK => ?_); go_simp)
       have hS7 : (fun W => W.cell? ⟨g0, 0, none⟩ = some (.slice (some ⟨b, o, none⟩) wo.rows.length rc) ∧ (W.cell? ⟨b, o + k * 5, none⟩ = some (.string y.key) ∧ W.cell? ⟨b, o + k * 5 + 1, none⟩ = some (.int .i64 y.ls) ∧ W.cell? ⟨b, o + k * 5 + 2, none⟩ = some (.string y.lp) ∧ W.cell? ⟨b, o + k * 5 + 3, none⟩ = some (.string y.val) ∧ W.cell? ⟨b, o + k * 5 + 4, none⟩ = some (.slice A1 y.recs.length c1))) (w6.setCell ⟨g2, 0, none⟩ (.slice A6 (L.length + 1) c6)) := by
        have e7 : ∀ q j, q ≠ g2 → (w6.setCell ⟨g2, 0, none⟩ (.slice A6 (L.length + 1) c6)).cell? ⟨q, j, none⟩ = w6.cell? ⟨q, j, none⟩ := fun q j h => World.cell?_of_block (w := w6) (a := ⟨q, j, none⟩) (Below.heap_setCell _ _ _ _ h)
        exact ⟨(e7 g0 0 n02).trans hS6.1, (e7 b _ nb2).trans hS6.2.1, (e7 b _ nb2).trans hS6.2.2.1, (e7 b _ nb2).trans hS6.2.2.2.1, (e7 b _ nb2).trans hS6.2.2.2.2.1, (e7 b _ nb2).trans hS6.2.2.2.2.2⟩
       clear hHeld hS6
       (refine hK.out _ _ ?_ (fun hHeld => ?_); exact hS7; clear hK K)
       refine wpAnyH_done (by kernel_rfl) ?_ _
       clear hHeld hS7
       have HNX := Lib.hid (copyR_step (w := w) (ck := wo.clock) HN.out hg2w hg2N HB2.out HL.out HOWN.out HHAS.out HKEEP.out HGET.out HB3.out HREC.out HNEW.out HROK.out HOWN6.out HG6.out HO6.out)
       clear u0 uf0
       go_wp2
       go_roundw
       case rel => exact ⟨k + 1, by have := HM.out; omega, by have := HM.out; go_num, HNX.out⟩
       case measure => have := HM.out; simp [intOf]; omega
  ·have hke : k = wo.rows.length := by omega
   have HLR := Lib.hid (show L.map Prod.fst = wo.rows by rw [hL, hke, List.take_length])
   have HLL := Lib.hid (show L.length = wo.rows.length by rw [hLl, hke])
   obtain ⟨ws, rfl⟩ : ∃ ws, ws = wr := ⟨_, rfl⟩
   have HST2 := Lib.hid (show CopyC w ws ws.heap.size g2 (.slice A L.length c) wo.cls wo.clock 0 ws from ⟨none, 0, [], hb2, rfl, Cells.Owns.nil _ _ _, fun _ h => (by cases h), Keeps.refl _ _ _⟩)
   have HWS := Lib.hid (show Below w.heap.size w ws from HB0.out.trans hkeep.bel)
   have HBX0 := Lib.hid hb0
   have HBX1 := Lib.hid (show BoxIs ws g1 _ from BX1.out.blk (hkeep.z g1 (by have := HN.out; have := HG.out; omega) n12))
   have HNS := Lib.hid hNw
   have hmi : ¬ ((k : Int) < (wo.rows.length : Int)) := by omega
   have hmi' : decide ((k : Int) < (wo.rows.length : Int)) = false := decide_eq_false hmi
   clear hb2 hL hown hh hkeep hb0 hLl hke hk
   go_wp2
   clear x0 x1 x2 z0 z1 z2 zf0
   go_loopw [5] (fun i wr => ∃ (j : Nat), j ≤ wo.cls.length ∧ i = .int .i64 j ∧ CopyC w ws ws.heap.size g2 (.slice A L.length c) wo.cls wo.clock j wr) (fun i _ => wo.cls.length - (intOf i).toNat)
   case atStart => exact ⟨0, Nat.zero_le _, rfl, HST2.out⟩
   case round =>
    obtain ⟨j, hj, rfl, A2, c2, L2, hb2, hL2, hown2, hh2, hkeep2⟩ := hrel
    have HB2' := Lib.hid hb2
    have HL2 := Lib.hid hL2
    have HOWN2 := Lib.hid hown2
    have HHAS2 := Lib.hid hh2
    have HKEEP2 := Lib.hid hkeep2
    have hb0 : BoxIs wr g0 _ := HBX0.out.blk (hkeep2.z g0 hlt0 n02)
    have hb1 : BoxIs wr g1 _ := HBX1.out.blk (hkeep2.z g1 HBX1.out.lt n12)
    have x0 := hb0.cell 0 _ rfl
    have x1 := hb0.cell 1 _ rfl
    have x2 := hb0.cell 2 _ rfl
    have z0 := hb2.cell 0 _ rfl
    have z1 := hb2.cell 1 _ rfl
    have z2 := hb2.cell 2 _ rfl
    have zf2 := hb2.fr 2
    have lt0 : g0 < wr.heap.size := hb0.lt
    have lt2 : g2 < wr.heap.size := hb2.lt
    have hsw : ws.heap.size ≤ wr.heap.size := hkeep2.bel.size
    have hLl2 : L2.length = j := by have h1 := congrArg List.length hL2; rw [List.length_map, List.length_take] at h1; omega
    have HWR := Lib.hid (show Below w.heap.size w wr from HWS.out.trans hkeep2.bel)
    by_cases hmj : j < wo.cls.length
    ·obtain ⟨b, o, rfl, hbp, hclat⟩ := SeqAt.at_ HI.out.cls (getD_some (d := default) hmj)
     obtain ⟨y, hy0⟩ : ∃ y, y = wo.cls.getD j default := ⟨_, rfl⟩
     rw [← hy0] at hclat
     obtain ⟨A1, c1, hy3, hc1, hwrs⟩ := hclat.cw
     have hcw : ∀ j, wr.cell? ⟨b, j, none⟩ = w.cell? ⟨b, j, none⟩ := fun j => HWR.out.cell (p := ⟨b, j, none⟩) hbp
     have y0 := (hcw _).trans hclat.cp
     have y1 := (hcw _).trans hclat.cs
     have y2 := (hcw _).trans hclat.cm
     have y3 := (hcw _).trans hy3
     have y4 := (hcw _).trans hclat.ca
     have hbw : b < wr.heap.size := Nat.lt_of_lt_of_le hbp HWR.out.size
     obtain ⟨W2, hW2, q0, q1, q2, q3, q4, hbw2, hsw2⟩ := box_new wr (.int .i64 y.ph) (.int .i64 y.st) (.int .i64 y.cm) (.slice A1 y.ws.length c1) (.int .i64 y.at_) 49
     have bq : BoxIs W2 wr.heap.size [.int .i64 y.ph, .int .i64 y.st, .int .i64 y.cm, .slice A1 y.ws.length c1, .int .i64 y.at_] := by rw [hW2]; exact BoxIs.new wr _ _
     have hws2 : WrsAt W2 (· < W2.heap.size) A1 y.ws := SeqAt.wrs hwrs (fun _ h => Nat.lt_of_lt_of_le h (below_next HWR.out hbw2).size) (fun b k h => (below_next HWR.out hbw2).cell (p := ⟨b, k, none⟩) h)
     have HAW := Lib.hid (fun ty => app_wrs_big (ty := ty) W2 A1 y.ws c1 hws2)
     have HW2 := Lib.hid hW2
     have HBW2 := Lib.hid hbw2
     have HSW2 := Lib.hid hsw2
     have HBQ := Lib.hid bq
     have HGET := Lib.hid (show wo.cls[j]? = some y by rw [hy0]; exact getD_some hmj)
     have HCOK := Lib.hid hclat.ok
     have HM := Lib.hid hmj
     have HBD := Lib.hid (show (L2.length + 1) * 56 ≤ 140737488355328 by rw [hLl2]; omega)
     have hyl : y.ws.length ≤ 4398046511104 := hwrs.1
     have j0 : (0 : Int) ≤ (j : Int) := by omega
     have j1 : (j : Int) < (wo.cls.length : Int) := by omega
     clear hclat hwrs hc1 hy0 hb2 hL2 hown2 hh2 hkeep2 hb0 hb1 hcw hy3 hLl2 hW2 q0 q1 q2 q3 q4 hbw2 hsw2 bq hws2
     go_upto_region 10 with (fail)
     rw [← HW2.out]
     have bq := HBQ.out
     have q0 := bq.cell 0 _ rfl
     have q1 := bq.cell 1 _ rfl
     have q2 := bq.cell 2 _ rfl
     have q3 := bq.cell 3 _ rfl
     have q4 := bq.cell 4 _ rfl
     clear bq y0 y1 y2 y3 y4
     go_upto_region 11 with (at_builtin; refine (wpList_append_run _ rfl (.const (.slice none 0 0)) (.tmp 41) 47 rfl (.slice none 0 0) (.slice A1 y.ws.length c1) rfl rfl (HAW.out _) ?_); rintro v3 w3 ⟨A3, c3, rfl, hc3, hw3, hb3⟩; have HC3 := Lib.hid hc3; have HW3 := Lib.hid hw3; have HB3 := Lib.hid hb3; have bq := HBQ.out.upto hb3; clear q0 q1 q2 q3 q4 hc3 hw3 hb3; have q0 := bq.cell 0 _ rfl; have q1 := bq.cell 1 _ rfl; have q2 := bq.cell 2 _ rfl; have q3 := bq.cell 3 _ rfl; have q4 := bq.cell 4 _ rfl; have qf3 := bq.fr 3; have HBQ3 := Lib.hid bq; clear bq)
     obtain ⟨w4, hw4⟩ : ∃ w4, w4 = w3.setCell ⟨wr.heap.size, 3, none⟩ (.slice A3 y.ws.length c3) := ⟨_, rfl⟩
     rw [← hw4]
     have bq : BoxIs w4 wr.heap.size [.int .i64 y.ph, .int .i64 y.st, .int .i64 y.cm, .slice A3 y.ws.length c3, .int .i64 y.at_] := by rw [hw4]; exact HBQ3.out.set 3 _
     have hs4 : w4.heap.size = w3.heap.size := by rw [hw4]; simp
     have hsw2 := HSW2.out
     have k4 : ∀ q, q ≠ wr.heap.size → w4.heap[q]? = w3.heap[q]? := fun q h => by rw [hw4]; exact Below.heap_setCell _ _ _ _ h
     have hb4 : Below wr.heap.size wr w4 := by rw [hw4]; exact (below_next HBW2.out HB3.out).setCell (Nat.le_refl _) _
     have hws4 : WrsAt w4 (fun b => wr.heap.size ≤ b ∧ b < w4.heap.size) A3 y.ws := SeqAt.wrs HW3.out (fun b h => ⟨by have h1 : W2.heap.size ≤ b := h.1; omega, by have h2 : b < w3.heap.size := h.2; omega⟩) (fun b k h => World.cell?_of_block (w := w3) (a := ⟨b, k, none⟩) (k4 b (by have h1 : W2.heap.size ≤ b := h.1; omega)))
     have HWS4 := Lib.hid hws4
     have HB4 := Lib.hid hb4
     have b24 := HB2'.out.upto hb4
     have HAP := Lib.hid (fun ty => app_cl_big (ty := ty) w4 ws.heap.size c2 A2 L2 (y, A3, c3) (HOWN2.out.kept hb4) HBD.out (Nat.le_trans hsw hb4.size))
     have HNO := Lib.hid (show ∀ q, q < ws.heap.size → (Value.slice A2 L2.length c2).ownBlock ≠ some q from fun q h e => by have := (World.ownsRow.lt HOWN2.out q e).1; omega)
     clear q0 q1 q2 q3 q4 qf3 z0 z1 z2 zf2 x0 x1 x2 lt0 lt2 hws4 hb4 hw4 hsw2 k4 hs4
     have q0 := bq.cell 0 _ rfl
     have q1 := bq.cell 1 _ rfl
     have q2 := bq.cell 2 _ rfl
     have q3 := bq.cell 3 _ rfl
     have q4 := bq.cell 4 _ rfl
     have z2 := b24.cell 2 _ rfl
     have zf2 := b24.fr 2
     have lt2 : g2 < w4.heap.size := b24.lt
     clear bq b24
     go_wp2_with (at_builtin; refine (wpList_append_run _ rfl (.tmp 45) (.tmp 47) 23 rfl (.slice A2 L2.length c2) (.slice (some ⟨w4.heap.size, 0, none⟩) 1 1) rfl rfl (HAP.out _) ?_); rintro v6 w6 ⟨A6, c6, rfl, hown6, hg6, ho6⟩; have HOWN6 := Lib.hid hown6; have HG6 := Lib.hid hg6; have HO6 := Lib.hid ho6; have e6 := (hg6.block g2 (by simp; omega) (fun e => HNO.out g2 hlt2 e.symm)).trans (Below.heap_alloc w4 _ g2 lt2); have t2 := (World.cell?_of_block (w := w4) (a := ⟨g2, 2, none⟩) e6).trans z2; have tf2 := (World.frozen?_of_block (w := w4) (a := ⟨g2, 2, none⟩) e6).trans zf2; clear hown6 hg6 ho6 e6 q0 q1 q2 q3 q4)
     have HNX := Lib.hid (copyC_step (w := w) (ck := wo.clock) (W0 := ws) rfl hg2w hlt2 HB2'.out HL2.out HOWN2.out HHAS2.out HKEEP2.out HGET.out HB4.out HWS4.out HC3.out HCOK.out HOWN6.out HG6.out HO6.out)
     go_roundw
     case rel => exact ⟨j + 1, by have := HM.out; omega, by have := HM.out; go_num, HNX.out⟩
     case measure => have := HM.out; simp [intOf]; omega
    ·have hje : j = wo.cls.length := by omega
     have HLC := Lib.hid (show L2.map Prod.fst = wo.cls by rw [hL2, hje, List.take_length])
     have HLLC := Lib.hid (show L2.length = wo.cls.length by rw [hLl2, hje])
     have r0 := hb1.cell 0 _ rfl
     have r1 := hb1.cell 1 _ rfl
     have r2 := hb1.cell 2 _ rfl
     have rf0 := hb1.fr 0
     have rf1 := hb1.fr 1
     have rf2 := hb1.fr 2
     have lt1 : g1 < wr.heap.size := hb1.lt
     have hmi2 : ¬ ((j : Int) < (wo.cls.length : Int)) := by omega
     have hmi2' : decide ((j : Int) < (wo.cls.length : Int)) = false := decide_eq_false hmi2
     clear hb2 hL2 hown2 hh2 hkeep2 hb0 hb1 hLl2 hje hj
     go_wp2
     obtain ⟨W9, hW9, u0, u1, u2, hs9, hb9, hk9⟩ := set_three r0 r1 r2 (.slice A L.length c) (.int .i64 wo.clock) (.slice A2 L2.length c2)
     rw [← hW9]
     exact bodyPost_ret (v := woV A L.length c wo.clock A2 L2.length c2) (by simp [results, Tryz.results5, go_sem, u0, u1, u2]) rfl
      (copy_end HI.out HG.out HWS.out HLR.out HOWN.out HHAS.out HNS.out HWR.out HLC.out HOWN2.out HHAS2.out HKEEP2.out hs9 hb9 hk9)
end Go.Proofs.YtambkjnhfejfaaaGreat
