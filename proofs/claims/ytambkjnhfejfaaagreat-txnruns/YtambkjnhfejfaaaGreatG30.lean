/-
  Contracts of functions of the program and words for memory, several texts in one: RResolve, RPlus. Conditions: those stated with each.
-/
import Derived.Test.YtambkjnhfejfaaaGreatG29
namespace Go.Proofs.YtambkjnhfejfaaaGreat
open Go.RowKit
set_option linter.unusedVariables false
def resR (rows : List RowM) (key : ByteArray) : List RowM × Int :=
 if keyB key = false then (rows, 4) else if (look rows key).ls = 0 then (rows, 5)
 else if stOf (look rows (look rows key).lp).ls (look rows key).ls (look rows (look rows key).lp).recs = 2 then ((chgRow rows key (commitOp (look rows key).ls (cmOf (look rows (look rows key).lp).ls (look rows key).ls (look rows (look rows key).lp).recs))).1, 0)
 else if (chgRow rows (look rows key).lp (undoOp (look rows key).ls)).2 ≠ 0 then (rows, (chgRow rows (look rows key).lp (undoOp (look rows key).ls)).2)
 else chgRow (chgRow rows (look rows key).lp (undoOp (look rows key).ls)).1 key (undoOp (look rows key).ls)
theorem locked_parts {r : RowM} (h : r.ok = true) (h0 : r.ls ≠ 0) : inB r.ls 1 1099511627776 = true ∧ keyB r.lp = true := by
 have h1 := (rowB_parts.1 (show rowB r.key r.ls r.lp r.val r.recs = true from h)).2.2.2
 have h2 := (lockB_iff h0).1 h1
 exact ⟨h2.1, h2.2.1⟩
theorem commit_in {rows : List RowM} (h : RowsOk rows) {k : ByteArray} {st ls : Int} (hk : keyB k = true) (h2 : stOf ls st (look rows k).recs = 2) : inB (cmOf ls st (look rows k).recs) (st + 1) 1099511627776 = true := by
 have hrec := (rowB_parts.1 (show rowB (look rows k).key (look rows k).ls (look rows k).lp (look rows k).val (look rows k).recs = true from look_valid h hk)).2.2.1
 unfold stOf at h2
 unfold cmOf
 split at h2
 ·omega
 ·rename_i hne
  rw [if_neg hne]
  split at h2
  ·rename_i hh
   obtain ⟨x, hx⟩ := Option.isSome_iff_exists.1 (show (firstOf st (look rows k).recs).isSome = true from hh)
   have hm : x ∈ (look rows k).recs := List.mem_of_find?_eq_some hx
   have hs : x.s = st := by have := List.find?_some hx; simpa using this
   have hb := ((recsOk_iff _).1 hrec).1 x hm
   have e : recOf st (look rows k).recs = x := by rw [recOf, hx]; rfl
   rw [e] at h2 ⊢
   split at h2
   ·omega
   ·rename_i hc
    unfold recB at hb
    rw [if_neg hc] at hb
    simp only [Bool.and_eq_true, decide_eq_true_eq] at hb
    exact inB_true.2 ⟨by omega, by omega⟩
  ·omega
theorem resolve_eq {wo : WoM} (h : RowsOk wo.rows) (key : ByteArray) : resolveW wo key = ({ wo with rows := (resR wo.rows key).1 }, (resR wo.rows key).2) := by
 unfold resolveW resR
 by_cases hk : keyB key = false
 ·rw [if_pos hk, if_pos hk]
 ·rw [if_neg hk, if_neg hk]
  have hkt : keyB key = true := by simpa using hk
  by_cases hh : hasK (rowKeys wo.rows) key = true
  ·have el : look wo.rows key = rowAt wo.rows key := by rw [look, if_pos hh]
   rw [if_neg (by rw [hh]; decide), el]
   by_cases h0 : (rowAt wo.rows key).ls = 0
   ·rw [if_pos h0, if_pos h0]
   ·rw [if_neg h0, if_neg h0]
    dsimp only
    have hp := locked_parts (h.ok _ (rowAt_mem hh)) h0
    have hst := inB_true.1 hp.1
    rw [stat_look _ hst.1]
    dsimp only
    by_cases h2 : stOf (look wo.rows (rowAt wo.rows key).lp).ls (rowAt wo.rows key).ls (look wo.rows (rowAt wo.rows key).lp).recs = 2
    ·rw [if_pos h2, if_pos h2]
     have hcm := commit_in h hp.2 h2
     have hz : (commitOp (rowAt wo.rows key).ls (cmOf (look wo.rows (rowAt wo.rows key).lp).ls (rowAt wo.rows key).ls (look wo.rows (rowAt wo.rows key).lp).recs) (look wo.rows key)).2 = 0 := by
      rw [el]
      unfold commitOp
      have : commitE (rowAt wo.rows key).key (rowAt wo.rows key).ls (rowAt wo.rows key).lp (rowAt wo.rows key).val (rowAt wo.rows key).recs (rowAt wo.rows key).ls (cmOf (look wo.rows (rowAt wo.rows key).lp).ls (rowAt wo.rows key).ls (look wo.rows (rowAt wo.rows key).lp).recs) = 0 := by
       unfold commitE
       rw [if_neg (by rw [show rowB (rowAt wo.rows key).key (rowAt wo.rows key).ls (rowAt wo.rows key).lp (rowAt wo.rows key).val (rowAt wo.rows key).recs = true from h.ok _ (rowAt_mem hh)]; decide), if_neg (by rw [hp.1]; decide), if_neg (by rw [hcm]; decide), if_neg (by rw [stOf_one.2 rfl]; decide), if_neg (by simp)]
      rw [if_pos this]
     rw [chg_ins hz (.inl hh) (by rw [el] at hz ⊢; rw [(commitOp_valid (h.ok _ (rowAt_mem hh)) hz).2.1]; exact rowAt_key hh)]
    ·rw [if_neg h2, if_neg h2]
     by_cases h3 : (chgRow wo.rows (rowAt wo.rows key).lp (undoOp (rowAt wo.rows key).ls)).2 ≠ 0
     ·rw [if_pos h3, if_pos h3]
     ·rw [if_neg h3, if_neg h3]
  ·have hf : hasK (rowKeys wo.rows) key = false := by simpa using hh
   have el : look wo.rows key = freshRow key := by rw [look, if_neg hh]
   rw [if_pos hf, el, if_pos (show (freshRow key).ls = 0 from rfl)]
theorem rows_fin {w W W9 : World} {P P5 : Nat → Prop} {x : List RowM × Int} {RA : Option Addr} {rc m cc : Nat} {ck : Int} {CA : Option Addr} (hP : ∀ b, P b → b < w.heap.size) (hb : Below w.heap.size w W) (hr : RowsAt W P5 RA x.1) (h5 : ∀ b, P5 b → P b ∨ (w.heap.size + 2 ≤ b ∧ b < W.heap.size)) (hc : x.1.length ≤ rc) (hs9 : W9.heap.size = W.heap.size) (hb9 : ∀ B w0, B ≤ w.heap.size + 1 → Below B w0 W → Below B w0 W9) (hk9 : ∀ q, q ≠ w.heap.size + 1 → W9.heap[q]? = W.heap[q]?) :
 RowsOut x P ck CA m cc w (.returned (.tuple #[woV RA x.1.length rc ck CA m cc, .int .i64 x.2])) W9 :=
 ⟨RA, rc, rfl, hc, rows_set (hr.rows h5 (fun _ _ _ => rfl)) hP hs9 hk9, hb9 _ _ (by omega) hb⟩
set_option maxRecDepth 100000 in
set_option maxHeartbeats 4000000 in
theorem resolved_any (key : ByteArray) (P : Nat → Prop) (RA CA : Option Addr) (n rc m cc : Nat) (ck : Int) (rows : List RowM) (w : World) (hn : n = rows.length) (hrc : n ≤ rc) (hr : RowsAt w P RA rows) (hP : ∀ b, P b → b < w.heap.size) (hs : RowsOk rows) (hks : key.size ≤ maxLen) :
 Calls Tryz.prog 23 #[woV RA n rc ck CA m cc, .string key] w (RowsOut (resR rows key) P ck CA m cc w) := by
 subst hn
 obtain ⟨W0, hW0, hb0, hs0, hbox⟩ := two_worlds w (.slice RA rows.length rc) (.int .i64 ck) (.slice CA m cc) (.slice none 0 0) (.int .i64 0) (.slice none 0 0) 25
 have hr0 : RowsAt W0 P RA rows := rows_turn hr hP hb0 (fun _ h => h)
 have hP0 : ∀ b, P b → b < W0.heap.size := fun b h => Nat.lt_of_lt_of_le (hP b h) hb0.size
 have HRO := Lib.hid (fun k hk W (hW : Below W0.heap.size W0 W) => rowOf_any k P RA CA rows.length rc m cc ck rows W rfl (rows_turn hr0 hP0 hW (fun _ h => h)) (fun b h => Nat.lt_of_lt_of_le (hP0 b h) hW.size) hs.inc hk)
 have HR0 := Lib.hid hr0
 have HRW := Lib.hid hr
 have HP := Lib.hid hP
 have HP0 := Lib.hid hP0
 have HS := Lib.hid hs
 have HW0 := Lib.hid hW0
 have HB0 := Lib.hid hb0
 have HS0 := Lib.hid hs0
 have HBOX := Lib.hid hbox
 have h40 := hs.len
 have hle : rows.length ≤ rc := hrc
 have HSAME := Lib.hid (show ∀ (e : Int) W W9, Below W0.heap.size W0 W → W9.heap.size = W.heap.size → (∀ B w0, B ≤ w.heap.size + 1 → Below B w0 W → Below B w0 W9) → (∀ q, q ≠ w.heap.size + 1 → W9.heap[q]? = W.heap[q]?) → RowsOut (rows, e) P ck CA m cc w (.returned (.tuple #[woV RA rows.length rc ck CA m cc, .int .i64 e])) W9 from
  fun e W W9 hW h1 h2 h3 => rows_fin (x := (rows, e)) hP (below_next hb0 hW) (rows_turn hr0 hP0 hW (fun b h => h)) (fun b h => .inl h) hle h1 h2 h3)
 have HKS := Lib.hid hks
 obtain ⟨X, hX⟩ : ∃ X, X = resR rows key := ⟨_, rfl⟩
 rw [← hX]
 have HX := Lib.hid hX
 clear hr hr0 hP hP0 hs hW0 hb0 hrc hbox hks hs0 hX
 go_enter Tryz.func23, Tryz.ntmps23
 cases hkb : keyB key with
 | false =>
  have HE := Lib.hid (show X = (rows, 4) by rw [HX.out, resR, if_pos hkb])
  go_wp2_with (go_at_call 18; refine (keyMay_any _ _ HKS.out).mono ?_; rintro e w' ⟨rfl, rfl⟩)
  obtain ⟨Wz, hWz, hbz, hsz, hboxz⟩ := two_worlds w (.slice RA rows.length rc) (.int .i64 ck) (.slice CA m cc) (.slice RA rows.length rc) (.int .i64 ck) (.slice CA m cc) 25
  rw [← hWz]
  obtain ⟨_, _, _, q0, q1, q2, _⟩ := hboxz Wz (Below.refl _ _)
  exact bodyPost_ret (v := .tuple #[woV RA rows.length rc ck CA m cc, .int .i64 4]) (by simp [results, Tryz.results23, go_sem, q0, q1, q2]) rfl (by rw [HE.out]; exact ⟨RA, rc, rfl, hle, rows_turn HRW.out HP.out hbz (fun b h => .inl h), hbz⟩)
 | true =>
  have HKB := Lib.hid hkb
  have HLK := Lib.hid (look_key rows key)
  have HLV := Lib.hid (look_valid HS.out hkb)
  have HXE := Lib.hid (show X = if (look rows key).ls = 0 then (rows, 5)
   else if stOf (look rows (look rows key).lp).ls (look rows key).ls (look rows (look rows key).lp).recs = 2 then ((chgRow rows key (commitOp (look rows key).ls (cmOf (look rows (look rows key).lp).ls (look rows key).ls (look rows (look rows key).lp).recs))).1, 0)
   else if (chgRow rows (look rows key).lp (undoOp (look rows key).ls)).2 ≠ 0 then (rows, (chgRow rows (look rows key).lp (undoOp (look rows key).ls)).2)
   else chgRow (chgRow rows (look rows key).lp (undoOp (look rows key).ls)).1 key (undoOp (look rows key).ls) by rw [HX.out, resR, if_neg (by rw [hkb]; decide)])
  have HEQ := Lib.hid (commitOp_valid (r := look rows key) (st := (look rows key).ls) (cm := cmOf (look rows (look rows key).lp).ls (look rows key).ls (look rows (look rows key).lp).recs) (look_valid HS.out hkb))
  have HCI := Lib.hid (chg_ins (rows := rows) (key := key) (op := commitOp (look rows key).ls (cmOf (look rows (look rows key).lp).ls (look rows key).ls (look rows (look rows key).lp).recs)))
  have HHK := Lib.hid (show (look rows key).ls ≠ 0 → hasK (rowKeys rows) key = true from fun h => by
   cases e : hasK (rowKeys rows) key with
   | true => rfl
   | false => exact absurd (by rw [look, if_neg (by rw [e]; decide)]; rfl) h)
  have HCZ := Lib.hid (show (look rows key).ls ≠ 0 → stOf (look rows (look rows key).lp).ls (look rows key).ls (look rows (look rows key).lp).recs = 2 → (commitOp (look rows key).ls (cmOf (look rows (look rows key).lp).ls (look rows key).ls (look rows (look rows key).lp).recs) (look rows key)).2 = 0 from fun h0 h2 => by
   have hp := locked_parts (look_valid HS.out hkb) h0
   have hcm := commit_in HS.out hp.2 h2
   unfold commitOp
   have : commitE (look rows key).key (look rows key).ls (look rows key).lp (look rows key).val (look rows key).recs (look rows key).ls (cmOf (look rows (look rows key).lp).ls (look rows key).ls (look rows (look rows key).lp).recs) = 0 := by
    unfold commitE
    rw [if_neg (by rw [show rowB (look rows key).key (look rows key).ls (look rows key).lp (look rows key).val (look rows key).recs = true from look_valid HS.out hkb]; decide), if_neg (by rw [hp.1]; decide), if_neg (by rw [hcm]; decide), if_neg (by rw [stOf_one.2 rfl]; decide), if_neg (by simp)]
   rw [if_pos this])
  have HLP := Lib.hid (show (look rows key).ls ≠ 0 → inB (look rows key).ls 1 1099511627776 = true ∧ keyB (look rows key).lp = true from fun h0 => locked_parts (look_valid HS.out hkb) h0)
  go_wp2_with (go_at_call 18; refine (keyMay_any _ _ HKS.out).mono ?_; rintro e w' ⟨rfl, rfl⟩)
  rw [← HW0.out]
  refine (HRO.out key HKS.out W0 (Below.refl _ _)).mono ?_
  rintro e w1 ⟨A, c, rfl, hh, hb1⟩
  obtain ⟨r, hrd⟩ : ∃ r, r = look rows key := ⟨_, rfl⟩
  rw [← hrd] at HLK HLV HXE HEQ HCI HHK HCZ HLP hh ⊢
  have HH1 := Lib.hid (hh.mono (fun _ h => h) (fun b k hp => hb1.cell (p := ⟨b, k, none⟩) (HP0.out b hp)) : RowHas w1 P (r, A, c))
  obtain ⟨x0, x1, x2, z0, z1, z2, zf0, zf1, zf2, g0, g1⟩ := HBOX.out w1 hb1
  have HB1 := Lib.hid hb1
  have HRX := Lib.hid (RBox.new w1 r A c)
  obtain ⟨W1, hW1, _, _, _, _, _, hbw1, hsw1⟩ := box_new w1 (.string r.key) (.int .i64 r.ls) (.string r.lp) (.string r.val) (.slice A r.recs.length c) 45
  rw [← hW1] at HRX
  have HB01 := Lib.hid (below_next hb1 hbw1)
  have HW1 := Lib.hid hW1
  have HBW1 := Lib.hid hbw1
  have HRO2 := Lib.hid (HRO.out r.lp HH1.out.ok.p W1 HB01.out)
  obtain ⟨p, hpd⟩ : ∃ p, p = look rows r.lp := ⟨_, rfl⟩
  have HPD := Lib.hid hpd
  rw [← hpd] at HXE HEQ HCI HCZ HRO2
  clear hh hb1 hrd hW1 hbw1 hkb hsw1 hpd
  by_cases h0 : r.ls = 0
  ·have HE := Lib.hid (show X = (rows, 5) by rw [HXE.out, if_pos h0])
   have h0' : (r.ls == 0) = true := by simpa using h0
   obtain ⟨ls, hls⟩ : ∃ ls, ls = r.ls := ⟨_, rfl⟩
   clear h0
   go_wp2
   obtain ⟨W9, hW9, q0, q1, q2, hs9, hb9, hk9⟩ := set_three z0 z1 z2 (.slice RA rows.length rc) (.int .i64 ck) (.slice CA m cc)
   rw [← hW9]
   exact bodyPost_ret (v := .tuple #[woV RA rows.length rc ck CA m cc, .int .i64 5]) (by simp [results, Tryz.results23, go_sem, al_cell q0, al_cell q1, al_cell q2]) rfl (by rw [HE.out]; exact RowsOut.alloc (HSAME.out 5 w1 W9 HB1.out hs9 hb9 hk9) _ HP.out)
  ·have h0' : (r.ls == 0) = false := by simpa using h0
   have HLP0 := Lib.hid (HLP.out h0)
   have HH0 := Lib.hid (HHK.out h0)
   rw [if_neg h0] at HXE
   have HN0 := Lib.hid h0
   clear h0
   go_wp2_with fail
   rw [← HW1.out]
   refine HRO2.out.mono ?_
   rintro e w2 ⟨A2, c2, rfl, hh2, hb2⟩
   have hb02 := below_next HB01.out hb2
   have HH2 := Lib.hid (hh2.mono (fun _ h => h) (fun b k hp => hb2.cell (p := ⟨b, k, none⟩) (Nat.lt_of_lt_of_le (HP0.out b hp) HB01.out.size)) : RowHas w2 P (p, A2, c2))
   have rx := HRX.out.upto hb2
   have r0 := rx.c0
   have r1 := rx.c1
   have r2 := rx.c2
   have r3 := rx.c3
   have r4 := rx.c4
   have HB02 := Lib.hid hb02
   have hrl2 : w1.heap.size < w2.heap.size := World.block_lt_of_cell? w2 _ r0
   obtain ⟨W2, hW2, y0, y1, y2, y3, y4, hbw2, hsw2⟩ := box_new w2 (.string p.key) (.int .i64 p.ls) (.string p.lp) (.string p.val) (.slice A2 p.recs.length c2) 45
   have HW2 := Lib.hid hW2
   have HBW2 := Lib.hid hbw2
   have HB12 := Lib.hid hb2
   have HRX2 := Lib.hid (rx.upto hbw2)
   clear x0 x1 x2 z0 z1 z2 zf0 zf1 zf2 g0 g1 hh2 hb2 hW2 hb02 rx hbw2 y0 y1 y2 y3 y4
   obtain ⟨x0, x1, x2, z0, z1, z2, zf0, zf1, zf2, g0, g1⟩ := HBOX.out w2 HB02.out
   have HPV := Lib.hid (show p.ok = true by rw [HPD.out]; exact look_valid HS.out HLP0.out.2)
   go_wp2_with fail
   rw [← HW2.out]
   have HP2 : ∀ b, P b → b < w2.heap.size := fun b h => Nat.lt_of_lt_of_le (HP0.out b h) HB02.out.size
   refine (refStatus_ok p.key p.lp p.val p.ls A2 p.recs.length c2 p.recs r.ls W2 ((HH2.out.op HP2).upto HBW2.out).i (show rowB p.key p.ls p.lp p.val p.recs = true from HPV.out) HLP0.out.1).mono ?_
   rintro e w3 ⟨rfl, hb3⟩
   have hb03 := below_next (below_next HB02.out HBW2.out) hb3
   have rx := HRX2.out.upto hb3
   have HRX3 := Lib.hid rx
   have HB03 := Lib.hid hb03
   have HB13 := Lib.hid (show Below w1.heap.size w1 w3 from below_next HBW1.out (below_next (below_next HB12.out HBW2.out) hb3))
   have HH3 := Lib.hid (show RowHas w3 P (r, A, c) from HH1.out.mono (fun _ h => h) (fun b k hp => HB13.out.cell (p := ⟨b, k, none⟩) (Nat.lt_of_lt_of_le (HP0.out b hp) HB1.out.size)))
   have r0 := rx.c0
   have r1 := rx.c1
   have r2 := rx.c2
   have r3 := rx.c3
   have r4 := rx.c4
   have hrl3 : w1.heap.size < w3.heap.size := World.block_lt_of_cell? w3 _ r0
   clear x0 x1 x2 z0 z1 z2 zf0 zf1 zf2 g0 g1 hb3 hb03 rx hrl2
   obtain ⟨x0, x1, x2, z0, z1, z2, zf0, zf1, zf2, g0, g1⟩ := HBOX.out w3 HB03.out
   have HP3 := Lib.hid (show ∀ b, P b → b < w3.heap.size from fun b h => Nat.lt_of_lt_of_le (HP0.out b h) HB03.out.size)
   obtain ⟨sv, hsv⟩ : ∃ sv, sv = stOf p.ls r.ls p.recs := ⟨_, rfl⟩
   obtain ⟨cv, hcv⟩ : ∃ cv, cv = cmOf p.ls r.ls p.recs := ⟨_, rfl⟩
   rw [← hsv, ← hcv] at HXE HCZ
   rw [← hcv] at HCI HEQ
   rw [← hsv, ← hcv]
   clear hsv hcv
   by_cases h2 : sv = 2
   ·subst h2
    have HZ0 := Lib.hid (HCZ.out HN0.out rfl)
    have HE := Lib.hid (show X = ((chgRow rows key (commitOp r.ls cv)).1, 0) by rw [HXE.out, if_pos rfl])
    go_wp2_with fail
    refine (commitRef_op r A r.recs.length c r.ls cv w3 (HH3.out.op HP3.out)).mono ?_
    rintro e w4 ⟨A4, c4, rfl, hrecs4, hnew4, hb4⟩
    obtain ⟨U, hU⟩ : ∃ U, U = commitOp r.ls cv r := ⟨_, rfl⟩
    have HUOK := Lib.hid (commitOp_ok (st := r.ls) (cm := cv) HH3.out.ok)
    rw [← hU] at HUOK HZ0 HEQ HCI hrecs4 hnew4 ⊢
    have hb04 := below_next HB03.out hb4
    obtain ⟨W4, hW4, _, _, _, _, _, hbw4, hsw4⟩ := box_new w4 (.string U.1.key) (.int .i64 U.1.ls) (.string U.1.lp) (.string U.1.val) (.slice A4 U.1.recs.length c4) 45
    have h04 : Below W0.heap.size W0 W4 := below_next hb04 hbw4
    have hs03 := HB03.out.size
    have hs04 := hb4.size
    have hs0 := HS0.out
    have hhas : RowHas W4 (fun b => P b ∨ (w.heap.size + 2 ≤ b ∧ b < w4.heap.size)) (U.1, A4, c4) :=
     (op_has (w := w3) (w' := w4) (P := fun b => P b ∨ (w.heap.size + 2 ≤ b ∧ b < w4.heap.size)) (HUOK.out HZ0.out) hrecs4 hnew4 (fun b h1 h2 => .inr ⟨by omega, h2⟩)).mono (fun _ h => h) (fun b k h => hbw4.cell (p := ⟨b, k, none⟩) (by rcases h with h | h; exact Nat.lt_of_lt_of_le (HP0.out b h) hb04.size; exact h.2))
    have HWI := Lib.hid (withRow_any (fun b => P b ∨ (w.heap.size + 2 ≤ b ∧ b < w4.heap.size)) RA CA rows.length rc m cc ck rows U.1 A4 c4 W4 rfl (rows_turn HR0.out HP0.out h04 (fun b h => .inl h)) (fun b h => by rcases h with h | h; exact Nat.lt_of_lt_of_le (HP0.out b h) h04.size; omega) HS.out.inc hhas h40)
    have HINS := Lib.hid (HCI.out HZ0.out (.inl HH0.out) ((HEQ.out HZ0.out).2.1.trans HLK.out))
    have HW4 := Lib.hid hW4
    have HB04 := Lib.hid h04
    clear x0 x1 x2 z0 z1 z2 zf0 zf1 zf2 g0 g1 r0 r1 r2 r3 r4 hrl3 hs0 hs03
    obtain ⟨x0, x1, x2, z0, z1, z2, zf0, zf1, zf2, g0, g1⟩ := HBOX.out w4 hb04
    clear hb4 hb04 hW4 hbw4 h04 hhas hrecs4 hnew4 hU hs04 hsw4
    obtain ⟨⟨uk, uls, ulp, uv, ur⟩, ue⟩ := U
    dsimp only at HWI HW4 HINS
    go_wp2_with fail
    rw [← HW4.out]
    refine HWI.out.mono ?_
    rintro e w5 ⟨RA5, rc5, rfl, hc5, hrows5, hb5⟩
    have hb05 := below_next HB04.out hb5
    have HR5 := Lib.hid hrows5
    have HC5 := Lib.hid hc5
    have HB05 := Lib.hid hb05
    have HB45 := Lib.hid hb5
    clear x0 x1 x2 z0 z1 z2 zf0 zf1 zf2 g0 g1 hrows5 hc5 hb5
    obtain ⟨x0, x1, x2, z0, z1, z2, zf0, zf1, zf2, g0, g1⟩ := HBOX.out w5 hb05
    clear hb05
    go_wp2
    obtain ⟨NR, hNR⟩ : ∃ NR, NR = insK RowM.key rows ⟨uk, uls, ulp, uv, ur⟩ := ⟨_, rfl⟩
    rw [← hNR] at HR5 HC5 HINS ⊢
    obtain ⟨W9, hW9, q0, q1, q2, hs9, hb9, hk9⟩ := set_three z0 z1 z2 (.slice RA5 NR.length rc5) (.int .i64 ck) (.slice CA m cc)
    rw [← hW9]
    exact bodyPost_ret (v := .tuple #[woV RA5 NR.length rc5 ck CA m cc, .int .i64 0]) (by simp [results, Tryz.results23, go_sem, q0, q1, q2]) rfl
     (by rw [HE.out, HINS.out]; exact rows_fin (x := (NR, 0)) HP.out (below_next HB0.out HB05.out) HR5.out (fun b h => by
       have h1 := HB45.out.size
       have h2 := HB04.out.size
       have h3 := HS0.out
       rcases h with (h | h) | h
       ·exact .inl h
       ·exact .inr ⟨h.1, Nat.lt_of_lt_of_le (by rw [HW4.out]; simp; omega) h1⟩
       ·exact .inr ⟨by omega, h.2⟩) HC5.out hs9 hb9 hk9)
   ·have h2' : (sv == 2) = false := by simpa using h2
    rw [if_neg h2] at HXE
    clear h2
    have HUN := Lib.hid (undo_any r.lp r.ls P RA CA rows.length rc m cc ck rows w3 rfl hle (rows_turn HR0.out HP0.out HB03.out (fun _ h => h)) HP3.out HS.out HH3.out.ok.p HLP0.out.2)
    have HYOK := Lib.hid (chg_ok HS.out (undoOp_good r.ls) (.inr HLP0.out.2 : hasK (rowKeys rows) r.lp = true ∨ keyB r.lp = true))
    obtain ⟨Y, hY⟩ : ∃ Y, Y = chgRow rows r.lp (undoOp r.ls) := ⟨_, rfl⟩
    rw [← hY] at HUN HXE HYOK
    clear hY
    go_wp2_with fail
    refine HUN.out.mono ?_
    rintro e w4 ⟨RA4, rc4, rfl, hc4, hrows4, hb4⟩
    have HB04 := Lib.hid (below_next HB03.out hb4)
    have HB34 := Lib.hid hb4
    have HR4 := Lib.hid hrows4
    have HC4 := Lib.hid hc4
    have rx := HRX3.out.upto hb4
    have HRX4 := Lib.hid rx
    clear r0 r1 r2 r3 r4 hrl3 x0 x1 x2 z0 z1 z2 zf0 zf1 zf2 g0 g1 hb4 hrows4 hc4
    have r0 := rx.c0
    have r1 := rx.c1
    have r2 := rx.c2
    have r3 := rx.c3
    have r4 := rx.c4
    have hrl4 : w1.heap.size < w4.heap.size := World.block_lt_of_cell? w4 _ r0
    clear rx
    obtain ⟨x0, x1, x2, z0, z1, z2, zf0, zf1, zf2, g0, g1⟩ := HBOX.out w4 HB04.out
    by_cases h3 : Y.2 = 0
    ·have h3' : (Y.2 == 0) = true := by simpa using h3
     have HE := Lib.hid (show X = chgRow Y.1 key (undoOp r.ls) by rw [HXE.out, if_neg (by simpa using h3)])
     obtain ⟨W4, hW4, y0, y1, y2, hbw4, hsw4⟩ := box3_new w4 (.slice RA4 Y.1.length rc4) (.int .i64 ck) (.slice CA m cc) 25
     have HB04' := Lib.hid (below_next HB04.out hbw4)
     have HUN2 := Lib.hid (undo_any key r.ls (fun b => P b ∨ (w3.heap.size ≤ b ∧ b < w4.heap.size)) RA4 CA Y.1.length rc4 m cc ck Y.1 W4 rfl HC4.out (HR4.out.rows (fun _ h => h) (fun b k h => hbw4.cell (p := ⟨b, k, none⟩) (by rcases h with h | h; exact Nat.lt_of_lt_of_le (HP3.out b h) HB34.out.size; exact h.2))) (fun b h => by
      have := HB34.out.size
      rcases h with h | h
      ·have := HP3.out b h; omega
      ·omega) HYOK.out HKS.out HKB.out)
     have HW4 := Lib.hid hW4
     have HSW4 := Lib.hid hsw4
     obtain ⟨Y1, Y2⟩ := Y
     dsimp only at h3 h3' HE HW4 HUN2 HSW4
     subst h3
     clear hW4 hbw4 y0 y1 y2 hsw4
     go_wp2_with fail
     rw [← HW4.out]
     refine HUN2.out.mono ?_
     rintro e w5 ⟨RA5, rc5, rfl, hc5, hrows5, hb5⟩
     have HB05 := Lib.hid (below_next HB04'.out hb5)
     have HB45 := Lib.hid hb5
     have HR5 := Lib.hid hrows5
     have HC5 := Lib.hid hc5
     clear x0 x1 x2 z0 z1 z2 zf0 zf1 zf2 g0 g1 hrows5 hc5 hb5 r0 r1 r2 r3 r4 hrl4
     obtain ⟨x0, x1, x2, z0, z1, z2, zf0, zf1, zf2, g0, g1⟩ := HBOX.out w5 HB05.out
     obtain ⟨NR, hNR⟩ : ∃ NR, NR = chgRow Y1 key (undoOp r.ls) := ⟨_, rfl⟩
     rw [← hNR] at HR5 HC5 HE ⊢
     clear hNR
     obtain ⟨N1, N2⟩ := NR
     dsimp only at HR5 HC5
     go_wp2
     obtain ⟨W9, hW9, q0, q1, q2, hs9, hb9, hk9⟩ := set_three z0 z1 z2 (.slice RA5 N1.length rc5) (.int .i64 ck) (.slice CA m cc)
     rw [← hW9]
     exact bodyPost_ret (v := .tuple #[woV RA5 N1.length rc5 ck CA m cc, .int .i64 N2]) (by simp [results, Tryz.results23, go_sem, q0, q1, q2]) rfl
      (by rw [HE.out]; exact rows_fin (x := (N1, N2)) HP.out (below_next HB0.out HB05.out) HR5.out (fun b h => by
        have h1 := HB45.out.size
        have h2 := HB03.out.size
        have h3 := HS0.out
        have h4 := HSW4.out
        have h5 := HB34.out.size
        rcases h with (h | h) | h
        ·exact .inl h
        ·exact .inr ⟨by omega, by omega⟩
        ·exact .inr ⟨by omega, h.2⟩) HC5.out hs9 hb9 hk9)
    ·have h3' : (Y.2 == 0) = false := by simpa using h3
     have HE := Lib.hid (show X = (rows, Y.2) by rw [HXE.out, if_pos h3])
     obtain ⟨Y1, Y2⟩ := Y
     dsimp only at h3 h3' HE
     go_wp2
     obtain ⟨W9, hW9, q0, q1, q2, hs9, hb9, hk9⟩ := set_three z0 z1 z2 (.slice RA rows.length rc) (.int .i64 ck) (.slice CA m cc)
     rw [← hW9]
     exact bodyPost_ret (v := .tuple #[woV RA rows.length rc ck CA m cc, .int .i64 Y2]) (by simp [results, Tryz.results23, go_sem, al_cell q0, al_cell q1, al_cell q2]) rfl (by rw [HE.out]; exact RowsOut.alloc (HSAME.out Y2 w4 W9 HB04.out hs9 hb9 hk9) _ HP.out)
set_option maxRecDepth 100000 in
set_option maxHeartbeats 2000000 in
theorem writeAt_any (key : ByteArray) (P : Nat → Prop) (A : Option Addr) (n c : Nat) (l : List WrM) (w : World) (hn : n = l.length) (hr : WrsAt w P A l) (hP : ∀ b, P b → b < w.heap.size) (hs : Inc (wrKeys l)) :
 Calls Tryz.prog 17 #[.slice A n c, .string key] w fun e w' => e = .returned (.int .i64 (if hasK (wrKeys l) key = true then (lowIx (wrKeys l) key : Int) else -1)) ∧ Below w.heap.size w w' := by
 subst hn
 have hlen := hr.1
 have HR := Lib.hid hr
 have HS := Lib.hid hs
 have HP := Lib.hid hP
 clear hr hs hP
 obtain ⟨iv, hiv⟩ : ∃ iv : Int, iv = (if hasK (wrKeys l) key = true then (lowIx (wrKeys l) key : Int) else -1) := ⟨_, rfl⟩
 rw [← hiv]
 have HIV := Lib.hid hiv
 clear hiv
 go_enter Tryz.func17, Tryz.ntmps17
 go_wp2
 go_loop [5] (fun i => ∃ k : Nat, k ≤ l.length ∧ i = .int .i64 k ∧ ∀ j, j < k → (l.getD j default).k ≠ key) (fun i => l.length - (intOf i).toNat)
 case atStart => exact ⟨0, Nat.zero_le _, rfl, fun _ h => absurd h (by omega)⟩
 case round =>
  obtain ⟨k, hk, rfl, hx⟩ := hrel
  have HX := Lib.hid hx
  clear hx
  by_cases hm : k < l.length
  ·obtain ⟨b, o, rfl, hbp, hrow⟩ := SeqAt.at_ HR.out (getD_some (d := default) hm)
   obtain ⟨r, hr0⟩ : ∃ r, r = l.getD k default := ⟨_, rfl⟩
   rw [← hr0] at hrow
   have hbb := HP.out b hbp
   have c0 := hrow.k
   have HR0 := Lib.hid hr0
   have j0 : (0 : Int) ≤ (k : Int) := by omega
   have j1 : (k : Int) < (l.length : Int) := by omega
   have HKD := Lib.hid (show (wrKeys l).getD k default = r.k by rw [hr0]; exact map_getD (getD_some hm))
   clear hrow hr0 hbp
   by_cases q : r.k = key
   ·have HLO := Lib.hid (low_at HS.out (key := key) (k := k) (by simpa using hm) (by rw [HKD.out, q]))
    obtain ⟨rk, rv⟩ := r
    dsimp only at q c0
    subst q
    go_wp2
    go_ret
    exact ⟨by rw [HIV.out, if_pos HLO.out.2, HLO.out.1]; rfl, by repeat (first | with_reducible exact Below.refl _ _ | assumption | with_reducible apply below_alloc | with_reducible apply below_drew | with_reducible apply below_drewN | (with_reducible apply below_next; rotate_left; assumption))⟩
   ·have q2 : (r.k.toList == key.toList) = false := by
     rw [beq_eq_false_iff_ne]; intro e; exact q (ba_ext e)
    have HNE := Lib.hid q
    clear q
    go_wp2
    go_round
    case rel => exact ⟨k + 1, by omega, by go_num, fun j hj => by
     by_cases e : j = k
     ·subst e; rw [← HR0.out]; exact HNE.out
     ·exact HX.out j (by omega)⟩
    case measure => simp [intOf]; omega
  ·have HNO := Lib.hid (show hasK (wrKeys l) key = false from low_none fun i hi => by
    have hi' : i < l.length := by simpa using hi
    rw [map_getD (getD_some (d := default) hi')]
    exact HX.out i (by omega))
   go_wp2
   go_ret
   exact ⟨by rw [HIV.out, if_neg (by rw [HNO.out]; decide)]; rfl, by repeat (first | with_reducible exact Below.refl _ _ | assumption | with_reducible apply below_alloc | with_reducible apply below_drew | with_reducible apply below_drewN | (with_reducible apply below_next; rotate_left; assumption))⟩
def PlusOut (l : List WrM) (x : WrM) (w : World) (e : Ending) (w' : World) : Prop :=
 ∃ A' c', e = .returned (.slice A' (insK WrM.k l x).length c') ∧ (insK WrM.k l x).length ≤ c' ∧ WrsAt w' (fun b => w.heap.size ≤ b ∧ b < w'.heap.size) A' (insK WrM.k l x) ∧ Below w.heap.size w w'
set_option maxRecDepth 100000 in
set_option maxHeartbeats 4000000 in
theorem plus_any (P : Nat → Prop) (LA : Option Addr) (n lc : Nat) (lw : List WrM) (r : WrM) (w : World) (hn : n = lw.length) (hr : WrsAt w P LA lw) (hP : ∀ b, P b → b < w.heap.size) (hs : Inc (wrKeys lw)) (hx : r.k.size ≤ maxLen ∧ r.v.size ≤ maxLen) (h6 : lw.length ≤ 40) :
 Calls Tryz.prog 21 #[.slice LA n lc, .agg #[.string r.k, .string r.v]] w (PlusOut lw r w) := by
 subst hn
 obtain ⟨W0, hW0⟩ : ∃ W0, W0 = w.alloc (.cells #[.string r.k, .string r.v] 58) := ⟨_, rfl⟩
 have hb0 : Below w.heap.size w W0 := by rw [hW0]; exact below_alloc (Below.refl _ _) _
 have hg0 : W0.heap[w.heap.size]? = some (.cells #[.string r.k, .string r.v] 58) := by rw [hW0]; exact heap_alloc_new w _
 have hs0 : W0.heap.size = w.heap.size + 1 := by rw [hW0]; simp
 have hbx : w.heap.size < W0.heap.size := by omega
 have HR := Lib.hid hr
 have HS := Lib.hid hs
 have HP := Lib.hid hP
 have HX := Lib.hid hx
 have HW0 := Lib.hid hW0
 have HB0 := Lib.hid hb0
 have HXC := Lib.hid (show ∀ W, Below W0.heap.size W0 W → W.cell? ⟨w.heap.size, 0, none⟩ = some (.string r.k) ∧ W.cell? ⟨w.heap.size, 1, none⟩ = some (.string r.v) ∧ w.heap.size < W.heap.size from fun W hb => by
  have g := (hb.block w.heap.size hbx).trans hg0
  exact ⟨by rw [Joins.cell_of_block g]; rfl, by rw [Joins.cell_of_block g]; rfl, Nat.lt_of_lt_of_le hbx hb.size⟩)
 clear hr hs hP hx hW0 hb0 hg0 hs0
 obtain ⟨L, hL⟩ : ∃ L, L = lowIx (wrKeys lw) r.k := ⟨_, rfl⟩
 have HL := Lib.hid hL
 have hLle : L ≤ lw.length := by rw [hL]; have := lowIx_le (wrKeys lw) r.k; simpa using this
 clear hL
 go_enter Tryz.func21, Tryz.ntmps21
 go_wp2
 rw [← HW0.out]
 go_loopw [5, 6, 7] (fun v d i wr => ∃ (k : Nat) (A : Option Addr) (c : Nat), k ≤ lw.length ∧ i = .int .i64 k ∧ d = .bool (decide (L < k)) ∧ v = .slice A (insP WrM.k lw r k).length c ∧ OwnsWrs wr W0.heap.size (.slice A (insP WrM.k lw r k).length c) (insP WrM.k lw r k) ∧ Below W0.heap.size W0 wr) (fun _ _ i _ => lw.length - (intOf i).toNat)
 case atStart => exact ⟨0, none, 0, Nat.zero_le _, rfl, by simp, by rw [insP_zero]; rfl, by rw [insP_zero]; exact Cells.Owns.nil _ _ _, Below.refl _ _⟩
 case round =>
  obtain ⟨k, A, c, hk, rfl, rfl, rfl, hown, hb⟩ := hrel
  have hll : (insP WrM.k lw r k).length ≤ 41 := by
   have h1 := insP_len (f := WrM.k) (l := lw) (x := r) k
   omega
  obtain ⟨l, hld⟩ : ∃ l, l = insP WrM.k lw r k := ⟨_, rfl⟩
  rw [← hld] at hown hll ⊢
  have HLL := Lib.hid hld
  obtain ⟨u0, u1, hgx⟩ := HXC.out wr hb
  have HOWN := Lib.hid hown
  have HB := Lib.hid hb
  have hszw := hb.size
  clear hown hld
  by_cases hm : k < lw.length
  ·obtain ⟨b, o, rfl, hbp, hrow⟩ := SeqAt.at_ HR.out (getD_some (d := default) hm)
   obtain ⟨y, hy0⟩ : ∃ y, y = lw.getD k default := ⟨_, rfl⟩
   rw [← hy0] at hrow
   have hbw := HP.out b hbp
   have HYC := Lib.hid (show ∀ W, Below W0.heap.size W0 W → W.cell? ⟨b, o + k * 2, none⟩ = some (.string y.k) ∧ W.cell? ⟨b, o + k * 2 + 1, none⟩ = some (.string y.v) ∧ b < W.heap.size from fun W hW => by
    have e : ∀ j, W.cell? ⟨b, j, none⟩ = w.cell? ⟨b, j, none⟩ := fun j => (below_next HB0.out hW).cell (p := ⟨b, j, none⟩) hbw
    exact ⟨(e _).trans hrow.k, (e _).trans hrow.v, Nat.lt_of_lt_of_le hbw (below_next HB0.out hW).size⟩)
   have HGET := Lib.hid (show lw[k]? = some y by rw [hy0]; exact getD_some hm)
   have j0 : (0 : Int) ≤ (k : Int) := by omega
   have j1 : (k : Int) < (lw.length : Int) := by omega
   clear hrow hy0 hbp hb
   obtain ⟨y0, y1, hbb⟩ := HYC.out wr HB.out
   by_cases h1 : k < L
   ·have HST := Lib.hid (insP_low (f := WrM.k) (x := r) HGET.out (by rw [HL.out] at h1; exact h1))
    rw [← HLL.out] at HST
    have hlt := HST.out.2
    have hlt2 : Op.bytesLess y.k.toList r.k.toList = true := hlt
    have hd : decide (L < k) = false := by simp; omega
    rw [hd]
    have hne : (y.k.toList == r.k.toList) = false := by rw [beq_eq_false_iff_ne]; intro e; exact ltS_ne hlt (ba_ext e)
    have hgt : Op.bytesLess r.k.toList y.k.toList = false := ltS_asymm hlt
    have HAP := Lib.hid (fun ty p => app_wr (ty := ty) (wr.drewN p) W0.heap.size c l.length A l y rfl (HOWN.out.kept (below_drewN (Below.refl _ _) _)) (by omega) hszw)
    clear hlt
    go_wp2
    go_quiet (fail)
    go_wp2
    go_quiet (fail)
    go_wp2_with (at_builtin; refine (wpList_append_run _ rfl (.tmp 38) (.tmp 43) 47 rfl (.slice A l.length c) (.slice (some ⟨wr.heap.size, 0, none⟩) 1 1) rfl rfl (HAP.out _ _) ?_); rintro v1 w6 ⟨A6, c6, rfl, hown6, _, _, hb6, _⟩; have HO6 := Lib.hid hown6; have HB6 := Lib.hid (hb6 W0 (below_drewN HB.out _)); clear hown6 hb6)
    go_roundw
    case rel => exact ⟨k + 1, A6, c6, by omega, by go_num, by rw [decide_eq_false (by omega)], by rw [HST.out.1, List.length_append]; rfl, by rw [HST.out.1, List.length_append]; exact HO6.out, HB6.out⟩
    case measure => simp [intOf]; omega
   ·by_cases h2 : k = L
    ·have hd : decide (L < k) = false := by simp; omega
     rw [hd]
     have HGL := Lib.hid (show lw[lowIx (lw.map WrM.k) (WrM.k r)]? = some y by rw [show lowIx (lw.map WrM.k) (WrM.k r) = k by rw [h2, HL.out]]; exact HGET.out)
     have HKL := Lib.hid (show lowIx (lw.map WrM.k) (WrM.k r) = k by rw [h2, HL.out])
     have HAP := Lib.hid (fun ty p => app_wr (ty := ty) (wr.drewN p) W0.heap.size c l.length A l r rfl (HOWN.out.kept (below_drewN (Below.refl _ _) _)) (by omega) hszw)
     have H2 := Lib.hid h2
     clear h2
     cases hh : hasK (lw.map WrM.k) (WrM.k r) with
     | true =>
      have HST := Lib.hid (insP_same HGL.out hh)
      rw [HKL.out, ← HLL.out] at HST
      have hke := HST.out.2
      have hgt : Op.bytesLess y.k.toList r.k.toList = false := by rw [hke]; exact ltS_irrefl _
      have hgt2 : Op.bytesLess r.k.toList y.k.toList = false := by rw [hke]; exact ltS_irrefl _
      have hne : (y.k.toList == r.k.toList) = true := by rw [hke]; simp
      clear hke hh hd
      go_wp2
      go_quiet (fail)
      go_wp2_with (at_builtin; refine (wpList_append_run _ rfl (.tmp 26) (.tmp 28) 47 rfl (.slice A l.length c) (.slice (some ⟨wr.heap.size, 0, none⟩) 1 1) rfl rfl (HAP.out _ _) ?_); rintro v1 w6 ⟨A6, c6, rfl, hown6, _, _, hb6, _⟩; have HO6 := Lib.hid hown6; have HB6 := Lib.hid (hb6 W0 (below_drewN HB.out _)); clear hown6 hb6; clear u0 u1 hgx y0 y1 hbb; obtain ⟨u0, u1, hgx⟩ := HXC.out w6 HB6.out; obtain ⟨y0, y1, hbb⟩ := HYC.out w6 HB6.out)
      go_quiet (fail)
      go_wp2
      go_roundw
      case rel => exact ⟨k + 1, A6, c6, by omega, by go_num, by rw [decide_eq_true (by have := H2.out; omega)], by rw [HST.out.1, List.length_append]; rfl, by rw [HST.out.1, List.length_append]; exact HO6.out.kept (below_drewN (Below.refl _ _) _), below_drewN HB6.out _⟩
      case measure => simp [intOf]; omega
     | false =>
      have HST := Lib.hid (insP_new HGL.out hh)
      rw [HKL.out, ← HLL.out] at HST
      have hlt2 : Op.bytesLess y.k.toList r.k.toList = false := HST.out.2.2
      have hne : (y.k.toList == r.k.toList) = false := by rw [beq_eq_false_iff_ne]; intro e; exact HST.out.2.1 (ba_ext e)
      have hgt : Op.bytesLess r.k.toList y.k.toList = true := by
       cases e : Op.bytesLess r.k.toList y.k.toList with
       | true => rfl
       | false => exact absurd (ltS_total hlt2 e) HST.out.2.1
      clear hh hd
      go_wp2
      go_quiet (fail)
      go_wp2_with (at_builtin; refine (wpList_append_run _ rfl (.tmp 26) (.tmp 28) 47 rfl (.slice A l.length c) (.slice (some ⟨wr.heap.size, 0, none⟩) 1 1) rfl rfl (HAP.out _ _) ?_); rintro v1 w6 ⟨A6, c6, rfl, hown6, _, _, hb6, _⟩; have HO6 := Lib.hid hown6; have HB6 := Lib.hid (hb6 W0 (below_drewN HB.out _)); clear hown6 hb6; clear u0 u1 hgx y0 y1 hbb; obtain ⟨u0, u1, hgx⟩ := HXC.out w6 HB6.out; obtain ⟨y0, y1, hbb⟩ := HYC.out w6 HB6.out)
      have HAP2 := Lib.hid (fun ty p => app_wr (ty := ty) (w6.drewN p) W0.heap.size c6 (l.length + 1) A6 (l ++ [r]) y (by simp) (HO6.out.kept (below_drewN (Below.refl _ _) _)) (by simp; omega) HB6.out.size)
      go_quiet (fail)
      go_wp2_with (at_builtin; refine (wpList_append_run _ rfl (.tmp 38) (.tmp 43) 47 rfl (.slice A6 (l.length + 1) c6) (.slice (some ⟨w6.heap.size, 0, none⟩) 1 1) rfl rfl (HAP2.out _ _) ?_); rintro v2 w7 ⟨A7, c7, rfl, hown7, _, _, hb7, _⟩; have HO7 := Lib.hid hown7; have HB7 := Lib.hid (hb7 W0 (below_drewN HB6.out _)); clear hown7 hb7)
      go_roundw
      case rel => exact ⟨k + 1, A7, c7, by omega, by go_num, by rw [decide_eq_true (by have := H2.out; omega)], by rw [HST.out.1, List.length_append, List.length_append]; rfl, by rw [HST.out.1, List.length_append, List.length_append]; exact HO7.out, HB7.out⟩
      case measure => simp [intOf]; omega
    ·have HST := Lib.hid (insP_high (f := WrM.k) (x := r) HS.out HGET.out (show lowIx (lw.map WrM.k) (WrM.k r) < k by have := HL.out; unfold wrKeys at this; omega))
     rw [← HLL.out] at HST
     have hd : decide (L < k) = true := by simp; omega
     rw [hd]
     have hne : (y.k.toList == r.k.toList) = false := by rw [beq_eq_false_iff_ne]; intro e; exact HST.out.2 (ba_ext e)
     have HAP := Lib.hid (fun ty p => app_wr (ty := ty) (wr.drewN p) W0.heap.size c l.length A l y rfl (HOWN.out.kept (below_drewN (Below.refl _ _) _)) (by omega) hszw)
     go_wp2
     go_quiet (fail)
     go_wp2
     go_quiet (fail)
     go_wp2_with (at_builtin; refine (wpList_append_run _ rfl (.tmp 38) (.tmp 43) 47 rfl (.slice A l.length c) (.slice (some ⟨wr.heap.size, 0, none⟩) 1 1) rfl rfl (HAP.out _ _) ?_); rintro v1 w6 ⟨A6, c6, rfl, hown6, _, _, hb6, _⟩; have HO6 := Lib.hid hown6; have HB6 := Lib.hid (hb6 W0 (below_drewN HB.out _)); clear hown6 hb6)
     go_roundw
     case rel => exact ⟨k + 1, A6, c6, by omega, by go_num, by rw [decide_eq_true (by omega)], by rw [HST.out.1, List.length_append]; rfl, by rw [HST.out.1, List.length_append]; exact HO6.out, HB6.out⟩
     case measure => simp [intOf]; omega
  ·have hke : k = lw.length := by omega
   subst hke
   clear hb
   have HOK := Lib.hid (show ∀ z ∈ insK WrM.k lw r, z.k.size ≤ maxLen ∧ z.v.size ≤ maxLen from fun z hz => by
    rcases mem_insK hz with rfl | hz
    ·exact HX.out
    ·exact SeqAt.wrOk HR.out z hz)
   have HLN := Lib.hid (insK_len (f := WrM.k) (l := lw) (x := r))
   by_cases h3 : L < lw.length
   ·have hd : decide (L < lw.length) = true := by simpa using h3
    rw [hd]
    have HDN := Lib.hid (show l = insK WrM.k lw r by rw [HLL.out]; exact insP_done (by have := HL.out; unfold wrKeys at this; omega))
    go_wp2
    go_ret
    have ho := HOWN.out
    rw [HDN.out] at ho
    obtain ⟨A', c', hv, hc', hws⟩ := OwnsWrs.wrs (P := fun b => w.heap.size ≤ b ∧ b < wr.heap.size) ho (by have := HLN.out; omega) HOK.out (fun b h1 h2 _ => ⟨by omega, h2⟩)
    injection hv with e1 _ e3
    subst e1 e3
    exact ⟨A, c, by rw [HDN.out]; rfl, hc', hws, below_next HB0.out HB.out⟩
   ·have hd : decide (L < lw.length) = false := by simpa using h3
    rw [hd]
    have HDN := Lib.hid (show l ++ [r] = insK WrM.k lw r by rw [HLL.out]; exact insP_last (by have := HL.out; unfold wrKeys at this; omega))
    have HAP := Lib.hid (fun ty => app_wr (ty := ty) wr W0.heap.size c l.length A l r rfl HOWN.out (by omega) hszw)
    go_wp2_with (at_builtin; refine (wpList_append_run _ rfl (.tmp 47) (.tmp 49) 47 rfl (.slice A l.length c) (.slice (some ⟨wr.heap.size, 0, none⟩) 1 1) rfl rfl (HAP.out _) ?_); rintro v1 w6 ⟨A6, c6, rfl, hown6, _, _, hb6, _⟩; have HO6 := Lib.hid hown6; have HB6 := Lib.hid (hb6 W0 HB.out); clear hown6 hb6)
    go_ret
    have ho := HO6.out
    have e1 : l.length + 1 = (insK WrM.k lw r).length := by rw [← HDN.out]; simp
    rw [HDN.out, e1] at ho
    obtain ⟨A', c', hv, hc', hws⟩ := OwnsWrs.wrs (P := fun b => w.heap.size ≤ b ∧ b < w6.heap.size) ho (by have := HLN.out; omega) HOK.out (fun b h1 h2 _ => ⟨by omega, h2⟩)
    injection hv with e2 _ e3
    subst e2 e3
    exact ⟨A6, c6, by rw [e1]; rfl, hc', hws, below_next HB0.out HB6.out⟩
end Go.Proofs.YtambkjnhfejfaaaGreat
