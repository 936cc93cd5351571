/-
  Contracts of functions of the program and words for memory, several texts in one: TGet, TPut, TResolve. Conditions: those stated with each.
-/
import Derived.Test.YtambkjnhfejfaaaGreatG26
namespace Go.Proofs.YtambkjnhfejfaaaGreat
open Go.RowKit
section
variable {w : World} {t : Bool} {Z : Nat → Prop} {B bx bC : Nat} {wo : WoM} {C : Nat} {c : ClM}
theorem wrAt_get {l : List WrM} {key : ByteArray} (h : hasK (wrKeys l) key = true) : l[lowIx (wrKeys l) key]? = some (wrAt l key) ∧ lowIx (wrKeys l) key < l.length := by
 simp only [hasK, Bool.and_eq_true, decide_eq_true_eq, List.length_map] at h
 exact ⟨getD_some h.1, h.1⟩
theorem access_zero {key : ByteArray} (h : accessE c key = 0) : c.ph = 1 ∧ keyB key = true := by
 unfold accessE at h
 split at h
 ·omega
 ·split at h
  ·omega
  ·rename_i h1 h2
   exact ⟨by simpa using h1, by simpa using h2⟩
set_option maxRecDepth 100000 in
set_option maxHeartbeats 4000000 in
theorem get_err (key : ByteArray) (h : Own w t Z B bx bC wo) (hc : wo.cls[C]? = some c) (hks : key.size ≤ maxLen) (he : accessE c key ≠ 0) :
 Calls Tryz.prog 30 #[.pointer (some ⟨bx, 0, none⟩), .pointer (some ⟨bC, C * 5, none⟩), .string key] w (AnsOut t Z B bx bC (wo, getA wo c key) w) := by
 obtain ⟨W0, hW, hb0, hs0, z0, z1, z2, z3, z4, zf⟩ := ans_new w
 have hg : w.heap.size < W0.heap.size := by omega
 have HSW := Lib.hid (show getA wo c key = ansCode (accessE c key) by rw [getA, if_pos he])
 have HO := Lib.hid (h.more hb0 (Nat.le_refl _) hg)
 have HAE := Lib.hid (accessError_any key HO.out hc hks)
 obtain ⟨E, hE⟩ : ∃ E, E = accessE c key := ⟨_, rfl⟩
 rw [← hE] at HSW HAE
 have q0 : (E != 0) = true := by rw [hE]; simpa using he
 have HW := Lib.hid hW
 have HB0 := Lib.hid hb0
 have HO0 := Lib.hid h
 obtain ⟨y0, y1, y2, y3, y4, g0, g1, g2, g3, g4⟩ := ans_later (Keeps.refl B (fun b => Z b ∨ b = w.heap.size) W0) hg (.inr rfl) z0 z1 z2 z3 z4 zf
 clear h hc hb0 hW zf he hE z0 z1 z2 z3 z4
 go_enter Tryz.func30, Tryz.ntmps30
 go_wp2_with fail
 rw [← HW.out]
 refine HAE.out.mono ?_
 rintro e w1 ⟨rfl, rfl⟩
 go_wp2
 obtain ⟨hA, hK⟩ := ans_end HO0.out HB0.out rfl HO.out (Keeps.refl _ _ _) (.int .i64 E) (.bool false) (.string ⟨#[]⟩) (.int .i64 0) (.int .i64 0)
 rw [HSW.out]
 exact bodyPost_ret (v := ansV (ansCode E)) (by simp [results, Tryz.results30, go_sem, y0, y1, y2, y3, y4, ansCode]) rfl ⟨rfl, hA, hK⟩
set_option maxRecDepth 100000 in
set_option maxHeartbeats 4000000 in
theorem get_own (key : ByteArray) (h : Own w t Z B bx bC wo) (hc : wo.cls[C]? = some c) (hks : key.size ≤ maxLen) (he : accessE c key = 0) (hinc : Inc (wrKeys c.ws)) (hk : hasK (wrKeys c.ws) key = true) :
 Calls Tryz.prog 30 #[.pointer (some ⟨bx, 0, none⟩), .pointer (some ⟨bC, C * 5, none⟩), .string key] w (AnsOut t Z B bx bC (wo, getA wo c key) w) := by
 obtain ⟨W0, hW, hb0, hs0, z0, z1, z2, z3, z4, zf⟩ := ans_new w
 have hg : w.heap.size < W0.heap.size := by omega
 have HSW := Lib.hid (show getA wo c key = ⟨0, true, (wrAt c.ws key).v, 0, 0⟩ by rw [getA, if_neg (by simp [he]), if_pos hk])
 have HO := Lib.hid (h.more hb0 (Nat.le_refl _) hg)
 have HAE := Lib.hid (accessError_any key HO.out hc hks)
 have HFW := Lib.hid (findWrite_any key HO.out hc hinc)
 rw [he] at HAE
 rw [hk] at HFW
 obtain ⟨hget, hlt⟩ := wrAt_get hk
 obtain ⟨i, hi⟩ : ∃ i, i = lowIx (wrKeys c.ws) key := ⟨_, rfl⟩
 obtain ⟨x, hx⟩ : ∃ x, x = wrAt c.ws key := ⟨_, rfl⟩
 rw [← hi] at HFW hget hlt
 rw [← hx] at HSW hget
 have HGET := Lib.hid hget
 have HC := Lib.hid hc
 have HW := Lib.hid hW
 have HB0 := Lib.hid hb0
 have HO0 := Lib.hid h
 have HZF := Lib.hid zf
 have j0 : (0 : Int) ≤ (i : Int) := by omega
 have j1 : (i : Int) < (c.ws.length : Int) := by omega
 clear h hc hb0 hW zf he hk hi hx hget hinc
 go_enter Tryz.func30, Tryz.ntmps30
 go_wp2_with fail
 rw [← HW.out]
 refine HAE.out.mono ?_
 rintro e w1 ⟨rfl, rfl⟩
 go_wp2_with fail
 refine HFW.out.mono ?_
 rintro e w1 ⟨rfl, hb1⟩
 have hk1 : Keeps B (fun b => Z b ∨ b = w.heap.size) W0 w1 := Keeps.new (Nat.le_trans HO0.out.base (by omega)) hb1
 have ho1 := HO.out.upto hb1
 obtain ⟨c0, c1, c2, c4, ⟨A, k, c3, hq, hws⟩, hok, _, _, _, hC⟩ := ho1.cl HC.out
 obtain ⟨b, o, rfl, hbb, hr0⟩ := SeqAt.at_ hws HGET.out
 obtain ⟨e0, e1, eok⟩ := hr0
 obtain ⟨y0, y1, y2, y3, y4, g0, g1, g2, g3, g4⟩ := ans_later hk1 hg (.inr rfl) z0 z1 z2 z3 z4 HZF.out
 have HO1 := Lib.hid ho1
 have HK1 := Lib.hid hk1
 clear ho1 hk1 hws hok hb1 z0 z1 z2 z3 z4
 obtain ⟨xk, xv⟩ := x
 dsimp only at e0 e1
 go_wp2
 obtain ⟨hA, hK⟩ := ans_end HO0.out HB0.out rfl HO1.out HK1.out (.int .i64 0) (.bool true) (.string xv) (.int .i64 0) (.int .i64 0)
 rw [HSW.out]
 exact bodyPost_ret (v := ansV ⟨0, true, xv, 0, 0⟩) (by simp [results, Tryz.results30, go_sem, y0, y1, y2, y3, y4]) rfl ⟨rfl, hA, hK⟩
set_option maxRecDepth 100000 in
set_option maxHeartbeats 4000000 in
theorem get_none (key : ByteArray) (h : Own w t Z B bx bC wo) (hc : wo.cls[C]? = some c) (hks : key.size ≤ maxLen) (he : accessE c key = 0) (hinc : Inc (wrKeys c.ws)) (hk : hasK (wrKeys c.ws) key = false) (hr : RowsOk wo.rows) (hkr : hasK (rowKeys wo.rows) key = false) :
 Calls Tryz.prog 30 #[.pointer (some ⟨bx, 0, none⟩), .pointer (some ⟨bC, C * 5, none⟩), .string key] w (AnsOut t Z B bx bC (wo, getA wo c key) w) := by
 obtain ⟨W0, hW, hb0, hs0, z0, z1, z2, z3, z4, zf⟩ := ans_new w
 have hg : w.heap.size < W0.heap.size := by omega
 have HSW := Lib.hid (show getA wo c key = ansCode 0 by rw [getA, if_neg (by simp [he]), if_neg (by simp [hk]), if_neg (by simp [hkr])])
 have HO := Lib.hid (h.more hb0 (Nat.le_refl _) hg)
 have HAE := Lib.hid (accessError_any key HO.out hc hks)
 have HFW := Lib.hid (findWrite_any key HO.out hc hinc)
 rw [he] at HAE
 rw [hk] at HFW
 have HR := Lib.hid hr
 have HW := Lib.hid hW
 have HB0 := Lib.hid hb0
 have HO0 := Lib.hid h
 have HZF := Lib.hid zf
 clear h hc hb0 hW zf he hk hinc hr
 go_enter Tryz.func30, Tryz.ntmps30
 go_wp2_with fail
 rw [← HW.out]
 refine HAE.out.mono ?_
 rintro e w1 ⟨rfl, rfl⟩
 go_wp2_with fail
 refine HFW.out.mono ?_
 rintro e w1 ⟨rfl, hb1⟩
 have HB1 := Lib.hid hb1
 clear hb1
 go_wp2_with fail
 refine (findRow_any key (HO.out.upto HB1.out) HR.out.inc).mono ?_
 rw [hkr]
 rintro e w2 ⟨rfl, hb2⟩
 have hb02 := below_next HB1.out hb2
 have hk1 : Keeps B (fun b => Z b ∨ b = w.heap.size) W0 w2 := Keeps.new (Nat.le_trans HO0.out.base (by omega)) hb02
 have ho1 := HO.out.upto hb02
 obtain ⟨y0, y1, y2, y3, y4, g0, g1, g2, g3, g4⟩ := ans_later hk1 hg (.inr rfl) z0 z1 z2 z3 z4 HZF.out
 have HO1 := Lib.hid ho1
 have HK1 := Lib.hid hk1
 clear ho1 hk1 hb2 hb02 z0 z1 z2 z3 z4
 go_wp2
 obtain ⟨hA, hK⟩ := ans_end HO0.out HB0.out rfl HO1.out HK1.out (.int .i64 0) (.bool false) (.string ⟨#[]⟩) (.int .i64 0) (.int .i64 0)
 rw [HSW.out]
 exact bodyPost_ret (v := ansV (ansCode 0)) (by simp [results, Tryz.results30, go_sem, y0, y1, y2, y3, y4, ansCode]) rfl ⟨rfl, hA, hK⟩
theorem read_all (r : RowM) (A : Option Addr) (q : Nat) (st : Int) (w : World) (hi : RowIn w r.key r.lp r.val A r.recs.length r.recs) (hok : r.ok = true) (hst : inB st 1 1099511627776 = true) :
 Calls Tryz.prog 50 #[rowV r.key r.ls r.lp r.val A r.recs.length q, .int .i64 st] w fun e w' => e = .returned (.tuple #[.string (readA r st).val, .bool (readA r st).is, .int .i64 (readA r st).code]) ∧ Below w.heap.size w w' := by
 cases t3 : inB r.ls 1 st with
 | true => rw [readA, if_pos t3]; exact read_busy _ _ _ _ _ _ _ _ _ _ hi hok hst t3
 | false => rw [readA, if_neg (by simp [t3])]; exact read_ok _ _ _ _ _ _ _ _ _ _ hi hok hst t3
theorem readA_rest (r : RowM) (st : Int) : (readA r st).ph = 0 ∧ (readA r st).time = 0 := by
 unfold readA; split <;> exact ⟨rfl, rfl⟩
set_option maxRecDepth 100000 in
set_option maxHeartbeats 4000000 in
theorem get_row (key : ByteArray) (h : Own w t Z B bx bC wo) (hc : wo.cls[C]? = some c) (hks : key.size ≤ maxLen) (he : accessE c key = 0) (hinc : Inc (wrKeys c.ws)) (hk : hasK (wrKeys c.ws) key = false) (hr : RowsOk wo.rows) (hkr : hasK (rowKeys wo.rows) key = true) (hst : inB c.st 1 1099511627776 = true) :
 Calls Tryz.prog 30 #[.pointer (some ⟨bx, 0, none⟩), .pointer (some ⟨bC, C * 5, none⟩), .string key] w (AnsOut t Z B bx bC (wo, getA wo c key) w) := by
 obtain ⟨W0, hW, hb0, hs0, z0, z1, z2, z3, z4, zf⟩ := ans_new w
 have hg : w.heap.size < W0.heap.size := by omega
 have HSW := Lib.hid (show getA wo c key = readA (rowAt wo.rows key) c.st by rw [getA, if_neg (by simp [he]), if_neg (by simp [hk]), if_pos hkr])
 have HO := Lib.hid (h.more hb0 (Nat.le_refl _) hg)
 have HAE := Lib.hid (accessError_any key HO.out hc hks)
 have HFW := Lib.hid (findWrite_any key HO.out hc hinc)
 rw [he] at HAE
 rw [hk] at HFW
 obtain ⟨i, hi⟩ : ∃ i, i = lowIx (rowKeys wo.rows) key := ⟨_, rfl⟩
 have hlt : i < wo.rows.length := by rw [hi]; exact hasK_lt hkr
 obtain ⟨r, hr0⟩ : ∃ r, r = rowAt wo.rows key := ⟨_, rfl⟩
 have hget : wo.rows[i]? = some r := by rw [hi, hr0]; exact rowAt_get hkr
 have hok : r.ok = true := hr.ok r (by rw [hr0]; exact rowAt_mem hkr)
 rw [← hr0] at HSW
 have HI := Lib.hid hi
 have HGET := Lib.hid hget
 have HT := Lib.hid (show rowB r.key r.ls r.lp r.val r.recs = true from hok)
 have HR := Lib.hid hr
 have HC := Lib.hid hc
 have HW := Lib.hid hW
 have HB0 := Lib.hid hb0
 have HO0 := Lib.hid h
 have HZF := Lib.hid zf
 have j0 : (0 : Int) ≤ (i : Int) := by omega
 have j1 : (i : Int) < (wo.rows.length : Int) := by omega
 obtain ⟨rk, ls, lp, val, recs⟩ := r
 dsimp only at HT
 clear h hc hb0 hW zf he hk hinc hr hi hr0 hget hok
 go_enter Tryz.func30, Tryz.ntmps30
 go_wp2_with fail
 rw [← HW.out]
 refine HAE.out.mono ?_
 rintro e w1 ⟨rfl, rfl⟩
 go_wp2_with fail
 refine HFW.out.mono ?_
 rintro e w1 ⟨rfl, hb1⟩
 have HB1 := Lib.hid hb1
 clear hb1
 go_wp2_with fail
 refine (findRow_any key (HO.out.upto HB1.out) HR.out.inc).mono ?_
 rw [hkr, ← HI.out]
 rintro e w2 ⟨rfl, hb2⟩
 have hb02 := below_next HB1.out hb2
 have ho2 := HO.out.upto hb02
 obtain ⟨c0, c1, _⟩ := ho2.cl HC.out
 obtain ⟨bR, rc, x0, hrows⟩ := ho2.rowsAt
 obtain ⟨b, o, hA, hbb, hrow⟩ := hrows.at_ HGET.out
 obtain ⟨rfl, rfl⟩ : bR = b ∧ 0 = o := by injection hA with e; injection e with e1 e2; exact ⟨e1, e2⟩
 rw [Nat.zero_add] at hrow
 have d0 := hrow.ck
 have d1 := hrow.cs
 have d2 := hrow.cp
 have d3 := hrow.cv
 obtain ⟨A, q, d4, _, hri⟩ := hrow.rowIn (fun _ h => h)
 have HRD := Lib.hid (read_all ⟨rk, ls, lp, val, recs⟩ A q c.st w2.drew (hri.upto (below_drew (Below.refl _ _))) HT.out hst)
 obtain ⟨r3, r4⟩ := readA_rest ⟨rk, ls, lp, val, recs⟩ c.st
 obtain ⟨Y, hY⟩ : ∃ Y, Y = readA ⟨rk, ls, lp, val, recs⟩ c.st := ⟨_, rfl⟩
 rw [← hY] at HRD HSW r3 r4
 clear hY
 obtain ⟨a0, a1, a2, a3, a4⟩ := Y
 dsimp only at HRD r3 r4
 subst r3 r4
 have HB2 := Lib.hid hb02
 clear hrow hrows hA hri ho2 hb2 hb02
 dsimp only at d0 d1 d2 d3 d4
 go_wp2
 refine wp_region_held_drew (S := fun W => W.cell? ⟨bx, 0, none⟩ = some (.slice (some ⟨bR, 0, none⟩) wo.rows.length rc) ∧ W.cell? ⟨bR, i * 5, none⟩ = some (.string rk) ∧ W.cell? ⟨bR, i * 5 + 1, none⟩ = some (.int .i64 ls) ∧ W.cell? ⟨bR, i * 5 + 2, none⟩ = some (.string lp) ∧ W.cell? ⟨bR, i * 5 + 3, none⟩ = some (.string val) ∧ W.cell? ⟨bR, i * 5 + 4, none⟩ = some (.slice A recs.length q) ∧ W.cell? ⟨bC, C * 5 + 1, none⟩ = some (.int .i64 c.st)) (by kernel_rfl) ?_ (fun hHeld => ?_)
 ·exact ⟨x0, d0, d1, d2, d3, d4, c1⟩
 refine tq 0 ?_
 refine tq 1 ?_
 refine tq 2 ?_
 refine tq 3 ?_
 refine tq 4 ?_
 refine tq 5 ?_
 refine tq 6 ?_
 refine tq 7 ?_
 refine tq 8 ?_
 refine tq 9 ?_
 refine tq 10 ?_
 (refine cop 11 (h := fun K hK => ?_); go_simp)
 refine HRD.out.mono ?_
 rintro e w3 ⟨rfl, hb3⟩
 have hb23 : Below w2.heap.size w2 w3 := below_next (below_drew (Below.refl _ _)) hb3
 have hb03 : Below W0.heap.size W0 w3 := below_next HB2.out hb23
 have hS : w3.cell? ⟨bx, 0, none⟩ = some (.slice (some ⟨bR, 0, none⟩) wo.rows.length rc) ∧ w3.cell? ⟨bR, i * 5, none⟩ = some (.string rk) ∧ w3.cell? ⟨bR, i * 5 + 1, none⟩ = some (.int .i64 ls) ∧ w3.cell? ⟨bR, i * 5 + 2, none⟩ = some (.string lp) ∧ w3.cell? ⟨bR, i * 5 + 3, none⟩ = some (.string val) ∧ w3.cell? ⟨bR, i * 5 + 4, none⟩ = some (.slice A recs.length q) ∧ w3.cell? ⟨bC, C * 5 + 1, none⟩ = some (.int .i64 c.st) :=
  ⟨(below_mem hb23).2 _ _ (World.block_lt_of_cell? w2 _ x0) ▸ x0, (below_mem hb23).2 _ _ hbb ▸ d0, (below_mem hb23).2 _ _ hbb ▸ d1, (below_mem hb23).2 _ _ hbb ▸ d2, (below_mem hb23).2 _ _ hbb ▸ d3, (below_mem hb23).2 _ _ hbb ▸ d4, (below_mem hb23).2 _ _ (World.block_lt_of_cell? w2 _ c1) ▸ c1⟩
 have HS3 := Lib.hid hS
 have hk1 : Keeps B (fun b => Z b ∨ b = w.heap.size) W0 w3 := Keeps.new (Nat.le_trans HO0.out.base (by omega)) hb03
 have ho1 := HO.out.upto hb03
 obtain ⟨y0, y1, y2, y3, y4, g0, g1, g2, g3, g4⟩ := ans_later hk1 hg (.inr rfl) z0 z1 z2 z3 z4 HZF.out
 have HO1 := Lib.hid ho1
 have HK1 := Lib.hid hk1
 clear ho1 hk1 hb3 hb03 hb23 hS z0 z1 z2 z3 z4 hHeld
 (refine hK.out _ _ ?_ (fun hHeld => ?_); exact HS3.out; clear hK K)
 refine tq 12 ?_
 refine tq 13 ?_
 refine tq 14 ?_
 refine tq 15 ?_
 refine tq 16 ?_
 refine tq 17 ?_
 refine tq 18 ?_
 refine wpAnyH_done (by kernel_rfl) ?_ _
 clear hHeld
 go_wp2
 obtain ⟨hA, hK⟩ := ans_end HO0.out HB0.out rfl HO1.out HK1.out (.int .i64 a0) (.bool a1) (.string a2) (.int .i64 0) (.int .i64 0)
 rw [HSW.out]
 exact bodyPost_ret (v := ansV ⟨a0, a1, a2, 0, 0⟩) (by simp [results, Tryz.results30, go_sem, y0, y1, y2, y3, y4]) rfl ⟨rfl, hA, hK⟩
theorem get_any (key : ByteArray) (h : Own w t Z B bx bC wo) (hc : wo.cls[C]? = some c) (hks : key.size ≤ maxLen) (hinc : Inc (wrKeys c.ws)) (hr : RowsOk wo.rows) (hst : c.ph = 1 → inB c.st 1 1099511627776 = true) :
 Calls Tryz.prog 30 #[.pointer (some ⟨bx, 0, none⟩), .pointer (some ⟨bC, C * 5, none⟩), .string key] w (AnsOut t Z B bx bC (wo, getA wo c key) w) := by
 by_cases he : accessE c key = 0
 ·cases hk : hasK (wrKeys c.ws) key with
  | true => exact get_own key h hc hks he hinc hk
  | false =>
   cases hkr : hasK (rowKeys wo.rows) key with
   | true => exact get_row key h hc hks he hinc hk hr hkr (hst (access_zero he).1)
   | false => exact get_none key h hc hks he hinc hk hr hkr
 ·exact get_err key h hc hks he
end
section
variable {w : World} {t : Bool} {Z : Nat → Prop} {B bx bC : Nat} {wo : WoM} {C : Nat} {c : ClM}
theorem put_self (hc : wo.cls[C]? = some c) {x : ClM × Int} {E : Int} (h : x = (c, E)) : (wo.setC C x.1, x.2) = (wo, E) := by
 rw [h]; dsimp only; rw [setC_self hc]
set_option maxRecDepth 100000 in
set_option maxHeartbeats 4000000 in
theorem put_err (key val : ByteArray) (h : Own w t Z B bx bC wo) (hc : wo.cls[C]? = some c) (hks : key.size ≤ maxLen) (he : accessE c key ≠ 0) :
 Calls Tryz.prog 31 #[.pointer (some ⟨bC, C * 5, none⟩), .string key, .string val] w (NumOut t Z B bx bC (wo.setC C (putC c key val).1, (putC c key val).2) w) := by
 rw [put_self hc (show putC c key val = (c, accessE c key) by rw [putC, if_pos he])]
 have HAE := Lib.hid (accessError_any key h hc hks)
 obtain ⟨E, hE⟩ : ∃ E, E = accessE c key := ⟨_, rfl⟩
 rw [← hE] at HAE ⊢
 have q0 : (E != 0) = true := by rw [hE]; simpa using he
 have HO0 := Lib.hid h
 clear h hc he hE
 go_enter Tryz.func31, Tryz.ntmps31
 go_wp2_with fail
 refine HAE.out.mono ?_
 rintro e w1 ⟨rfl, rfl⟩
 go_wp2
 go_ret
 exact ⟨rfl, HO0.out, Keeps.refl _ _ _⟩
set_option maxRecDepth 100000 in
set_option maxHeartbeats 4000000 in
theorem put_long (key val : ByteArray) (h : Own w t Z B bx bC wo) (hc : wo.cls[C]? = some c) (hks : key.size ≤ maxLen) (he : accessE c key = 0) (hl : 20 < val.size) :
 Calls Tryz.prog 31 #[.pointer (some ⟨bC, C * 5, none⟩), .string key, .string val] w (NumOut t Z B bx bC (wo.setC C (putC c key val).1, (putC c key val).2) w) := by
 rw [put_self hc (show putC c key val = (c, 1) by rw [putC, if_neg (by simp [he]), if_pos hl])]
 have HAE := Lib.hid (accessError_any key h hc hks)
 rw [he] at HAE
 have HO0 := Lib.hid h
 have q0 : decide ((20 : Int) < (val.size : Int)) = true := decide_eq_true (by omega)
 clear h hc he
 go_enter Tryz.func31, Tryz.ntmps31
 go_wp2_with fail
 refine HAE.out.mono ?_
 rintro e w1 ⟨rfl, rfl⟩
 go_wp2
 go_ret
 exact ⟨rfl, HO0.out, Keeps.refl _ _ _⟩
set_option maxRecDepth 100000 in
set_option maxHeartbeats 4000000 in
theorem put_again (key val : ByteArray) (h : Own w t Z B bx bC wo) (hc : wo.cls[C]? = some c) (hks : key.size ≤ maxLen) (hvs : val.size ≤ maxLen) (he : accessE c key = 0) (hl : ¬ 20 < val.size) (hinc : Inc (wrKeys c.ws)) (hk : hasK (wrKeys c.ws) key = true) :
 Calls Tryz.prog 31 #[.pointer (some ⟨bC, C * 5, none⟩), .string key, .string val] w (NumOut t Z B bx bC (wo.setC C (putC c key val).1, (putC c key val).2) w) := by
 have HSW := Lib.hid (show putC c key val = ({ c with ws := c.ws.set (lowIx (wrKeys c.ws) key) ⟨(wrAt c.ws key).k, val⟩ }, 0) by rw [putC, if_neg (by simp [he]), if_neg hl, if_pos hk])
 have HAE := Lib.hid (accessError_any key h hc hks)
 have HFW := Lib.hid (findWrite_any key h hc hinc)
 rw [he] at HAE
 rw [hk] at HFW
 obtain ⟨hget, hlt⟩ := wrAt_get hk
 have HX := Lib.hid (show wrAt c.ws key = c.ws.getD (lowIx (wrKeys c.ws) key) default from rfl)
 obtain ⟨i, hi⟩ : ∃ i, i = lowIx (wrKeys c.ws) key := ⟨_, rfl⟩
 rw [← hi] at HFW hget hlt HSW HX
 rw [HX.out] at HSW
 have HC := Lib.hid hc
 have HO0 := Lib.hid h
 have HGET := Lib.hid hget
 have q0 : decide ((20 : Int) < (val.size : Int)) = false := decide_eq_false (by omega)
 have j0 : (0 : Int) ≤ (i : Int) := by omega
 have j1 : (i : Int) < (c.ws.length : Int) := by omega
 clear h hc he hk hi hinc hget
 go_enter Tryz.func31, Tryz.ntmps31
 go_wp2_with fail
 refine HAE.out.mono ?_
 rintro e w1 ⟨rfl, rfl⟩
 go_wp2_with fail
 refine HFW.out.mono ?_
 rintro e w1 ⟨rfl, hb1⟩
 have ho1 := HO0.out.upto hb1
 obtain ⟨c0, c1, c2, c4, ⟨A, k, c3, hq, hws⟩, hok, _, _, _, hC⟩ := ho1.cl HC.out
 obtain ⟨b, o, rfl, hbb, hr0⟩ := SeqAt.at_ hws HGET.out
 obtain ⟨e0, e1, eok⟩ := hr0
 obtain ⟨hW, hBb, hZb, hfb⟩ := ho1.wrSet HC.out c3 hlt hvs
 have f1 := hfb (o + i * 2 + 1)
 have HWW := Lib.hid hW
 have HZB := Lib.hid hZb
 have HB1 := Lib.hid hb1
 clear ho1 hws hok hb1 hW hfb hZb
 go_wp2
 go_ret
 rw [HSW.out]
 exact ⟨rfl, HWW.out, (Keeps.new HO0.out.base HB1.out).set (p := ⟨b, o + i * 2 + 1, none⟩) hBb HZB.out _⟩
set_option maxRecDepth 100000 in
set_option maxHeartbeats 4000000 in
theorem put_full (key val : ByteArray) (h : Own w t Z B bx bC wo) (hc : wo.cls[C]? = some c) (hks : key.size ≤ maxLen) (he : accessE c key = 0) (hl : ¬ 20 < val.size) (hinc : Inc (wrKeys c.ws)) (hk : hasK (wrKeys c.ws) key = false) (h6 : 6 ≤ c.ws.length) :
 Calls Tryz.prog 31 #[.pointer (some ⟨bC, C * 5, none⟩), .string key, .string val] w (NumOut t Z B bx bC (wo.setC C (putC c key val).1, (putC c key val).2) w) := by
 rw [put_self hc (show putC c key val = (c, 1) by rw [putC, if_neg (by simp [he]), if_neg hl, if_neg (by simp [hk]), if_pos h6])]
 have HAE := Lib.hid (accessError_any key h hc hks)
 have HFW := Lib.hid (findWrite_any key h hc hinc)
 rw [he] at HAE
 rw [hk] at HFW
 have HC := Lib.hid hc
 have HO0 := Lib.hid h
 have q0 : decide ((20 : Int) < (val.size : Int)) = false := decide_eq_false (by omega)
 have q1 : decide ((6 : Int) ≤ (c.ws.length : Int)) = true := decide_eq_true (by omega)
 clear h hc he hk hinc
 go_enter Tryz.func31, Tryz.ntmps31
 go_wp2_with fail
 refine HAE.out.mono ?_
 rintro e w1 ⟨rfl, rfl⟩
 go_wp2_with fail
 refine HFW.out.mono ?_
 rintro e w1 ⟨rfl, hb1⟩
 have ho1 := HO0.out.upto hb1
 obtain ⟨c0, c1, c2, c4, ⟨A, k, c3, hq, hws⟩, hok, _, _, _, hC⟩ := ho1.cl HC.out
 have HO1 := Lib.hid ho1
 have HB1 := Lib.hid hb1
 clear ho1 hws hok hb1
 go_wp2
 go_ret
 exact ⟨rfl, HO1.out, Keeps.new HO0.out.base HB1.out⟩
set_option maxRecDepth 100000 in
set_option maxHeartbeats 4000000 in
theorem put_new (key val : ByteArray) (h : Own w t Z B bx bC wo) (hc : wo.cls[C]? = some c) (hks : key.size ≤ maxLen) (hvs : val.size ≤ maxLen) (he : accessE c key = 0) (hl : ¬ 20 < val.size) (hinc : Inc (wrKeys c.ws)) (hk : hasK (wrKeys c.ws) key = false) (h6 : ¬ 6 ≤ c.ws.length)
 {b : Nat} (ht : w.cell? ⟨bC, C * 5 + 3, none⟩ = some (.slice (some ⟨b, 0, none⟩) c.ws.length c.ws.length)) (hbw : b < w.heap.size) :
 Calls Tryz.prog 31 #[.pointer (some ⟨bC, C * 5, none⟩), .string key, .string val] w (NumOut t Z B bx bC (wo.setC C (putC c key val).1, (putC c key val).2) w) := by
 have HSW := Lib.hid (show putC c key val = ({ c with ws := c.ws.take (lowIx (wrKeys c.ws) key) ++ ⟨key, val⟩ :: c.ws.drop (lowIx (wrKeys c.ws) key) }, 0) by rw [putC, if_neg (by simp [he]), if_neg hl, if_neg (by simp [hk]), if_neg h6])
 have HAE := Lib.hid (accessError_any key h hc hks)
 have HFW := Lib.hid (findWrite_any key h hc hinc)
 rw [he] at HAE
 rw [hk] at HFW
 have hle : lowIx (wrKeys c.ws) key ≤ c.ws.length := by have := lowIx_le (wrKeys c.ws) key; simpa using this
 obtain ⟨i, hi⟩ : ∃ i, i = lowIx (wrKeys c.ws) key := ⟨_, rfl⟩
 rw [← hi] at HFW hle HSW
 have HC := Lib.hid hc
 have HO0 := Lib.hid h
 obtain ⟨_, _, _, _, _, _, hf, hB, hZ, _⟩ := h.cl hc
 have hbC : bC < w.heap.size := World.block_lt_of_cell? w _ ht
 have hws : WrsAt w (· < w.heap.size) (some ⟨b, 0, none⟩) c.ws := by
  obtain ⟨_, _, _, _, ⟨A, k, c3, _, hw⟩, _⟩ := h.cl hc
  rw [ht] at c3
  injection c3 with c3
  injection c3 with e1 _ _
  subst e1
  exact hw
 have HCE := Lib.hid (show CellsAt w b 0 (wrsC c.ws) from fun j v hj => SeqAt.wrCells hws j v hj)
 have q0 : decide ((20 : Int) < (val.size : Int)) = false := decide_eq_false (by omega)
 have q1 : decide ((6 : Int) ≤ (c.ws.length : Int)) = false := decide_eq_false (by omega)
 have j0 : (0 : Int) ≤ (i : Int) := by omega
 have HF := Lib.hid (hf (C * 5 + 3))
 have HZ := Lib.hid hZ
 have HT := Lib.hid ht
 have hn : c.ws.length ≤ 1000 := by omega
 clear h hc he hk hinc hi hf hZ hws ht
 go_enter Tryz.func31, Tryz.ntmps31
 go_wp2_with fail
 refine HAE.out.mono ?_
 rintro e w1 ⟨rfl, rfl⟩
 go_wp2_with fail
 refine HFW.out.mono ?_
 rintro e w1 ⟨rfl, hb1⟩
 have c3 := (hb1.cell (p := ⟨bC, C * 5 + 3, none⟩) hbC).trans HT.out
 have hbC1 : bC < w1.heap.size := World.block_lt_of_cell? w1 _ c3
 have hbw1 : b < w1.heap.size := Nat.lt_of_lt_of_le hbw hb1.size
 obtain ⟨W2, hW2⟩ : ∃ W2, W2 = w1.alloc (.cells #[.string key, .string val] 58) := ⟨_, rfl⟩
 have hb2 : Below w1.heap.size w1 W2 := by rw [hW2]; exact below_alloc (Below.refl _ _) _
 have hs2 : W2.heap.size = w1.heap.size + 1 := by rw [hW2]; simp
 have hv2 : CellsAt W2 w1.heap.size 0 [.string key, .string val] := by
  intro j v hj
  have h := World.cell?_alloc_new w1 #[.string key, .string val] 58 (0 + j)
  rw [hW2, h, Nat.zero_add]
  simpa using hj
 have hb12 : Below w.heap.size w W2 := below_next hb1 hb2
 have hIns := insWr_any b w1.heap.size c.ws.length i (wrsC c.ws) [.string key, .string val] W2 (wrsC_length _) rfl (HCE.out.keep fun k => hb12.cell (p := ⟨b, k, none⟩) hbw) hv2 (by omega) (by omega) (wrsC_one _) (by
  intro v hv
  simp only [List.mem_cons, List.not_mem_nil, or_false] at hv
  rcases hv with rfl | rfl <;> rfl) hle hn
 have HINS := Lib.hid hIns
 have HW2 := Lib.hid hW2
 have HB12 := Lib.hid hb12
 have HB1 := Lib.hid hb1
 clear hIns hW2 hb12 hb1 hb2 hv2
 go_wp2_with fail
 rw [← HW2.out]
 refine HINS.out.mono ?_
 rintro e w3 ⟨g, cg, rfl, hcap, hg1, hg2, hgc, hgf, hb3⟩
 have hb03 : Below w.heap.size w w3 := below_next HB12.out hb3
 have d3 := (hb03.cell (p := ⟨bC, C * 5 + 3, none⟩) hbC).trans HT.out
 have df := (hb03.frozen (p := ⟨bC, C * 5 + 3, none⟩) hbC).trans HF.out
 have hgw : w.heap.size ≤ g := Nat.le_trans HB12.out.size hg1
 have hN := HO0.out.wrIns (x := ⟨key, val⟩) hb03 HC.out hle ⟨hks, hvs⟩ hgw hg2 hgf hcap (by omega) hgc
 have HN := Lib.hid hN
 have HB03 := Lib.hid hb03
 clear hN hb03 hgf hgc hb3 hcap hg1 hg2 hgw
 go_wp2
 go_ret
 rw [HSW.out]
 exact ⟨rfl, HN.out, (Keeps.new HO0.out.base HB03.out).set (p := ⟨bC, C * 5 + 3, none⟩) hB HZ.out _⟩
theorem put_any (key val : ByteArray) (h : Own w t Z B bx bC wo) (hc : wo.cls[C]? = some c) (hks : key.size ≤ maxLen) (hvs : val.size ≤ maxLen) (hinc : Inc (wrKeys c.ws))
 {b : Nat} (ht : w.cell? ⟨bC, C * 5 + 3, none⟩ = some (.slice (some ⟨b, 0, none⟩) c.ws.length c.ws.length)) (hbw : b < w.heap.size) :
 Calls Tryz.prog 31 #[.pointer (some ⟨bC, C * 5, none⟩), .string key, .string val] w (NumOut t Z B bx bC (wo.setC C (putC c key val).1, (putC c key val).2) w) := by
 by_cases he : accessE c key = 0
 ·by_cases hl : 20 < val.size
  ·exact put_long key val h hc hks he hl
  ·cases hk : hasK (wrKeys c.ws) key with
   | true => exact put_again key val h hc hks hvs he hl hinc hk
   | false =>
    by_cases h6 : 6 ≤ c.ws.length
    ·exact put_full key val h hc hks he hl hinc hk h6
    ·exact put_new key val h hc hks hvs he hl hinc hk h6 ht hbw
 ·exact put_err key val h hc hks he
end
theorem chg_has {rows : List RowM} {k key : ByteArray} {op : RowM → RowM × Int} (h : RowsOk rows) (hop : OpGood op) (hk : hasK (rowKeys rows) k = true ∨ keyB k = true) (hh : hasK (rowKeys rows) key = true) : hasK (rowKeys (chgRow rows k op).1) key = true := by
 have h' := chg_ok h hop hk
 rw [hasK_iff h.inc] at hh
 rw [hasK_iff h'.inc]
 unfold chgRow
 split
 ·rename_i hb
  dsimp only
  split
  ·rename_i e
   have hkey := (hop _ (h.ok _ (rowAt_mem hb)) e).2
   rw [keys_set fun hi => ?_]
   ·exact hh
   ·rw [hkey]
    have := rowAt_get hb
    rw [List.getElem?_eq_getElem hi] at this
    injection this with this
    rw [this]
  ·exact hh
 ·split
  ·exact hh
  ·dsimp only
   split
   ·rw [rowKeys, List.map_append, List.map_cons]
    rw [rowKeys, ← List.take_append_drop (lowIx (rowKeys rows) k) rows, List.map_append] at hh
    rcases List.mem_append.1 hh with hh | hh
    ·exact List.mem_append.2 (.inl hh)
    ·exact List.mem_append.2 (.inr (List.mem_cons_of_mem _ hh))
   ·exact hh
section
variable {w : World} {t : Bool} {Z : Nat → Prop} {B bx bC : Nat} {wo : WoM}
theorem undoRow_all (key : ByteArray) (hks : key.size ≤ maxLen) (st : Int) (h : Own w true Z B bx bC wo) (hr : RowsOk wo.rows) :
 Calls Tryz.prog 58 #[.pointer (some ⟨bx, 0, none⟩), .string key, .int .i64 st] w (NumOut false Z B bx bC (⟨(chgRow wo.rows key (undoOp st)).1, wo.clock, wo.cls⟩, (chgRow wo.rows key (undoOp st)).2) w) := by
 by_cases hk : hasK (rowKeys wo.rows) key = true
 ·exact (undoRow_found key st h hr hk).mono fun _ _ x => ⟨x.1.1, x.1.2.1.loose, x.1.2.2⟩
 ·exact undoRow_new key hks st h hr (by simpa using hk)
theorem lock_new (w : World) (ls : Int) (lp : ByteArray) : ∃ W0, W0 = w.alloc (.cells #[.int .i64 ls, .string lp] 42) ∧ Below w.heap.size w W0 ∧ W0.heap.size = w.heap.size + 1 ∧ W0.cell? ⟨w.heap.size, 0, none⟩ = some (.int .i64 ls) ∧ W0.cell? ⟨w.heap.size, 1, none⟩ = some (.string lp) :=
 ⟨_, rfl, below_alloc (Below.refl _ _) _, by simp, by simp, by simp⟩
set_option maxRecDepth 100000 in
set_option maxHeartbeats 4000000 in
theorem resolve_form (key : ByteArray) (h : Own w t Z B bx bC wo) (hks : key.size ≤ maxLen) (hk : keyB key = false) :
 Calls Tryz.prog 34 #[.pointer (some ⟨bx, 0, none⟩), .string key] w (NumOut t Z B bx bC (resolveW wo key) w) := by
 rw [resolveW, if_pos hk]
 have HK := Lib.hid hks
 have HO := Lib.hid h
 clear h hks
 go_enter Tryz.func34, Tryz.ntmps34
 go_wp2_with (go_at_call 55; refine (key_any _ _ HK.out).mono ?_; rintro e w' ⟨rfl, rfl⟩)
 go_ret
 exact ⟨rfl, HO.out, Keeps.refl _ _ _⟩
set_option maxRecDepth 100000 in
set_option maxHeartbeats 4000000 in
theorem resolve_none (key : ByteArray) (h : Own w t Z B bx bC wo) (hr : RowsOk wo.rows) (hks : key.size ≤ maxLen) (hk : keyB key = true) (hh : hasK (rowKeys wo.rows) key = false) :
 Calls Tryz.prog 34 #[.pointer (some ⟨bx, 0, none⟩), .string key] w (NumOut t Z B bx bC (resolveW wo key) w) := by
 rw [resolveW, if_neg (by simp [hk]), if_pos hh]
 have HK := Lib.hid hks
 have HO := Lib.hid h
 have HFR := Lib.hid (findRow_any key h hr.inc)
 rw [hh] at HFR
 clear h hks hr
 go_enter Tryz.func34, Tryz.ntmps34
 go_wp2_with (go_at_call 55; refine (key_any _ _ HK.out).mono ?_; rintro e w' ⟨rfl, rfl⟩)
 refine HFR.out.mono ?_
 rintro e w1 ⟨rfl, hb1⟩
 go_wp2
 go_ret
 exact ⟨rfl, HO.out.upto hb1, Keeps.new HO.out.base hb1⟩
set_option maxRecDepth 100000 in
set_option maxHeartbeats 4000000 in
theorem resolve_free (key : ByteArray) (h : Own w t Z B bx bC wo) (hr : RowsOk wo.rows) (hks : key.size ≤ maxLen) (hk : keyB key = true) (hh : hasK (rowKeys wo.rows) key = true) (hl : (rowAt wo.rows key).ls = 0) :
 Calls Tryz.prog 34 #[.pointer (some ⟨bx, 0, none⟩), .string key] w (NumOut t Z B bx bC (resolveW wo key) w) := by
 rw [resolveW, if_neg (by simp [hk]), if_neg (by simp [hh]), if_pos hl]
 have HK := Lib.hid hks
 have HO := Lib.hid h
 have HFR := Lib.hid (findRow_any key h hr.inc)
 rw [hh] at HFR
 obtain ⟨i, hi⟩ : ∃ i, i = lowIx (rowKeys wo.rows) key := ⟨_, rfl⟩
 have hlt : i < wo.rows.length := by rw [hi]; exact hasK_lt hh
 obtain ⟨r, hr0⟩ : ∃ r, r = rowAt wo.rows key := ⟨_, rfl⟩
 have hget : wo.rows[i]? = some r := by rw [hi, hr0]; exact rowAt_get hh
 rw [← hi] at HFR
 rw [← hr0] at hl
 have HGET := Lib.hid hget
 have j0 : (0 : Int) ≤ (i : Int) := by omega
 have j1 : (i : Int) < (wo.rows.length : Int) := by omega
 clear h hks hr hi hr0 hget
 go_enter Tryz.func34, Tryz.ntmps34
 go_wp2_with (go_at_call 55; refine (key_any _ _ HK.out).mono ?_; rintro e w' ⟨rfl, rfl⟩)
 refine HFR.out.mono ?_
 rintro e w1 ⟨rfl, hb1⟩
 obtain ⟨bR, rc, x0, hrows⟩ := (HO.out.upto hb1).rowsAt
 obtain ⟨b, o, hA, hbb, hrow⟩ := hrows.at_ HGET.out
 obtain ⟨rfl, rfl⟩ : bR = b ∧ 0 = o := by injection hA with e; injection e with e1 e2; exact ⟨e1, e2⟩
 rw [Nat.zero_add] at hrow
 have d1 := hrow.cs
 rw [hl] at d1
 have HB1 := Lib.hid hb1
 clear hrow hrows hA hb1
 go_wp2
 go_ret
 exact ⟨rfl, HO.out.upto HB1.out, Keeps.new HO.out.base HB1.out⟩
set_option maxRecDepth 100000 in
set_option maxHeartbeats 4000000 in
theorem resolve_lock (key : ByteArray) (h : Own w true Z B bx bC wo) (hr : RowsOk wo.rows) (hks : key.size ≤ maxLen) (hk : keyB key = true) (hh : hasK (rowKeys wo.rows) key = true) (hl : (rowAt wo.rows key).ls ≠ 0) :
 Calls Tryz.prog 34 #[.pointer (some ⟨bx, 0, none⟩), .string key] w (NumOut false Z B bx bC (resolveW wo key) w) := by
 have HK := Lib.hid hks
 have HO := Lib.hid h
 have HR := Lib.hid hr
 have HFR := Lib.hid (findRow_any key h hr.inc)
 rw [hh] at HFR
 obtain ⟨i, hi⟩ : ∃ i, i = lowIx (rowKeys wo.rows) key := ⟨_, rfl⟩
 have hlt : i < wo.rows.length := by rw [hi]; exact hasK_lt hh
 obtain ⟨r, hr0⟩ : ∃ r, r = rowAt wo.rows key := ⟨_, rfl⟩
 have hget : wo.rows[i]? = some r := by rw [hi, hr0]; exact rowAt_get hh
 have hok : r.ok = true := hr.ok r (by rw [hr0]; exact rowAt_mem hh)
 have hsz : r.lp.size ≤ maxLen := by rw [hr0]; exact (h.rowOk (rowAt_mem hh)).p
 rw [← hi] at HFR
 rw [← hr0] at hl
 obtain ⟨hst, hlk, _, _⟩ := (lockB_iff hl).1 (rowB_parts.1 (show rowB r.key r.ls r.lp r.val r.recs = true from hok)).2.2.2
 have HGET := Lib.hid hget
 have j0 : (0 : Int) ≤ (i : Int) := by omega
 have j1 : (i : Int) < (wo.rows.length : Int) := by omega
 obtain ⟨rk, ls, lp, val, recs⟩ := r
 dsimp only at hl hst hlk hsz
 have q0 : (ls == 0) = false := by simpa using hl
 obtain ⟨S, hS⟩ : ∃ S, S = statIn wo.rows lp ls := ⟨_, rfl⟩
 obtain ⟨X, hX⟩ : ∃ X, X = chgRow wo.rows lp (undoOp ls) := ⟨_, rfl⟩
 obtain ⟨U, hU⟩ : ∃ U, U = chgRow X.1 key (undoOp ls) := ⟨_, rfl⟩
 obtain ⟨V, hV⟩ : ∃ V, V = chgRow wo.rows key (commitOp ls S.2) := ⟨_, rfl⟩
 have HRW := Lib.hid (show resolveW wo key = (if S.1 = 2 then ({ wo with rows := V.1 }, V.2) else if X.2 ≠ 0 then (wo, X.2) else ({ wo with rows := U.1 }, U.2)) by
  rw [resolveW, if_neg (by simp [hk]), if_neg (by simp [hh]), ← hr0, if_neg hl, hU, hV, hX, hS])
 have HXE := Lib.hid (show X.2 ≠ 0 → X.1 = wo.rows by rw [hX]; exact chg_err)
 have HXR := Lib.hid (show RowsOk X.1 by rw [hX]; exact chg_ok hr (undoOp_good ls) (.inr hlk))
 have HXH := Lib.hid (show hasK (rowKeys X.1) key = true by rw [hX]; exact chg_has hr (undoOp_good ls) (.inr hlk) hh)
 have HS := Lib.hid hS
 have HX := Lib.hid hX
 have HU := Lib.hid hU
 have HV := Lib.hid hV
 have HH := Lib.hid hh
 clear h hks hr hi hr0 hget hok hl hS hX hU hV hh hlk
 go_enter Tryz.func34, Tryz.ntmps34
 go_wp2_with (go_at_call 55; refine (key_any _ _ HK.out).mono ?_; rintro e w' ⟨rfl, rfl⟩)
 refine HFR.out.mono ?_
 rintro e w1 ⟨rfl, hb1⟩
 have ho1 := HO.out.upto hb1
 obtain ⟨bR, rc, x0, hrows⟩ := ho1.rowsAt
 obtain ⟨b, o, hA, hbb, hrow⟩ := hrows.at_ HGET.out
 obtain ⟨rfl, rfl⟩ : bR = b ∧ 0 = o := by injection hA with e; injection e with e1 e2; exact ⟨e1, e2⟩
 rw [Nat.zero_add] at hrow
 have d1 := hrow.cs
 have d2 := hrow.cp
 dsimp only at d1 d2
 obtain ⟨W2, hW2, hb2, hs2, l0, l1⟩ := lock_new w1 ls lp
 have hg2 : w1.heap.size < W2.heap.size := by omega
 have HO2 := Lib.hid (ho1.more hb2 (Nat.le_refl _) hg2)
 have HB1 := Lib.hid hb1
 have HB2 := Lib.hid hb2
 have HW2 := Lib.hid hW2
 have HSI := Lib.hid (statusIn_any lp ls HO2.out HR.out hst)
 rw [← HS.out] at HSI
 obtain ⟨S1, S2⟩ := S
 dsimp only at HRW HV
 have hbs2 : B ≤ W2.heap.size := HO2.out.base
 clear hrow hrows hA hb1 hb2 hW2 ho1
 go_wp2_with fail
 rw [← HW2.out]
 refine HSI.out.mono ?_
 rintro e w3 ⟨rfl, hb3⟩
 have m0 := (hb3.cell (p := ⟨w1.heap.size, 0, none⟩) hg2).trans l0
 have m1 := (hb3.cell (p := ⟨w1.heap.size, 1, none⟩) hg2).trans l1
 have hg3 : w1.heap.size < w3.heap.size := Nat.lt_of_lt_of_le hg2 hb3.size
 have HO3 := Lib.hid (HO2.out.upto hb3)
 have hk3 : Keeps B Z w w3 := Keeps.new HO.out.base (below_next (below_next HB1.out HB2.out) hb3)
 have HK3 := Lib.hid hk3
 clear hb3 hk3 l0 l1 d1 d2
 by_cases t2 : S1 = 2
 ·have t2' : (S1 == 2) = true := by simpa using t2
  have HF := Lib.hid (show resolveW wo key = ({ wo with rows := V.1 }, V.2) by rw [HRW.out, if_pos t2])
  clear t2
  go_wp2_with fail
  refine (commitRow_found key ls S2 HO3.out HR.out HH.out).mono ?_
  rw [← HV.out]
  rintro e w4 ⟨⟨rfl, ho4, hk4⟩, _⟩
  have HO4 := Lib.hid ho4
  have HK4 := Lib.hid hk4
  clear ho4 hk4
  go_wp2
  go_ret
  rw [HF.out]
  exact ⟨rfl, (HO4.out.less fun b e => .inl e).loose, HK3.out.trans (HK4.out.less fun b e => .inl e)⟩
 ·have t2' : (S1 == 2) = false := by simpa using t2
  have HT2 := Lib.hid t2
  clear t2
  go_wp2_with fail
  refine (undoRow_all lp hsz ls HO3.out HR.out).mono ?_
  rw [← HX.out]
  rintro e w4 ⟨rfl, ho4, hk4⟩
  have n0 := (hk4.cell hg3 (.inr rfl) 0).trans m0
  obtain ⟨X1, X2⟩ := X
  dsimp only at ho4 HRW HXE HXR HXH HU
  have HO4 := Lib.hid ho4
  have HK4 := Lib.hid hk4
  clear ho4 hk4 m0 m1
  by_cases t3 : X2 = 0
  ·have t3' : (X2 != 0) = false := by simpa using t3
   have HF := Lib.hid (show resolveW wo key = ({ wo with rows := U.1 }, U.2) by rw [HRW.out, if_neg HT2.out, if_neg (by simp [t3])])
   clear t3
   go_wp2_with fail
   refine (undoRow_found key ls HO4.out HXR.out HXH.out).mono ?_
   dsimp only
   rw [← HU.out]
   rintro e w5 ⟨⟨rfl, ho5, hk5⟩, _⟩
   have HO5 := Lib.hid ho5
   have HK5 := Lib.hid hk5
   clear ho5 hk5
   go_wp2
   go_ret
   rw [HF.out]
   exact ⟨rfl, (HO5.out.less fun b e => .inl e), HK3.out.trans ((HK4.out.trans HK5.out).less fun b e => .inl e)⟩
  ·have t3' : (X2 != 0) = true := by simpa using t3
   have HF := Lib.hid (show resolveW wo key = (wo, X2) by rw [HRW.out, if_neg HT2.out, if_pos t3])
   have hX1 := HXE.out t3
   subst hX1
   clear t3
   go_wp2
   go_ret
   rw [HF.out]
   exact ⟨rfl, (HO4.out.less fun b e => .inl e), HK3.out.trans (HK4.out.less fun b e => .inl e)⟩
theorem resolve_any (key : ByteArray) (h : Own w true Z B bx bC wo) (hr : RowsOk wo.rows) (hks : key.size ≤ maxLen) :
 Calls Tryz.prog 34 #[.pointer (some ⟨bx, 0, none⟩), .string key] w (NumOut false Z B bx bC (resolveW wo key) w) := by
 have lo : ∀ {e w'}, NumOut true Z B bx bC (resolveW wo key) w e w' → NumOut false Z B bx bC (resolveW wo key) w e w' := fun x => ⟨x.1, x.2.1.loose, x.2.2⟩
 cases hk : keyB key with
 | false => exact (resolve_form key h hks hk).mono fun _ _ x => lo x
 | true =>
  cases hh : hasK (rowKeys wo.rows) key with
  | false => exact (resolve_none key h hr hks hk hh).mono fun _ _ x => lo x
  | true =>
   by_cases hl : (rowAt wo.rows key).ls = 0
   ·exact (resolve_free key h hr hks hk hh hl).mono fun _ _ x => lo x
   ·exact resolve_lock key h hr hks hk hh hl
end
end Go.Proofs.YtambkjnhfejfaaaGreat
