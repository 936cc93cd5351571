/-
  Contracts of functions of the program and words for memory, several texts in one: TStep3, TGet. Conditions: those stated with each.
-/
import Derived.Test.YtambkjnhfejfaabDoorG11
import Derived.Test.YtambkjnhfejfaabDoorG25
namespace Go.Proofs.YtambkjnhfejfaabDoor
open Go.RowKit
theorem lockW_setC {wo : WoM} {C : Nat} {c c' : ClM} : lockW (wo.setC C c') C c = lockW wo C c := by
  simp [lockW, WoM.setC, failW]
section
variable {w : World} {Z : Nat → Prop} {B bx bC : Nat} {wo : WoM} {C : Nat} {c : ClM}
set_option maxRecDepth 100000 in
set_option maxHeartbeats 4000000 in
theorem step_none (h : Own w true Z B bx bC wo) (hc : wo.cls[C]? = some c) (hp : c.ph = 0) :
    Calls Tryd.prog 78 #[.pointer (some ⟨bx, 0, none⟩), .pointer (some ⟨bC, C * 5, none⟩)] w (AnsOut false Z B bx bC (stepW wo C c) w) := by
  have HSW := Lib.hid (show stepW wo C c = (wo, ansCode 6) by
    rw [stepW, if_neg (by omega), if_neg (by omega), if_neg (by omega)])
  have HO0 := Lib.hid h
  obtain ⟨c0, _⟩ := h.cl hc
  have hbC : bC < w.heap.size := World.block_lt_of_cell? w _ c0
  rw [hp] at c0
  clear h hc
  go_enter Tryd.func78, Tryd.ntmps78
  go_wp2
  rw [HSW.out]
  have hal : Below w.heap.size w (w.alloc (.cells #[.int .i64 6, .bool false, .string ⟨#[]⟩, .int .i64 0, .int .i64 0] 59)) := below_alloc (Below.refl _ _) _
  exact bodyPost_ret (v := ansV (ansCode 6)) (by simp [results, Tryd.results78, go_sem, ansCode]) rfl ⟨rfl, HO0.out.loose.upto hal, Keeps.new HO0.out.base hal⟩
set_option maxRecDepth 100000 in
set_option maxHeartbeats 4000000 in
theorem step_empty (h : Own w true Z B bx bC wo) (hc : wo.cls[C]? = some c) (hp : c.ph = 1) (hl : c.ws.length = 0) :
    Calls Tryd.prog 78 #[.pointer (some ⟨bx, 0, none⟩), .pointer (some ⟨bC, C * 5, none⟩)] w (AnsOut false Z B bx bC (stepW wo C c) w) := by
  obtain ⟨W0, hW, hb0, hs0, z0, z1, z2, z3, z4, zf⟩ := ans_new w
  have hg : w.heap.size < W0.heap.size := by omega
  have hph : c.ph ≠ 0 := by omega
  have HCN := Lib.hid (fun n => drop_any ((h.more hb0 (Nat.le_refl _) hg).loose.drewN n) hc hph)
  have HSW := Lib.hid (show stepW wo C c = (wo.setC C idleC, ansCode 0) by
    rw [stepW, if_pos hp, if_pos hl])
  have HW := Lib.hid hW
  have HB0 := Lib.hid hb0
  have HO0 := Lib.hid h
  have HZF := Lib.hid zf
  obtain ⟨c0, _, _, c4, ⟨A, k, c3, _, _⟩, _⟩ := h.cl hc
  have hbC : bC < w.heap.size := World.block_lt_of_cell? w _ c0
  have hBW : B ≤ W0.heap.size := by have := h.base; omega
  rw [hp] at c0
  rw [hl] at c3
  clear h hc hb0 hW zf hph
  go_enter Tryd.func78, Tryd.ntmps78
  go_wp2_with fail
  rw [← HW.out]
  refine (HCN.out 0).mono ?_
  rintro e w1 ⟨rfl, ho1, hk1'⟩
  have hk1 := ((Keeps.refl B (fun b => Z b ∨ b = w.heap.size) W0).drewN hBW _).trans hk1'
  obtain ⟨y0, y1, y2, y3, y4, g0, g1, g2, g3, g4⟩ := ans_later hk1 hg (.inr rfl) z0 z1 z2 z3 z4 HZF.out
  have HO1 := Lib.hid ho1
  have HK1 := Lib.hid hk1
  clear ho1 hk1 hk1'
  go_wp2
  obtain ⟨hA, hK⟩ := ans_end HO0.out HB0.out rfl HO1.out HK1.out (.int .i64 0) (.bool false) (.string ⟨#[]⟩) (.int .i64 0) (.int .i64 0)
  rw [HSW.out]
  exact bodyPost_ret (v := ansV (ansCode 0)) (by simp [results, Tryd.results78, go_sem, y0, y1, y2, y3, y4, ansCode]) rfl ⟨rfl, hA, hK⟩
set_option maxRecDepth 100000 in
set_option maxHeartbeats 4000000 in
theorem step_open (h : Own w true Z B bx bC wo) (hc : wo.cls[C]? = some c) (hr : RowsOk wo.rows) (hst : inB c.st 1 1099511627776 = true) (hp : c.ph = 1) (hm : 0 < c.ws.length) (ham : c.at_ = 0) :
    Calls Tryd.prog 78 #[.pointer (some ⟨bx, 0, none⟩), .pointer (some ⟨bC, C * 5, none⟩)] w (AnsOut false Z B bx bC (stepW wo C c) w) := by
  obtain ⟨c0, _, _, c4, ⟨A, k, c3, hk3, hws⟩, _, hf, hB, hZ, hC⟩ := h.cl hc
  have hlen : c.ws.length ≤ 4398046511104 := hws.1
  obtain ⟨V, hV⟩ : ∃ V, V = w.setCell ⟨bC, C * 5, none⟩ (.int .i64 2) := ⟨_, rfl⟩
  have hoV : Own V true Z B bx bC (wo.setC C { c with ph := 2 }) := by rw [hV]; exact h.ph (v := 2) hc (by unfold i64; omega)
  have hsV : V.heap.size = w.heap.size := by rw [hV]; exact (set1_same _ _ _).sz
  have hkV : Keeps B Z w V := by rw [hV]; exact (Keeps.refl _ _ _).set (p := ⟨bC, C * 5, none⟩) hB hZ _
  obtain ⟨W0, hW, hb0, hs0, z0, z1, z2, z3, z4, zf⟩ := ans_new V
  have hg : V.heap.size < W0.heap.size := by omega
  obtain ⟨Y, hY⟩ : ∃ Y, Y = lockW wo C { c with ph := 2 } := ⟨_, rfl⟩
  have HCN := Lib.hid (fun n => lockNext_any (m := 0) ((hoV.more hb0 (Nat.le_refl _) hg).drewN n) (setC_get hC) hr hst (show (2 : Int) ≠ 0 by decide) hm ham)
  rw [lockW_setC, ← hY] at HCN
  have HSW := Lib.hid (show stepW wo C c = (Y.1, ansCode Y.2) by
    rw [stepW, if_pos hp, if_neg (by omega), hY])
  have f0 := hf (C * 5)
  have HV := Lib.hid hV
  have HW := Lib.hid hW
  have HB0 := Lib.hid hb0
  have HO0 := Lib.hid hoV
  have HKV := Lib.hid hkV
  have HZF := Lib.hid zf
  have hbC : bC < w.heap.size := World.block_lt_of_cell? w _ c0
  have hBW : B ≤ W0.heap.size := by have := h.base; omega
  have t0 : ((c.ws.length : Int) == 0) = false := by simpa using (show ¬ ((c.ws.length : Int) = 0) by omega)
  obtain ⟨Y1, Y2⟩ := Y
  dsimp only at HSW
  rw [hp] at c0
  clear h hc hr hb0 hW zf hY ham hf hZ hV hoV hkV hws
  go_enter Tryd.func78, Tryd.ntmps78
  go_wp2_with fail
  rw [← HV.out, ← HW.out]
  refine (HCN.out 0).mono ?_
  rintro e w1 ⟨rfl, ho1, hk1'⟩
  have hk1 := ((Keeps.refl B (fun b => Z b ∨ b = V.heap.size) W0).drewN hBW _).trans hk1'
  obtain ⟨y0, y1, y2, y3, y4, g0, g1, g2, g3, g4⟩ := ans_later hk1 hg (.inr rfl) z0 z1 z2 z3 z4 HZF.out
  have HO1 := Lib.hid ho1
  have HK1 := Lib.hid hk1
  clear ho1 hk1 hk1'
  rw [hsV] at y0 y1 y2 y3 y4 g0 g1 g2 g3 g4
  go_wp2
  obtain ⟨hA, hK⟩ := ans_end HO0.out HB0.out rfl HO1.out HK1.out (.int .i64 Y2) (.bool false) (.string ⟨#[]⟩) (.int .i64 0) (.int .i64 0)
  rw [hsV] at hA hK
  rw [HSW.out]
  exact bodyPost_ret (v := ansV (ansCode Y2)) (by simp [results, Tryd.results78, go_sem, y0, y1, y2, y3, y4, ansCode]) rfl ⟨rfl, hA, HKV.out.trans hK⟩
end
end Go.Proofs.YtambkjnhfejfaabDoor

namespace Go.Proofs.YtambkjnhfejfaabDoor
open Go.RowKit
section
variable {w : World} {t : Bool} {Z : Nat → Prop} {B bx bC : Nat} {wo : WoM} {C : Nat} {c : ClM}
theorem wrAt_get {l : List WrM} {key : ByteArray} (h : hasK (wrKeys l) key = true) : l[lowIx (wrKeys l) key]? = some (wrAt l key) ∧ lowIx (wrKeys l) key < l.length := by
  simp only [hasK, Bool.and_eq_true, decide_eq_true_eq, List.length_map] at h
  exact ⟨getD_some h.1, h.1⟩
theorem access_zero {key : ByteArray} (h : accessE c key = 0) : c.ph = 1 ∧ keyB key = true := by
  unfold accessE at h
  split at h
  · omega
  · split at h
    · omega
    · rename_i h1 h2
      exact ⟨by simpa using h1, by simpa using h2⟩
set_option maxRecDepth 100000 in
set_option maxHeartbeats 4000000 in
theorem get_err (key : ByteArray) (h : Own w t Z B bx bC wo) (hc : wo.cls[C]? = some c) (hks : key.size ≤ maxLen) (he : accessE c key ≠ 0) :
    Calls Tryd.prog 76 #[.pointer (some ⟨bx, 0, none⟩), .pointer (some ⟨bC, C * 5, none⟩), .string key] w (AnsOut t Z B bx bC (wo, getA wo c key) w) := by
  obtain ⟨W0, hW, hb0, hs0, z0, z1, z2, z3, z4, zf⟩ := ans_new w
  have hg : w.heap.size < W0.heap.size := by omega
  have HSW := Lib.hid (show getA wo c key = ansCode (accessE c key) by rw [getA, if_pos he])
  have HO := Lib.hid (h.more hb0 (Nat.le_refl _) hg)
  have HAE := Lib.hid (accessError_any key HO.out hc hks)
  obtain ⟨E, hE⟩ : ∃ E, E = accessE c key := ⟨_, rfl⟩
  rw [← hE] at HSW HAE
  have q0 : (E != 0) = true := by rw [hE]; simpa using he
  have HW := Lib.hid hW
  have HB0 := Lib.hid hb0
  have HO0 := Lib.hid h
  obtain ⟨y0, y1, y2, y3, y4, g0, g1, g2, g3, g4⟩ := ans_later (Keeps.refl B (fun b => Z b ∨ b = w.heap.size) W0) hg (.inr rfl) z0 z1 z2 z3 z4 zf
  clear h hc hb0 hW zf he hE z0 z1 z2 z3 z4
  go_enter Tryd.func76, Tryd.ntmps76
  go_wp2_with fail
  rw [← HW.out]
  refine HAE.out.mono ?_
  rintro e w1 ⟨rfl, rfl⟩
  go_wp2
  obtain ⟨hA, hK⟩ := ans_end HO0.out HB0.out rfl HO.out (Keeps.refl _ _ _) (.int .i64 E) (.bool false) (.string ⟨#[]⟩) (.int .i64 0) (.int .i64 0)
  rw [HSW.out]
  exact bodyPost_ret (v := ansV (ansCode E)) (by simp [results, Tryd.results76, go_sem, y0, y1, y2, y3, y4, ansCode]) rfl ⟨rfl, hA, hK⟩
set_option maxRecDepth 100000 in
set_option maxHeartbeats 4000000 in
theorem get_own (key : ByteArray) (h : Own w t Z B bx bC wo) (hc : wo.cls[C]? = some c) (hks : key.size ≤ maxLen) (he : accessE c key = 0) (hinc : Inc (wrKeys c.ws)) (hk : hasK (wrKeys c.ws) key = true) :
    Calls Tryd.prog 76 #[.pointer (some ⟨bx, 0, none⟩), .pointer (some ⟨bC, C * 5, none⟩), .string key] w (AnsOut t Z B bx bC (wo, getA wo c key) w) := by
  obtain ⟨W0, hW, hb0, hs0, z0, z1, z2, z3, z4, zf⟩ := ans_new w
  have hg : w.heap.size < W0.heap.size := by omega
  have HSW := Lib.hid (show getA wo c key = ⟨0, true, (wrAt c.ws key).v, 0, 0⟩ by rw [getA, if_neg (by simp [he]), if_pos hk])
  have HO := Lib.hid (h.more hb0 (Nat.le_refl _) hg)
  have HAE := Lib.hid (accessError_any key HO.out hc hks)
  have HFW := Lib.hid (findWrite_any key HO.out hc hinc)
  rw [he] at HAE
  rw [hk] at HFW
  obtain ⟨hget, hlt⟩ := wrAt_get hk
  obtain ⟨i, hi⟩ : ∃ i, i = lowIx (wrKeys c.ws) key := ⟨_, rfl⟩
  obtain ⟨x, hx⟩ : ∃ x, x = wrAt c.ws key := ⟨_, rfl⟩
  rw [← hi] at HFW hget hlt
  rw [← hx] at HSW hget
  have HGET := Lib.hid hget
  have HC := Lib.hid hc
  have HW := Lib.hid hW
  have HB0 := Lib.hid hb0
  have HO0 := Lib.hid h
  have HZF := Lib.hid zf
  have j0 : (0 : Int) ≤ (i : Int) := by omega
  have j1 : (i : Int) < (c.ws.length : Int) := by omega
  clear h hc hb0 hW zf he hk hi hx hget hinc
  go_enter Tryd.func76, Tryd.ntmps76
  go_wp2_with fail
  rw [← HW.out]
  refine HAE.out.mono ?_
  rintro e w1 ⟨rfl, rfl⟩
  go_wp2_with fail
  refine HFW.out.mono ?_
  rintro e w1 ⟨rfl, hb1⟩
  have hk1 : Keeps B (fun b => Z b ∨ b = w.heap.size) W0 w1 := Keeps.new (Nat.le_trans HO0.out.base (by omega)) hb1
  have ho1 := HO.out.upto hb1
  obtain ⟨c0, c1, c2, c4, ⟨A, k, c3, hq, hws⟩, hok, _, _, _, hC⟩ := ho1.cl HC.out
  obtain ⟨b, o, rfl, hbb, hr0⟩ := SeqAt.at_ hws HGET.out
  obtain ⟨e0, e1, eok⟩ := hr0
  obtain ⟨y0, y1, y2, y3, y4, g0, g1, g2, g3, g4⟩ := ans_later hk1 hg (.inr rfl) z0 z1 z2 z3 z4 HZF.out
  have HO1 := Lib.hid ho1
  have HK1 := Lib.hid hk1
  clear ho1 hk1 hws hok hb1 z0 z1 z2 z3 z4
  obtain ⟨xk, xv⟩ := x
  dsimp only at e0 e1
  go_wp2
  obtain ⟨hA, hK⟩ := ans_end HO0.out HB0.out rfl HO1.out HK1.out (.int .i64 0) (.bool true) (.string xv) (.int .i64 0) (.int .i64 0)
  rw [HSW.out]
  exact bodyPost_ret (v := ansV ⟨0, true, xv, 0, 0⟩) (by simp [results, Tryd.results76, go_sem, y0, y1, y2, y3, y4]) rfl ⟨rfl, hA, hK⟩
set_option maxRecDepth 100000 in
set_option maxHeartbeats 4000000 in
theorem get_none (key : ByteArray) (h : Own w t Z B bx bC wo) (hc : wo.cls[C]? = some c) (hks : key.size ≤ maxLen) (he : accessE c key = 0) (hinc : Inc (wrKeys c.ws)) (hk : hasK (wrKeys c.ws) key = false) (hr : RowsOk wo.rows) (hkr : hasK (rowKeys wo.rows) key = false) :
    Calls Tryd.prog 76 #[.pointer (some ⟨bx, 0, none⟩), .pointer (some ⟨bC, C * 5, none⟩), .string key] w (AnsOut t Z B bx bC (wo, getA wo c key) w) := by
  obtain ⟨W0, hW, hb0, hs0, z0, z1, z2, z3, z4, zf⟩ := ans_new w
  have hg : w.heap.size < W0.heap.size := by omega
  have HSW := Lib.hid (show getA wo c key = ansCode 0 by rw [getA, if_neg (by simp [he]), if_neg (by simp [hk]), if_neg (by simp [hkr])])
  have HO := Lib.hid (h.more hb0 (Nat.le_refl _) hg)
  have HAE := Lib.hid (accessError_any key HO.out hc hks)
  have HFW := Lib.hid (findWrite_any key HO.out hc hinc)
  rw [he] at HAE
  rw [hk] at HFW
  have HR := Lib.hid hr
  have HW := Lib.hid hW
  have HB0 := Lib.hid hb0
  have HO0 := Lib.hid h
  have HZF := Lib.hid zf
  clear h hc hb0 hW zf he hk hinc hr
  go_enter Tryd.func76, Tryd.ntmps76
  go_wp2_with fail
  rw [← HW.out]
  refine HAE.out.mono ?_
  rintro e w1 ⟨rfl, rfl⟩
  go_wp2_with fail
  refine HFW.out.mono ?_
  rintro e w1 ⟨rfl, hb1⟩
  have HB1 := Lib.hid hb1
  clear hb1
  go_wp2_with fail
  refine (findRow_any key (HO.out.upto HB1.out) HR.out.inc).mono ?_
  rw [hkr]
  rintro e w2 ⟨rfl, hb2⟩
  have hb02 := below_next HB1.out hb2
  have hk1 : Keeps B (fun b => Z b ∨ b = w.heap.size) W0 w2 := Keeps.new (Nat.le_trans HO0.out.base (by omega)) hb02
  have ho1 := HO.out.upto hb02
  obtain ⟨y0, y1, y2, y3, y4, g0, g1, g2, g3, g4⟩ := ans_later hk1 hg (.inr rfl) z0 z1 z2 z3 z4 HZF.out
  have HO1 := Lib.hid ho1
  have HK1 := Lib.hid hk1
  clear ho1 hk1 hb2 hb02 z0 z1 z2 z3 z4
  go_wp2
  obtain ⟨hA, hK⟩ := ans_end HO0.out HB0.out rfl HO1.out HK1.out (.int .i64 0) (.bool false) (.string ⟨#[]⟩) (.int .i64 0) (.int .i64 0)
  rw [HSW.out]
  exact bodyPost_ret (v := ansV (ansCode 0)) (by simp [results, Tryd.results76, go_sem, y0, y1, y2, y3, y4, ansCode]) rfl ⟨rfl, hA, hK⟩
/-- What row.Read makes of a valid row, as an answer. -/
theorem read_all (r : RowM) (A : Option Addr) (q : Nat) (st : Int) (w : World) (hi : RowIn w r.key r.lp r.val A r.recs.length r.recs) (hok : r.ok = true) (hst : inB st 1 1099511627776 = true) :
    Calls Tryd.prog 25 #[rowV r.key r.ls r.lp r.val A r.recs.length q, .int .i64 st] w fun e w' => e = .returned (.tuple #[.string (readA r st).val, .bool (readA r st).is, .int .i64 (readA r st).code]) ∧ Below w.heap.size w w' := by
  cases t3 : inB r.ls 1 st with
  | true => rw [readA, if_pos t3]; exact read_busy _ _ _ _ _ _ _ _ _ _ hi hok hst t3
  | false => rw [readA, if_neg (by simp [t3])]; exact read_ok _ _ _ _ _ _ _ _ _ _ hi hok hst t3
theorem readA_rest (r : RowM) (st : Int) : (readA r st).ph = 0 ∧ (readA r st).time = 0 := by
  unfold readA; split <;> exact ⟨rfl, rfl⟩
set_option maxRecDepth 100000 in
set_option maxHeartbeats 4000000 in
theorem get_row (key : ByteArray) (h : Own w t Z B bx bC wo) (hc : wo.cls[C]? = some c) (hks : key.size ≤ maxLen) (he : accessE c key = 0) (hinc : Inc (wrKeys c.ws)) (hk : hasK (wrKeys c.ws) key = false) (hr : RowsOk wo.rows) (hkr : hasK (rowKeys wo.rows) key = true) (hst : inB c.st 1 1099511627776 = true) :
    Calls Tryd.prog 76 #[.pointer (some ⟨bx, 0, none⟩), .pointer (some ⟨bC, C * 5, none⟩), .string key] w (AnsOut t Z B bx bC (wo, getA wo c key) w) := by
  obtain ⟨W0, hW, hb0, hs0, z0, z1, z2, z3, z4, zf⟩ := ans_new w
  have hg : w.heap.size < W0.heap.size := by omega
  have HSW := Lib.hid (show getA wo c key = readA (rowAt wo.rows key) c.st by rw [getA, if_neg (by simp [he]), if_neg (by simp [hk]), if_pos hkr])
  have HO := Lib.hid (h.more hb0 (Nat.le_refl _) hg)
  have HAE := Lib.hid (accessError_any key HO.out hc hks)
  have HFW := Lib.hid (findWrite_any key HO.out hc hinc)
  rw [he] at HAE
  rw [hk] at HFW
  obtain ⟨i, hi⟩ : ∃ i, i = lowIx (rowKeys wo.rows) key := ⟨_, rfl⟩
  have hlt : i < wo.rows.length := by rw [hi]; exact hasK_lt hkr
  obtain ⟨r, hr0⟩ : ∃ r, r = rowAt wo.rows key := ⟨_, rfl⟩
  have hget : wo.rows[i]? = some r := by rw [hi, hr0]; exact rowAt_get hkr
  have hok : r.ok = true := hr.ok r (by rw [hr0]; exact rowAt_mem hkr)
  rw [← hr0] at HSW
  have HI := Lib.hid hi
  have HGET := Lib.hid hget
  have HT := Lib.hid (show rowB r.key r.ls r.lp r.val r.recs = true from hok)
  have HR := Lib.hid hr
  have HC := Lib.hid hc
  have HW := Lib.hid hW
  have HB0 := Lib.hid hb0
  have HO0 := Lib.hid h
  have HZF := Lib.hid zf
  have j0 : (0 : Int) ≤ (i : Int) := by omega
  have j1 : (i : Int) < (wo.rows.length : Int) := by omega
  obtain ⟨rk, ls, lp, val, recs⟩ := r
  dsimp only at HT
  clear h hc hb0 hW zf he hk hinc hr hi hr0 hget hok
  go_enter Tryd.func76, Tryd.ntmps76
  go_wp2_with fail
  rw [← HW.out]
  refine HAE.out.mono ?_
  rintro e w1 ⟨rfl, rfl⟩
  go_wp2_with fail
  refine HFW.out.mono ?_
  rintro e w1 ⟨rfl, hb1⟩
  have HB1 := Lib.hid hb1
  clear hb1
  go_wp2_with fail
  refine (findRow_any key (HO.out.upto HB1.out) HR.out.inc).mono ?_
  rw [hkr, ← HI.out]
  rintro e w2 ⟨rfl, hb2⟩
  have hb02 := below_next HB1.out hb2
  have ho2 := HO.out.upto hb02
  obtain ⟨c0, c1, _⟩ := ho2.cl HC.out
  obtain ⟨bR, rc, x0, hrows⟩ := ho2.rowsAt
  obtain ⟨b, o, hA, hbb, hrow⟩ := hrows.at_ HGET.out
  obtain ⟨rfl, rfl⟩ : bR = b ∧ 0 = o := by injection hA with e; injection e with e1 e2; exact ⟨e1, e2⟩
  rw [Nat.zero_add] at hrow
  have d0 := hrow.ck
  have d1 := hrow.cs
  have d2 := hrow.cp
  have d3 := hrow.cv
  obtain ⟨A, q, d4, _, hri⟩ := hrow.rowIn (fun _ h => h)
  have HRD := Lib.hid (read_all ⟨rk, ls, lp, val, recs⟩ A q c.st w2.drew (hri.upto (below_drew (Below.refl _ _))) HT.out hst)
  obtain ⟨r3, r4⟩ := readA_rest ⟨rk, ls, lp, val, recs⟩ c.st
  obtain ⟨Y, hY⟩ : ∃ Y, Y = readA ⟨rk, ls, lp, val, recs⟩ c.st := ⟨_, rfl⟩
  rw [← hY] at HRD HSW r3 r4
  clear hY
  obtain ⟨a0, a1, a2, a3, a4⟩ := Y
  dsimp only at HRD r3 r4
  subst r3 r4
  have HB2 := Lib.hid hb02
  clear hrow hrows hA hri ho2 hb2 hb02
  dsimp only at d0 d1 d2 d3 d4
  go_wp2
  refine wp_region_held_drew (S := fun W => W.cell? ⟨bx, 0, none⟩ = some (.slice (some ⟨bR, 0, none⟩) wo.rows.length rc) ∧ W.cell? ⟨bR, i * 5, none⟩ = some (.string rk) ∧ W.cell? ⟨bR, i * 5 + 1, none⟩ = some (.int .i64 ls) ∧ W.cell? ⟨bR, i * 5 + 2, none⟩ = some (.string lp) ∧ W.cell? ⟨bR, i * 5 + 3, none⟩ = some (.string val) ∧ W.cell? ⟨bR, i * 5 + 4, none⟩ = some (.slice A recs.length q) ∧ W.cell? ⟨bC, C * 5 + 1, none⟩ = some (.int .i64 c.st)) (by kernel_rfl) ?_ (fun hHeld => ?_)
  · exact ⟨x0, d0, d1, d2, d3, d4, c1⟩
  (refine wpAnyH_take (i := 0) (oi := ?_) (v := ?_) ?_ (by kernel_rfl) ?_ ?_ ?_ ?_ (by assumption) ?_; rotate_left 2; (simp only [List.getElem?_toArray, List.getElem?_cons_zero]; rfl); kernel_rfl; kernel_rfl; exact fun _ _ _ h => h; (refine Or.inl ⟨by rfl, ?_⟩; intro w hSw; (try dsimp only at hSw); go_simp; (first | done | with_reducible rfl)); (try simp only [Act.put, List.setIfInBounds_toArray, List.set_cons_zero, List.set_cons_succ]))
  (first | (refine wpAnyH_take (i := 1) (oi := ?_) (v := ?_) ?_ (by kernel_rfl) ?_ ?_ ?_ ?_ (by assumption) ?_; rotate_left 2; (simp only [List.getElem?_toArray, List.getElem?_cons_zero, List.getElem?_cons_succ]; rfl); kernel_rfl; kernel_rfl; exact fun _ _ _ h => h; (refine Or.inl ⟨by rfl, ?_⟩; intro w hSw; (try dsimp only at hSw); go_simp; (first | done | with_reducible rfl)); (try simp only [Act.put, List.setIfInBounds_toArray, List.set_cons_zero, List.set_cons_succ])) | (refine wpAnyH_take (i := 1) (oi := ?_) (v := undef) ?_ (by kernel_rfl) ?_ ?_ ?_ ?_ (by assumption) ?_; rotate_left 1; (simp only [List.getElem?_toArray, List.getElem?_cons_zero, List.getElem?_cons_succ]; rfl); kernel_rfl; kernel_rfl; exact fun _ _ _ h => h; exact Or.inr ⟨by rfl, rfl⟩; (try simp only [Act.put, List.setIfInBounds_toArray, List.set_cons_zero, List.set_cons_succ])))
  (first | (refine wpAnyH_take (i := 2) (oi := ?_) (v := ?_) ?_ (by kernel_rfl) ?_ ?_ ?_ ?_ (by assumption) ?_; rotate_left 2; (simp only [List.getElem?_toArray, List.getElem?_cons_zero, List.getElem?_cons_succ]; rfl); kernel_rfl; kernel_rfl; exact fun _ _ _ h => h; (refine Or.inl ⟨by rfl, ?_⟩; intro w hSw; (try dsimp only at hSw); go_simp; (first | done | with_reducible rfl)); (try simp only [Act.put, List.setIfInBounds_toArray, List.set_cons_zero, List.set_cons_succ])) | (refine wpAnyH_take (i := 2) (oi := ?_) (v := undef) ?_ (by kernel_rfl) ?_ ?_ ?_ ?_ (by assumption) ?_; rotate_left 1; (simp only [List.getElem?_toArray, List.getElem?_cons_zero, List.getElem?_cons_succ]; rfl); kernel_rfl; kernel_rfl; exact fun _ _ _ h => h; exact Or.inr ⟨by rfl, rfl⟩; (try simp only [Act.put, List.setIfInBounds_toArray, List.set_cons_zero, List.set_cons_succ])))
  (first | (refine wpAnyH_take (i := 3) (oi := ?_) (v := ?_) ?_ (by kernel_rfl) ?_ ?_ ?_ ?_ (by assumption) ?_; rotate_left 2; (simp only [List.getElem?_toArray, List.getElem?_cons_zero, List.getElem?_cons_succ]; rfl); kernel_rfl; kernel_rfl; exact fun _ _ _ h => h; (refine Or.inl ⟨by rfl, ?_⟩; intro w hSw; (try dsimp only at hSw); go_simp; (first | done | with_reducible rfl)); (try simp only [Act.put, List.setIfInBounds_toArray, List.set_cons_zero, List.set_cons_succ])) | (refine wpAnyH_take (i := 3) (oi := ?_) (v := undef) ?_ (by kernel_rfl) ?_ ?_ ?_ ?_ (by assumption) ?_; rotate_left 1; (simp only [List.getElem?_toArray, List.getElem?_cons_zero, List.getElem?_cons_succ]; rfl); kernel_rfl; kernel_rfl; exact fun _ _ _ h => h; exact Or.inr ⟨by rfl, rfl⟩; (try simp only [Act.put, List.setIfInBounds_toArray, List.set_cons_zero, List.set_cons_succ])))
  (first | (refine wpAnyH_take (i := 4) (oi := ?_) (v := ?_) ?_ (by kernel_rfl) ?_ ?_ ?_ ?_ (by assumption) ?_; rotate_left 2; (simp only [List.getElem?_toArray, List.getElem?_cons_zero, List.getElem?_cons_succ]; rfl); kernel_rfl; kernel_rfl; exact fun _ _ _ h => h; (refine Or.inl ⟨by rfl, ?_⟩; intro w hSw; (try dsimp only at hSw); go_simp; (first | done | with_reducible rfl)); (try simp only [Act.put, List.setIfInBounds_toArray, List.set_cons_zero, List.set_cons_succ])) | (refine wpAnyH_take (i := 4) (oi := ?_) (v := undef) ?_ (by kernel_rfl) ?_ ?_ ?_ ?_ (by assumption) ?_; rotate_left 1; (simp only [List.getElem?_toArray, List.getElem?_cons_zero, List.getElem?_cons_succ]; rfl); kernel_rfl; kernel_rfl; exact fun _ _ _ h => h; exact Or.inr ⟨by rfl, rfl⟩; (try simp only [Act.put, List.setIfInBounds_toArray, List.set_cons_zero, List.set_cons_succ])))
  (first | (refine wpAnyH_take (i := 5) (oi := ?_) (v := ?_) ?_ (by kernel_rfl) ?_ ?_ ?_ ?_ (by assumption) ?_; rotate_left 2; (simp only [List.getElem?_toArray, List.getElem?_cons_zero, List.getElem?_cons_succ]; rfl); kernel_rfl; kernel_rfl; exact fun _ _ _ h => h; (refine Or.inl ⟨by rfl, ?_⟩; intro w hSw; (try dsimp only at hSw); go_simp; (first | done | with_reducible rfl)); (try simp only [Act.put, List.setIfInBounds_toArray, List.set_cons_zero, List.set_cons_succ])) | (refine wpAnyH_take (i := 5) (oi := ?_) (v := undef) ?_ (by kernel_rfl) ?_ ?_ ?_ ?_ (by assumption) ?_; rotate_left 1; (simp only [List.getElem?_toArray, List.getElem?_cons_zero, List.getElem?_cons_succ]; rfl); kernel_rfl; kernel_rfl; exact fun _ _ _ h => h; exact Or.inr ⟨by rfl, rfl⟩; (try simp only [Act.put, List.setIfInBounds_toArray, List.set_cons_zero, List.set_cons_succ])))
  (first | (refine wpAnyH_take (i := 6) (oi := ?_) (v := ?_) ?_ (by kernel_rfl) ?_ ?_ ?_ ?_ (by assumption) ?_; rotate_left 2; (simp only [List.getElem?_toArray, List.getElem?_cons_zero, List.getElem?_cons_succ]; rfl); kernel_rfl; kernel_rfl; exact fun _ _ _ h => h; (refine Or.inl ⟨by rfl, ?_⟩; intro w hSw; (try dsimp only at hSw); go_simp; (first | done | with_reducible rfl)); (try simp only [Act.put, List.setIfInBounds_toArray, List.set_cons_zero, List.set_cons_succ])) | (refine wpAnyH_take (i := 6) (oi := ?_) (v := undef) ?_ (by kernel_rfl) ?_ ?_ ?_ ?_ (by assumption) ?_; rotate_left 1; (simp only [List.getElem?_toArray, List.getElem?_cons_zero, List.getElem?_cons_succ]; rfl); kernel_rfl; kernel_rfl; exact fun _ _ _ h => h; exact Or.inr ⟨by rfl, rfl⟩; (try simp only [Act.put, List.setIfInBounds_toArray, List.set_cons_zero, List.set_cons_succ])))
  (first | (refine wpAnyH_take (i := 7) (oi := ?_) (v := ?_) ?_ (by kernel_rfl) ?_ ?_ ?_ ?_ (by assumption) ?_; rotate_left 2; (simp only [List.getElem?_toArray, List.getElem?_cons_zero, List.getElem?_cons_succ]; rfl); kernel_rfl; kernel_rfl; exact fun _ _ _ h => h; (refine Or.inl ⟨by rfl, ?_⟩; intro w hSw; (try dsimp only at hSw); go_simp; (first | done | with_reducible rfl)); (try simp only [Act.put, List.setIfInBounds_toArray, List.set_cons_zero, List.set_cons_succ])) | (refine wpAnyH_take (i := 7) (oi := ?_) (v := undef) ?_ (by kernel_rfl) ?_ ?_ ?_ ?_ (by assumption) ?_; rotate_left 1; (simp only [List.getElem?_toArray, List.getElem?_cons_zero, List.getElem?_cons_succ]; rfl); kernel_rfl; kernel_rfl; exact fun _ _ _ h => h; exact Or.inr ⟨by rfl, rfl⟩; (try simp only [Act.put, List.setIfInBounds_toArray, List.set_cons_zero, List.set_cons_succ])))
  (first | (refine wpAnyH_take (i := 8) (oi := ?_) (v := ?_) ?_ (by kernel_rfl) ?_ ?_ ?_ ?_ (by assumption) ?_; rotate_left 2; (simp only [List.getElem?_toArray, List.getElem?_cons_zero, List.getElem?_cons_succ]; rfl); kernel_rfl; kernel_rfl; exact fun _ _ _ h => h; (refine Or.inl ⟨by rfl, ?_⟩; intro w hSw; (try dsimp only at hSw); go_simp; (first | done | with_reducible rfl)); (try simp only [Act.put, List.setIfInBounds_toArray, List.set_cons_zero, List.set_cons_succ])) | (refine wpAnyH_take (i := 8) (oi := ?_) (v := undef) ?_ (by kernel_rfl) ?_ ?_ ?_ ?_ (by assumption) ?_; rotate_left 1; (simp only [List.getElem?_toArray, List.getElem?_cons_zero, List.getElem?_cons_succ]; rfl); kernel_rfl; kernel_rfl; exact fun _ _ _ h => h; exact Or.inr ⟨by rfl, rfl⟩; (try simp only [Act.put, List.setIfInBounds_toArray, List.set_cons_zero, List.set_cons_succ])))
  (first | (refine wpAnyH_take (i := 9) (oi := ?_) (v := ?_) ?_ (by kernel_rfl) ?_ ?_ ?_ ?_ (by assumption) ?_; rotate_left 2; (simp only [List.getElem?_toArray, List.getElem?_cons_zero, List.getElem?_cons_succ]; rfl); kernel_rfl; kernel_rfl; exact fun _ _ _ h => h; (refine Or.inl ⟨by rfl, ?_⟩; intro w hSw; (try dsimp only at hSw); go_simp; (first | done | with_reducible rfl)); (try simp only [Act.put, List.setIfInBounds_toArray, List.set_cons_zero, List.set_cons_succ])) | (refine wpAnyH_take (i := 9) (oi := ?_) (v := undef) ?_ (by kernel_rfl) ?_ ?_ ?_ ?_ (by assumption) ?_; rotate_left 1; (simp only [List.getElem?_toArray, List.getElem?_cons_zero, List.getElem?_cons_succ]; rfl); kernel_rfl; kernel_rfl; exact fun _ _ _ h => h; exact Or.inr ⟨by rfl, rfl⟩; (try simp only [Act.put, List.setIfInBounds_toArray, List.set_cons_zero, List.set_cons_succ])))
  (first | (refine wpAnyH_take (i := 10) (oi := ?_) (v := ?_) ?_ (by kernel_rfl) ?_ ?_ ?_ ?_ (by assumption) ?_; rotate_left 2; (simp only [List.getElem?_toArray, List.getElem?_cons_zero, List.getElem?_cons_succ]; rfl); kernel_rfl; kernel_rfl; exact fun _ _ _ h => h; (refine Or.inl ⟨by rfl, ?_⟩; intro w hSw; (try dsimp only at hSw); go_simp; (first | done | with_reducible rfl)); (try simp only [Act.put, List.setIfInBounds_toArray, List.set_cons_zero, List.set_cons_succ])) | (refine wpAnyH_take (i := 10) (oi := ?_) (v := undef) ?_ (by kernel_rfl) ?_ ?_ ?_ ?_ (by assumption) ?_; rotate_left 1; (simp only [List.getElem?_toArray, List.getElem?_cons_zero, List.getElem?_cons_succ]; rfl); kernel_rfl; kernel_rfl; exact fun _ _ _ h => h; exact Or.inr ⟨by rfl, rfl⟩; (try simp only [Act.put, List.setIfInBounds_toArray, List.set_cons_zero, List.set_cons_succ])))
  (refine wpAnyH_ready (rs := [11]) (by kernel_rfl) (by simp) ?_; refine AllReadyH.cons (o := ?_) ?_ (fun K hK => ?_) AllReadyH.nil; rotate_left 1; (simp only [List.getElem?_toArray, List.getElem?_cons_zero, List.getElem?_cons_succ]; rfl); go_simp)
  refine HRD.out.mono ?_
  rintro e w3 ⟨rfl, hb3⟩
  have hb23 : Below w2.heap.size w2 w3 := below_next (below_drew (Below.refl _ _)) hb3
  have hb03 : Below W0.heap.size W0 w3 := below_next HB2.out hb23
  have hS : w3.cell? ⟨bx, 0, none⟩ = some (.slice (some ⟨bR, 0, none⟩) wo.rows.length rc) ∧ w3.cell? ⟨bR, i * 5, none⟩ = some (.string rk) ∧ w3.cell? ⟨bR, i * 5 + 1, none⟩ = some (.int .i64 ls) ∧ w3.cell? ⟨bR, i * 5 + 2, none⟩ = some (.string lp) ∧ w3.cell? ⟨bR, i * 5 + 3, none⟩ = some (.string val) ∧ w3.cell? ⟨bR, i * 5 + 4, none⟩ = some (.slice A recs.length q) ∧ w3.cell? ⟨bC, C * 5 + 1, none⟩ = some (.int .i64 c.st) :=
    ⟨(below_mem hb23).2 _ _ (World.block_lt_of_cell? w2 _ x0) ▸ x0, (below_mem hb23).2 _ _ hbb ▸ d0, (below_mem hb23).2 _ _ hbb ▸ d1, (below_mem hb23).2 _ _ hbb ▸ d2, (below_mem hb23).2 _ _ hbb ▸ d3, (below_mem hb23).2 _ _ hbb ▸ d4, (below_mem hb23).2 _ _ (World.block_lt_of_cell? w2 _ c1) ▸ c1⟩
  have HS3 := Lib.hid hS
  have hk1 : Keeps B (fun b => Z b ∨ b = w.heap.size) W0 w3 := Keeps.new (Nat.le_trans HO0.out.base (by omega)) hb03
  have ho1 := HO.out.upto hb03
  obtain ⟨y0, y1, y2, y3, y4, g0, g1, g2, g3, g4⟩ := ans_later hk1 hg (.inr rfl) z0 z1 z2 z3 z4 HZF.out
  have HO1 := Lib.hid ho1
  have HK1 := Lib.hid hk1
  clear ho1 hk1 hb3 hb03 hb23 hS z0 z1 z2 z3 z4 hHeld
  (refine hK.out _ _ ?_ (fun hHeld => ?_); exact HS3.out; clear hK K)
  (first | (refine wpAnyH_take (i := 12) (oi := ?_) (v := ?_) ?_ (by kernel_rfl) ?_ ?_ ?_ ?_ (by assumption) ?_; rotate_left 2; (simp only [List.getElem?_toArray, List.getElem?_cons_zero, List.getElem?_cons_succ]; rfl); kernel_rfl; kernel_rfl; exact fun _ _ _ h => h; (refine Or.inl ⟨by rfl, ?_⟩; intro w hSw; (try dsimp only at hSw); go_simp; (first | done | with_reducible rfl)); (try simp only [Act.put, List.setIfInBounds_toArray, List.set_cons_zero, List.set_cons_succ])) | (refine wpAnyH_take (i := 12) (oi := ?_) (v := undef) ?_ (by kernel_rfl) ?_ ?_ ?_ ?_ (by assumption) ?_; rotate_left 1; (simp only [List.getElem?_toArray, List.getElem?_cons_zero, List.getElem?_cons_succ]; rfl); kernel_rfl; kernel_rfl; exact fun _ _ _ h => h; exact Or.inr ⟨by rfl, rfl⟩; (try simp only [Act.put, List.setIfInBounds_toArray, List.set_cons_zero, List.set_cons_succ])))
  (first | (refine wpAnyH_take (i := 13) (oi := ?_) (v := ?_) ?_ (by kernel_rfl) ?_ ?_ ?_ ?_ (by assumption) ?_; rotate_left 2; (simp only [List.getElem?_toArray, List.getElem?_cons_zero, List.getElem?_cons_succ]; rfl); kernel_rfl; kernel_rfl; exact fun _ _ _ h => h; (refine Or.inl ⟨by rfl, ?_⟩; intro w hSw; (try dsimp only at hSw); go_simp; (first | done | with_reducible rfl)); (try simp only [Act.put, List.setIfInBounds_toArray, List.set_cons_zero, List.set_cons_succ])) | (refine wpAnyH_take (i := 13) (oi := ?_) (v := undef) ?_ (by kernel_rfl) ?_ ?_ ?_ ?_ (by assumption) ?_; rotate_left 1; (simp only [List.getElem?_toArray, List.getElem?_cons_zero, List.getElem?_cons_succ]; rfl); kernel_rfl; kernel_rfl; exact fun _ _ _ h => h; exact Or.inr ⟨by rfl, rfl⟩; (try simp only [Act.put, List.setIfInBounds_toArray, List.set_cons_zero, List.set_cons_succ])))
  (first | (refine wpAnyH_take (i := 14) (oi := ?_) (v := ?_) ?_ (by kernel_rfl) ?_ ?_ ?_ ?_ (by assumption) ?_; rotate_left 2; (simp only [List.getElem?_toArray, List.getElem?_cons_zero, List.getElem?_cons_succ]; rfl); kernel_rfl; kernel_rfl; exact fun _ _ _ h => h; (refine Or.inl ⟨by rfl, ?_⟩; intro w hSw; (try dsimp only at hSw); go_simp; (first | done | with_reducible rfl)); (try simp only [Act.put, List.setIfInBounds_toArray, List.set_cons_zero, List.set_cons_succ])) | (refine wpAnyH_take (i := 14) (oi := ?_) (v := undef) ?_ (by kernel_rfl) ?_ ?_ ?_ ?_ (by assumption) ?_; rotate_left 1; (simp only [List.getElem?_toArray, List.getElem?_cons_zero, List.getElem?_cons_succ]; rfl); kernel_rfl; kernel_rfl; exact fun _ _ _ h => h; exact Or.inr ⟨by rfl, rfl⟩; (try simp only [Act.put, List.setIfInBounds_toArray, List.set_cons_zero, List.set_cons_succ])))
  (first | (refine wpAnyH_take (i := 15) (oi := ?_) (v := ?_) ?_ (by kernel_rfl) ?_ ?_ ?_ ?_ (by assumption) ?_; rotate_left 2; (simp only [List.getElem?_toArray, List.getElem?_cons_zero, List.getElem?_cons_succ]; rfl); kernel_rfl; kernel_rfl; exact fun _ _ _ h => h; (refine Or.inl ⟨by rfl, ?_⟩; intro w hSw; (try dsimp only at hSw); go_simp; (first | done | with_reducible rfl)); (try simp only [Act.put, List.setIfInBounds_toArray, List.set_cons_zero, List.set_cons_succ])) | (refine wpAnyH_take (i := 15) (oi := ?_) (v := undef) ?_ (by kernel_rfl) ?_ ?_ ?_ ?_ (by assumption) ?_; rotate_left 1; (simp only [List.getElem?_toArray, List.getElem?_cons_zero, List.getElem?_cons_succ]; rfl); kernel_rfl; kernel_rfl; exact fun _ _ _ h => h; exact Or.inr ⟨by rfl, rfl⟩; (try simp only [Act.put, List.setIfInBounds_toArray, List.set_cons_zero, List.set_cons_succ])))
  (first | (refine wpAnyH_take (i := 16) (oi := ?_) (v := ?_) ?_ (by kernel_rfl) ?_ ?_ ?_ ?_ (by assumption) ?_; rotate_left 2; (simp only [List.getElem?_toArray, List.getElem?_cons_zero, List.getElem?_cons_succ]; rfl); kernel_rfl; kernel_rfl; exact fun _ _ _ h => h; (refine Or.inl ⟨by rfl, ?_⟩; intro w hSw; (try dsimp only at hSw); go_simp; (first | done | with_reducible rfl)); (try simp only [Act.put, List.setIfInBounds_toArray, List.set_cons_zero, List.set_cons_succ])) | (refine wpAnyH_take (i := 16) (oi := ?_) (v := undef) ?_ (by kernel_rfl) ?_ ?_ ?_ ?_ (by assumption) ?_; rotate_left 1; (simp only [List.getElem?_toArray, List.getElem?_cons_zero, List.getElem?_cons_succ]; rfl); kernel_rfl; kernel_rfl; exact fun _ _ _ h => h; exact Or.inr ⟨by rfl, rfl⟩; (try simp only [Act.put, List.setIfInBounds_toArray, List.set_cons_zero, List.set_cons_succ])))
  (first | (refine wpAnyH_take (i := 17) (oi := ?_) (v := ?_) ?_ (by kernel_rfl) ?_ ?_ ?_ ?_ (by assumption) ?_; rotate_left 2; (simp only [List.getElem?_toArray, List.getElem?_cons_zero, List.getElem?_cons_succ]; rfl); kernel_rfl; kernel_rfl; exact fun _ _ _ h => h; (refine Or.inl ⟨by rfl, ?_⟩; intro w hSw; (try dsimp only at hSw); go_simp; (first | done | with_reducible rfl)); (try simp only [Act.put, List.setIfInBounds_toArray, List.set_cons_zero, List.set_cons_succ])) | (refine wpAnyH_take (i := 17) (oi := ?_) (v := undef) ?_ (by kernel_rfl) ?_ ?_ ?_ ?_ (by assumption) ?_; rotate_left 1; (simp only [List.getElem?_toArray, List.getElem?_cons_zero, List.getElem?_cons_succ]; rfl); kernel_rfl; kernel_rfl; exact fun _ _ _ h => h; exact Or.inr ⟨by rfl, rfl⟩; (try simp only [Act.put, List.setIfInBounds_toArray, List.set_cons_zero, List.set_cons_succ])))
  (first | (refine wpAnyH_take (i := 18) (oi := ?_) (v := ?_) ?_ (by kernel_rfl) ?_ ?_ ?_ ?_ (by assumption) ?_; rotate_left 2; (simp only [List.getElem?_toArray, List.getElem?_cons_zero, List.getElem?_cons_succ]; rfl); kernel_rfl; kernel_rfl; exact fun _ _ _ h => h; (refine Or.inl ⟨by rfl, ?_⟩; intro w hSw; (try dsimp only at hSw); go_simp; (first | done | with_reducible rfl)); (try simp only [Act.put, List.setIfInBounds_toArray, List.set_cons_zero, List.set_cons_succ])) | (refine wpAnyH_take (i := 18) (oi := ?_) (v := undef) ?_ (by kernel_rfl) ?_ ?_ ?_ ?_ (by assumption) ?_; rotate_left 1; (simp only [List.getElem?_toArray, List.getElem?_cons_zero, List.getElem?_cons_succ]; rfl); kernel_rfl; kernel_rfl; exact fun _ _ _ h => h; exact Or.inr ⟨by rfl, rfl⟩; (try simp only [Act.put, List.setIfInBounds_toArray, List.set_cons_zero, List.set_cons_succ])))
  refine wpAnyH_done (by kernel_rfl) ?_ _
  clear hHeld
  go_wp2
  obtain ⟨hA, hK⟩ := ans_end HO0.out HB0.out rfl HO1.out HK1.out (.int .i64 a0) (.bool a1) (.string a2) (.int .i64 0) (.int .i64 0)
  rw [HSW.out]
  exact bodyPost_ret (v := ansV ⟨a0, a1, a2, 0, 0⟩) (by simp [results, Tryd.results76, go_sem, y0, y1, y2, y3, y4]) rfl ⟨rfl, hA, hK⟩
theorem get_any (key : ByteArray) (h : Own w t Z B bx bC wo) (hc : wo.cls[C]? = some c) (hks : key.size ≤ maxLen) (hinc : Inc (wrKeys c.ws)) (hr : RowsOk wo.rows) (hst : c.ph = 1 → inB c.st 1 1099511627776 = true) :
    Calls Tryd.prog 76 #[.pointer (some ⟨bx, 0, none⟩), .pointer (some ⟨bC, C * 5, none⟩), .string key] w (AnsOut t Z B bx bC (wo, getA wo c key) w) := by
  by_cases he : accessE c key = 0
  · cases hk : hasK (wrKeys c.ws) key with
    | true => exact get_own key h hc hks he hinc hk
    | false =>
      cases hkr : hasK (rowKeys wo.rows) key with
      | true => exact get_row key h hc hks he hinc hk hr hkr (hst (access_zero he).1)
      | false => exact get_none key h hc hks he hinc hk hr hkr
  · exact get_err key h hc hks he
end
end Go.Proofs.YtambkjnhfejfaabDoor
