/-
  Contracts of functions of the program and words for memory, several texts in one: TResolve, TPerform. Conditions: those stated with each.
-/
import Derived.Test.YtambkjnhfejfaacGreatDoorG16
import Derived.Test.YtambkjnhfejfaacGreatDoorG26
namespace Go.Proofs.YtambkjnhfejfaacGreatDoor
open Go.RowKit
/-- An operation keeps the keys that are there. -/
theorem chg_has {rows : List RowM} {k key : ByteArray} {op : RowM → RowM × Int} (h : RowsOk rows) (hop : OpGood op) (hk : hasK (rowKeys rows) k = true ∨ keyB k = true) (hh : hasK (rowKeys rows) key = true) : hasK (rowKeys (chgRow rows k op).1) key = true := by
  have h' := chg_ok h hop hk
  rw [hasK_iff h.inc] at hh
  rw [hasK_iff h'.inc]
  unfold chgRow
  split
  · rename_i hb
    dsimp only
    split
    · rename_i e
      have hkey := (hop _ (h.ok _ (rowAt_mem hb)) e).2
      rw [keys_set fun hi => ?_]
      · exact hh
      · rw [hkey]
        have := rowAt_get hb
        rw [List.getElem?_eq_getElem hi] at this
        injection this with this
        rw [this]
    · exact hh
  · split
    · exact hh
    · dsimp only
      split
      · rw [rowKeys, List.map_append, List.map_cons]
        rw [rowKeys, ← List.take_append_drop (lowIx (rowKeys rows) k) rows, List.map_append] at hh
        rcases List.mem_append.1 hh with hh | hh
        · exact List.mem_append.2 (.inl hh)
        · exact List.mem_append.2 (.inr (List.mem_cons_of_mem _ hh))
      · exact hh
section
variable {w : World} {t : Bool} {Z : Nat → Prop} {B bx bC : Nat} {wo : WoM}
theorem undoRow_all (key : ByteArray) (hks : key.size ≤ maxLen) (st : Int) (h : Own w true Z B bx bC wo) (hr : RowsOk wo.rows) :
    Calls Tryz.prog 53 #[.pointer (some ⟨bx, 0, none⟩), .string key, .int .i64 st] w (NumOut false Z B bx bC (⟨(chgRow wo.rows key (undoOp st)).1, wo.clock, wo.cls⟩, (chgRow wo.rows key (undoOp st)).2) w) := by
  by_cases hk : hasK (rowKeys wo.rows) key = true
  · exact (undoRow_found key st h hr hk).mono fun _ _ x => ⟨x.1.1, x.1.2.1.loose, x.1.2.2⟩
  · exact undoRow_new key hks st h hr (by simpa using hk)
theorem lock_new (w : World) (ls : Int) (lp : ByteArray) : ∃ W0, W0 = w.alloc (.cells #[.int .i64 ls, .string lp] 42) ∧ Below w.heap.size w W0 ∧ W0.heap.size = w.heap.size + 1 ∧ W0.cell? ⟨w.heap.size, 0, none⟩ = some (.int .i64 ls) ∧ W0.cell? ⟨w.heap.size, 1, none⟩ = some (.string lp) :=
  ⟨_, rfl, below_alloc (Below.refl _ _) _, by simp, by simp, by simp⟩
set_option maxRecDepth 100000 in
set_option maxHeartbeats 4000000 in
theorem resolve_form (key : ByteArray) (h : Own w t Z B bx bC wo) (hks : key.size ≤ maxLen) (hk : keyB key = false) :
    Calls Tryz.prog 33 #[.pointer (some ⟨bx, 0, none⟩), .string key] w (NumOut t Z B bx bC (resolveW wo key) w) := by
  rw [resolveW, if_pos hk]
  have HK := Lib.hid hks
  have HO := Lib.hid h
  clear h hks
  go_enter Tryz.func33, Tryz.ntmps33
  go_wp2_with (go_at_call 50; refine (key_any _ _ HK.out).mono ?_; rintro e w' ⟨rfl, rfl⟩)
  go_ret
  exact ⟨rfl, HO.out, Keeps.refl _ _ _⟩
set_option maxRecDepth 100000 in
set_option maxHeartbeats 4000000 in
theorem resolve_none (key : ByteArray) (h : Own w t Z B bx bC wo) (hr : RowsOk wo.rows) (hks : key.size ≤ maxLen) (hk : keyB key = true) (hh : hasK (rowKeys wo.rows) key = false) :
    Calls Tryz.prog 33 #[.pointer (some ⟨bx, 0, none⟩), .string key] w (NumOut t Z B bx bC (resolveW wo key) w) := by
  rw [resolveW, if_neg (by simp [hk]), if_pos hh]
  have HK := Lib.hid hks
  have HO := Lib.hid h
  have HFR := Lib.hid (findRow_any key h hr.inc)
  rw [hh] at HFR
  clear h hks hr
  go_enter Tryz.func33, Tryz.ntmps33
  go_wp2_with (go_at_call 50; refine (key_any _ _ HK.out).mono ?_; rintro e w' ⟨rfl, rfl⟩)
  refine HFR.out.mono ?_
  rintro e w1 ⟨rfl, hb1⟩
  go_wp2
  go_ret
  exact ⟨rfl, HO.out.upto hb1, Keeps.new HO.out.base hb1⟩
set_option maxRecDepth 100000 in
set_option maxHeartbeats 4000000 in
theorem resolve_free (key : ByteArray) (h : Own w t Z B bx bC wo) (hr : RowsOk wo.rows) (hks : key.size ≤ maxLen) (hk : keyB key = true) (hh : hasK (rowKeys wo.rows) key = true) (hl : (rowAt wo.rows key).ls = 0) :
    Calls Tryz.prog 33 #[.pointer (some ⟨bx, 0, none⟩), .string key] w (NumOut t Z B bx bC (resolveW wo key) w) := by
  rw [resolveW, if_neg (by simp [hk]), if_neg (by simp [hh]), if_pos hl]
  have HK := Lib.hid hks
  have HO := Lib.hid h
  have HFR := Lib.hid (findRow_any key h hr.inc)
  rw [hh] at HFR
  obtain ⟨i, hi⟩ : ∃ i, i = lowIx (rowKeys wo.rows) key := ⟨_, rfl⟩
  have hlt : i < wo.rows.length := by rw [hi]; exact hasK_lt hh
  obtain ⟨r, hr0⟩ : ∃ r, r = rowAt wo.rows key := ⟨_, rfl⟩
  have hget : wo.rows[i]? = some r := by rw [hi, hr0]; exact rowAt_get hh
  rw [← hi] at HFR
  rw [← hr0] at hl
  have HGET := Lib.hid hget
  have j0 : (0 : Int) ≤ (i : Int) := by omega
  have j1 : (i : Int) < (wo.rows.length : Int) := by omega
  clear h hks hr hi hr0 hget
  go_enter Tryz.func33, Tryz.ntmps33
  go_wp2_with (go_at_call 50; refine (key_any _ _ HK.out).mono ?_; rintro e w' ⟨rfl, rfl⟩)
  refine HFR.out.mono ?_
  rintro e w1 ⟨rfl, hb1⟩
  obtain ⟨bR, rc, x0, hrows⟩ := (HO.out.upto hb1).rowsAt
  obtain ⟨b, o, hA, hbb, hrow⟩ := hrows.at_ HGET.out
  obtain ⟨rfl, rfl⟩ : bR = b ∧ 0 = o := by injection hA with e; injection e with e1 e2; exact ⟨e1, e2⟩
  rw [Nat.zero_add] at hrow
  have d1 := hrow.cs
  rw [hl] at d1
  have HB1 := Lib.hid hb1
  clear hrow hrows hA hb1
  go_wp2
  go_ret
  exact ⟨rfl, HO.out.upto HB1.out, Keeps.new HO.out.base HB1.out⟩
set_option maxRecDepth 100000 in
set_option maxHeartbeats 4000000 in
theorem resolve_lock (key : ByteArray) (h : Own w true Z B bx bC wo) (hr : RowsOk wo.rows) (hks : key.size ≤ maxLen) (hk : keyB key = true) (hh : hasK (rowKeys wo.rows) key = true) (hl : (rowAt wo.rows key).ls ≠ 0) :
    Calls Tryz.prog 33 #[.pointer (some ⟨bx, 0, none⟩), .string key] w (NumOut false Z B bx bC (resolveW wo key) w) := by
  have HK := Lib.hid hks
  have HO := Lib.hid h
  have HR := Lib.hid hr
  have HFR := Lib.hid (findRow_any key h hr.inc)
  rw [hh] at HFR
  obtain ⟨i, hi⟩ : ∃ i, i = lowIx (rowKeys wo.rows) key := ⟨_, rfl⟩
  have hlt : i < wo.rows.length := by rw [hi]; exact hasK_lt hh
  obtain ⟨r, hr0⟩ : ∃ r, r = rowAt wo.rows key := ⟨_, rfl⟩
  have hget : wo.rows[i]? = some r := by rw [hi, hr0]; exact rowAt_get hh
  have hok : r.ok = true := hr.ok r (by rw [hr0]; exact rowAt_mem hh)
  have hsz : r.lp.size ≤ maxLen := by rw [hr0]; exact (h.rowOk (rowAt_mem hh)).p
  rw [← hi] at HFR
  rw [← hr0] at hl
  obtain ⟨hst, hlk, _, _⟩ := (lockB_iff hl).1 (rowB_parts.1 (show rowB r.key r.ls r.lp r.val r.recs = true from hok)).2.2.2
  have HGET := Lib.hid hget
  have j0 : (0 : Int) ≤ (i : Int) := by omega
  have j1 : (i : Int) < (wo.rows.length : Int) := by omega
  obtain ⟨rk, ls, lp, val, recs⟩ := r
  dsimp only at hl hst hlk hsz
  have q0 : (ls == 0) = false := by simpa using hl
  obtain ⟨S, hS⟩ : ∃ S, S = statIn wo.rows lp ls := ⟨_, rfl⟩
  obtain ⟨X, hX⟩ : ∃ X, X = chgRow wo.rows lp (undoOp ls) := ⟨_, rfl⟩
  obtain ⟨U, hU⟩ : ∃ U, U = chgRow X.1 key (undoOp ls) := ⟨_, rfl⟩
  obtain ⟨V, hV⟩ : ∃ V, V = chgRow wo.rows key (commitOp ls S.2) := ⟨_, rfl⟩
  have HRW := Lib.hid (show resolveW wo key = (if S.1 = 2 then ({ wo with rows := V.1 }, V.2) else if X.2 ≠ 0 then (wo, X.2) else ({ wo with rows := U.1 }, U.2)) by
    rw [resolveW, if_neg (by simp [hk]), if_neg (by simp [hh]), ← hr0, if_neg hl, hU, hV, hX, hS])
  have HXE := Lib.hid (show X.2 ≠ 0 → X.1 = wo.rows by rw [hX]; exact chg_err)
  have HXR := Lib.hid (show RowsOk X.1 by rw [hX]; exact chg_ok hr (undoOp_good ls) (.inr hlk))
  have HXH := Lib.hid (show hasK (rowKeys X.1) key = true by rw [hX]; exact chg_has hr (undoOp_good ls) (.inr hlk) hh)
  have HS := Lib.hid hS
  have HX := Lib.hid hX
  have HU := Lib.hid hU
  have HV := Lib.hid hV
  have HH := Lib.hid hh
  clear h hks hr hi hr0 hget hok hl hS hX hU hV hh hlk
  go_enter Tryz.func33, Tryz.ntmps33
  go_wp2_with (go_at_call 50; refine (key_any _ _ HK.out).mono ?_; rintro e w' ⟨rfl, rfl⟩)
  refine HFR.out.mono ?_
  rintro e w1 ⟨rfl, hb1⟩
  have ho1 := HO.out.upto hb1
  obtain ⟨bR, rc, x0, hrows⟩ := ho1.rowsAt
  obtain ⟨b, o, hA, hbb, hrow⟩ := hrows.at_ HGET.out
  obtain ⟨rfl, rfl⟩ : bR = b ∧ 0 = o := by injection hA with e; injection e with e1 e2; exact ⟨e1, e2⟩
  rw [Nat.zero_add] at hrow
  have d1 := hrow.cs
  have d2 := hrow.cp
  dsimp only at d1 d2
  obtain ⟨W2, hW2, hb2, hs2, l0, l1⟩ := lock_new w1 ls lp
  have hg2 : w1.heap.size < W2.heap.size := by omega
  have HO2 := Lib.hid (ho1.more hb2 (Nat.le_refl _) hg2)
  have HB1 := Lib.hid hb1
  have HB2 := Lib.hid hb2
  have HW2 := Lib.hid hW2
  have HSI := Lib.hid (statusIn_any lp ls HO2.out HR.out hst)
  rw [← HS.out] at HSI
  obtain ⟨S1, S2⟩ := S
  dsimp only at HRW HV
  have hbs2 : B ≤ W2.heap.size := HO2.out.base
  clear hrow hrows hA hb1 hb2 hW2 ho1
  go_wp2_with fail
  rw [← HW2.out]
  refine HSI.out.mono ?_
  rintro e w3 ⟨rfl, hb3⟩
  have m0 := (hb3.cell (p := ⟨w1.heap.size, 0, none⟩) hg2).trans l0
  have m1 := (hb3.cell (p := ⟨w1.heap.size, 1, none⟩) hg2).trans l1
  have hg3 : w1.heap.size < w3.heap.size := Nat.lt_of_lt_of_le hg2 hb3.size
  have HO3 := Lib.hid (HO2.out.upto hb3)
  have hk3 : Keeps B Z w w3 := Keeps.new HO.out.base (below_next (below_next HB1.out HB2.out) hb3)
  have HK3 := Lib.hid hk3
  clear hb3 hk3 l0 l1 d1 d2
  by_cases t2 : S1 = 2
  · have t2' : (S1 == 2) = true := by simpa using t2
    have HF := Lib.hid (show resolveW wo key = ({ wo with rows := V.1 }, V.2) by rw [HRW.out, if_pos t2])
    clear t2
    go_wp2_with fail
    refine (commitRow_found key ls S2 HO3.out HR.out HH.out).mono ?_
    rw [← HV.out]
    rintro e w4 ⟨⟨rfl, ho4, hk4⟩, _⟩
    have HO4 := Lib.hid ho4
    have HK4 := Lib.hid hk4
    clear ho4 hk4
    go_wp2
    go_ret
    rw [HF.out]
    exact ⟨rfl, (HO4.out.less fun b e => .inl e).loose, HK3.out.trans (HK4.out.less fun b e => .inl e)⟩
  · have t2' : (S1 == 2) = false := by simpa using t2
    have HT2 := Lib.hid t2
    clear t2
    go_wp2_with fail
    refine (undoRow_all lp hsz ls HO3.out HR.out).mono ?_
    rw [← HX.out]
    rintro e w4 ⟨rfl, ho4, hk4⟩
    have n0 := (hk4.cell hg3 (.inr rfl) 0).trans m0
    obtain ⟨X1, X2⟩ := X
    dsimp only at ho4 HRW HXE HXR HXH HU
    have HO4 := Lib.hid ho4
    have HK4 := Lib.hid hk4
    clear ho4 hk4 m0 m1
    by_cases t3 : X2 = 0
    · have t3' : (X2 != 0) = false := by simpa using t3
      have HF := Lib.hid (show resolveW wo key = ({ wo with rows := U.1 }, U.2) by rw [HRW.out, if_neg HT2.out, if_neg (by simp [t3])])
      clear t3
      go_wp2_with fail
      refine (undoRow_found key ls HO4.out HXR.out HXH.out).mono ?_
      dsimp only
      rw [← HU.out]
      rintro e w5 ⟨⟨rfl, ho5, hk5⟩, _⟩
      have HO5 := Lib.hid ho5
      have HK5 := Lib.hid hk5
      clear ho5 hk5
      go_wp2
      go_ret
      rw [HF.out]
      exact ⟨rfl, (HO5.out.less fun b e => .inl e), HK3.out.trans ((HK4.out.trans HK5.out).less fun b e => .inl e)⟩
    · have t3' : (X2 != 0) = true := by simpa using t3
      have HF := Lib.hid (show resolveW wo key = (wo, X2) by rw [HRW.out, if_neg HT2.out, if_pos t3])
      have hX1 := HXE.out t3
      subst hX1
      clear t3
      go_wp2
      go_ret
      rw [HF.out]
      exact ⟨rfl, (HO4.out.less fun b e => .inl e), HK3.out.trans (HK4.out.less fun b e => .inl e)⟩
theorem resolve_any (key : ByteArray) (h : Own w true Z B bx bC wo) (hr : RowsOk wo.rows) (hks : key.size ≤ maxLen) :
    Calls Tryz.prog 33 #[.pointer (some ⟨bx, 0, none⟩), .string key] w (NumOut false Z B bx bC (resolveW wo key) w) := by
  have lo : ∀ {e w'}, NumOut true Z B bx bC (resolveW wo key) w e w' → NumOut false Z B bx bC (resolveW wo key) w e w' := fun x => ⟨x.1, x.2.1.loose, x.2.2⟩
  cases hk : keyB key with
  | false => exact (resolve_form key h hks hk).mono fun _ _ x => lo x
  | true =>
    cases hh : hasK (rowKeys wo.rows) key with
    | false => exact (resolve_none key h hr hks hk hh).mono fun _ _ x => lo x
    | true =>
      by_cases hl : (rowAt wo.rows key).ls = 0
      · exact (resolve_free key h hr hks hk hh hl).mono fun _ _ x => lo x
      · exact resolve_lock key h hr hks hk hh hl
end
end Go.Proofs.YtambkjnhfejfaacGreatDoor

namespace Go.Proofs.YtambkjnhfejfaacGreatDoor
open Go.RowKit
set_option linter.unusedVariables false
section
variable {w : World} {t : Bool} {Z : Nat → Prop} {B bx bC : Nat} {wo : WoM} {C : Nat} {c : ClM}
theorem act_new (w : World) (kind : Int) (C : Nat) (key val : ByteArray) : ∃ W0, W0 = w.alloc (.cells #[.int .i64 kind, .int .i64 C, .string key, .string val] 35) ∧ Below w.heap.size w W0 ∧ W0.heap.size = w.heap.size + 1 :=
  ⟨_, rfl, below_alloc (Below.refl _ _) _, by simp⟩
theorem inc_steps : ∀ {ks : List ByteArray}, (∀ i, i + 1 < ks.length → ltS (ks.getD i default) (ks.getD (i + 1) default) = true) → Inc ks
  | [], _ => List.Pairwise.nil
  | [a], _ => List.pairwise_singleton _ a
  | a :: b :: l, h => by
    have ih := inc_steps (ks := b :: l) fun i hi => by
      have := h (i + 1) (by simpa using hi)
      simpa [List.getD] using this
    have hab : ltS a b = true := by have := h 0 (by simp); simpa [List.getD] using this
    refine List.Pairwise.cons (fun x hx => ?_) ih
    rcases List.mem_cons.1 hx with rfl | hx
    · exact hab
    · exact ltS_trans hab (List.rel_of_pairwise_cons ih hx)
/-- What a valid world says of its clients and rows. -/
theorem ok_rows (h : wo.ok = true) : RowsOk wo.rows := by
  simp only [WoM.ok, Bool.and_eq_true, rowsB, decide_eq_true_eq] at h
  obtain ⟨⟨_, hl, hr⟩, _⟩ := h
  rw [all_range_iff] at hr
  refine ⟨?_, fun r hr' => ?_, hl⟩
  · refine inc_steps fun i hi => ?_
    have hi : i + 1 < wo.rows.length := by simpa using hi
    have := hr (i + 1) hi
    simp only [rowAtB, Bool.and_eq_true, Bool.or_eq_true, beq_iff_eq] at this
    have h2 := this.1.2.resolve_left (by omega)
    simpa [List.getD, hi, show i < wo.rows.length by omega] using h2
  · obtain ⟨i, hi⟩ := List.getElem?_of_mem hr'
    have hlt := (List.getElem?_eq_some_iff.1 hi).1
    have := hr i hlt
    simp only [rowAtB, Bool.and_eq_true] at this
    have e : wo.rows.getD i default = r := by simp [List.getD, hi]
    rw [← e]
    exact this.1.1
theorem ok_clock (h : wo.ok = true) : 0 ≤ wo.clock ∧ wo.clock ≤ 1099511627376 := by
  simp only [WoM.ok, Bool.and_eq_true, decide_eq_true_eq] at h
  exact h.1.1
theorem ok_client (h : wo.ok = true) (hc : wo.cls[C]? = some c) : clB wo.clock c = true := by
  simp only [WoM.ok, Bool.and_eq_true, clsB, decide_eq_true_eq] at h
  have hr := h.2.2
  rw [all_range_iff] at hr
  have := hr C (List.getElem?_eq_some_iff.1 hc).1
  simpa [List.getD, hc] using this
theorem wrs_inc {l : List WrM} (h : wrsB l = true) : Inc (wrKeys l) := by
  simp only [wrsB, Bool.and_eq_true, decide_eq_true_eq] at h
  have hr := h.2
  rw [all_range_iff] at hr
  refine inc_steps fun i hi => ?_
  have hi : i + 1 < l.length := by simpa using hi
  have := hr (i + 1) hi
  simp only [wrAtB, Bool.and_eq_true, Bool.or_eq_true, beq_iff_eq] at this
  have h2 := this.1.2.resolve_left (by omega)
  simpa [List.getD, hi, show i < l.length by omega] using h2
theorem cl_inc (h : clB wo.clock c = true) : Inc (wrKeys c.ws) := by
  simp only [clB, Bool.and_eq_true] at h
  exact wrs_inc h.1.1
theorem cl_time (h : clB wo.clock c = true) (h1 : wo.clock ≤ 1099511627376) (h0 : c.ph ≠ 0) : inB c.st 1 1099511627776 = true := by
  simp only [clB, Bool.and_eq_true, timesB, if_neg h0] at h
  have h2 := h.1.2
  split at h2
  · simp only [Bool.and_eq_true, decide_eq_true_eq] at h2
    exact inB_true.2 ⟨h2.1.1, by omega⟩
  · simp only [Bool.and_eq_true, decide_eq_true_eq] at h2
    exact inB_true.2 ⟨h2.1.1, by omega⟩
/-- txn.step as a whole. -/
theorem step_any (h : Own w true Z B bx bC wo) (hc : wo.cls[C]? = some c) (hv : wo.ok = true) :
    Calls Tryz.prog 31 #[.pointer (some ⟨bx, 0, none⟩), .pointer (some ⟨bC, C * 5, none⟩)] w (AnsOut false Z B bx bC (stepW wo C c) w) := by
  have hr := ok_rows hv
  obtain ⟨k0, k1⟩ := ok_clock hv
  have hcl := ok_client hv hc
  have hat : atB c = true := by simp only [clB, Bool.and_eq_true] at hcl; exact hcl.2
  by_cases p0 : c.ph = 0
  · exact step_none h hc p0
  have hst := cl_time hcl k1 p0
  unfold atB at hat
  rw [if_neg p0] at hat
  by_cases p1 : c.ph = 1
  · rw [if_pos p1] at hat
    have ha : c.at_ = 0 := by simpa using hat
    rcases Nat.eq_zero_or_pos c.ws.length with hl | hl
    · exact step_empty h hc p1 hl
    · exact step_open h hc hr hst p1 hl ha
  rw [if_neg p1] at hat
  by_cases p2 : c.ph = 2
  · rw [if_pos p2] at hat
    simp only [Bool.and_eq_true, decide_eq_true_eq] at hat
    by_cases ha : c.at_ = c.ws.length
    · exact step_seal h hc k0 k1 p2 ha
    · exact step_lock (m := c.at_.toNat) h hc hr hst p2 (by omega) (by omega)
  rw [if_neg p2] at hat
  by_cases p3 : c.ph = 3
  · rw [if_pos p3] at hat
    simp only [Bool.and_eq_true, decide_eq_true_eq, beq_iff_eq] at hat
    exact step_close (m := 0) h hc hr hst (.inl p3) (by omega) (by omega)
  rw [if_neg p3] at hat
  by_cases p4 : c.ph = 4
  · rw [if_pos p4] at hat
    simp only [Bool.and_eq_true, decide_eq_true_eq] at hat
    exact step_close (m := c.at_.toNat) h hc hr hst (.inr p4) (by omega) (by omega)
  rw [if_neg p4] at hat
  cases hat
set_option maxRecDepth 100000 in
set_option maxHeartbeats 4000000 in
theorem perform_begin (key val : ByteArray) (h : Own w true Z B bx bC wo) (hv : wo.ok = true) (hc : wo.cls[C]? = some c) (hks : key.size ≤ maxLen) (hvs : val.size ≤ maxLen) {b : Nat} (ht : w.cell? ⟨bC, C * 5 + 3, none⟩ = some (.slice (some ⟨b, 0, none⟩) c.ws.length c.ws.length)) (hbw : b < w.heap.size) :
    Calls Tryz.prog 20 #[.pointer (some ⟨bx, 0, none⟩), actV ⟨1, C, key, val⟩] w (AnsOut false Z B bx bC (beginW wo C c) w) := by
  have hr := ok_rows hv
  obtain ⟨ck0, ck1⟩ := ok_clock hv
  have hcl := ok_client hv hc
  obtain ⟨wA, hWA, hbA, hsA⟩ := act_new w 1 C key val
  obtain ⟨W0, hW, hb0, hs0, z0, z1, z2, z3, z4, zf⟩ := ans_new wA
  have hg : wA.heap.size < W0.heap.size := by omega
  have hoA := h.upto hbA
  have ho0 := hoA.more hb0 (Nat.le_refl _) hg
  have hbA0 : Below w.heap.size w W0 := below_next hbA hb0
  have HCN := Lib.hid (fun n => (begin_any (ho0.drewN n) hc ck0 ck1).mono fun _ _ x => (⟨x.1, x.2.1.loose, x.2.2⟩ : AnsOut false (fun b => Z b ∨ b = wA.heap.size) B bx bC _ _ _ _))
  obtain ⟨Y, hY⟩ : ∃ Y, Y = beginW wo C c := ⟨_, rfl⟩
  rw [← hY] at HCN
  have HSW := Lib.hid (show (beginW wo C c) = (Y.1, Y.2) by rw [hY])
  have HWA := Lib.hid hWA
  have HW := Lib.hid hW
  have HB0 := Lib.hid hb0
  have HBA := Lib.hid hbA
  have HOA := Lib.hid hoA
  have HO0 := Lib.hid h
  have HZF := Lib.hid zf
  have x2 := h.x2
  have hbx := h.xB.2
  have hBW : B ≤ W0.heap.size := by have := h.base; omega
  have hC := (List.getElem?_eq_some_iff.1 hc).1
  have j0 : (0 : Int) ≤ (C : Int) := by omega
  have j1 : (C : Int) < (wo.cls.length : Int) := by omega
  obtain ⟨Y1, Y2⟩ := Y
  dsimp only at HSW
  clear h hc hr hv hb0 hbA hWA hW zf hY hoA ho0 hcl ht hbA0
  go_enter Tryz.func20, Tryz.ntmps20
  go_wp2
  go_quiet (fail)
  go_wp2_with fail
  rw [← HWA.out, ← HW.out]
  refine (HCN.out _).mono ?_
  rintro e w1 ⟨rfl, ho1, hk1'⟩
  have hk1 := ((Keeps.refl B (fun b => Z b ∨ b = wA.heap.size) W0).drewN hBW _).trans hk1'
  obtain ⟨y0, y1, y2, y3, y4, g0, g1, g2, g3, g4⟩ := ans_later hk1 hg (.inr rfl) z0 z1 z2 z3 z4 HZF.out
  have HO1 := Lib.hid ho1
  have HK1 := Lib.hid hk1
  clear ho1 hk1 hk1'
  obtain ⟨a0, a1, a2, a3, a4⟩ := Y2
  rw [hsA] at y0 y1 y2 y3 y4 g0 g1 g2 g3 g4
  go_wp2
  obtain ⟨hA, hK⟩ := ans_end HOA.out HB0.out rfl HO1.out HK1.out (.int .i64 a0) (.bool a1) (.string a2) (.int .i64 a3) (.int .i64 a4)
  rw [hsA] at hA hK
  rw [HSW.out]
  exact bodyPost_ret (v := ansV ⟨a0, a1, a2, a3, a4⟩) (by simp [results, Tryz.results20, go_sem, y0, y1, y2, y3, y4]) rfl ⟨rfl, hA, (Keeps.new HO0.out.base HBA.out).trans hK⟩
set_option maxRecDepth 100000 in
set_option maxHeartbeats 4000000 in
theorem perform_get (key val : ByteArray) (h : Own w true Z B bx bC wo) (hv : wo.ok = true) (hc : wo.cls[C]? = some c) (hks : key.size ≤ maxLen) (hvs : val.size ≤ maxLen) {b : Nat} (ht : w.cell? ⟨bC, C * 5 + 3, none⟩ = some (.slice (some ⟨b, 0, none⟩) c.ws.length c.ws.length)) (hbw : b < w.heap.size) :
    Calls Tryz.prog 20 #[.pointer (some ⟨bx, 0, none⟩), actV ⟨2, C, key, val⟩] w (AnsOut false Z B bx bC ((wo, getA wo c key)) w) := by
  have hr := ok_rows hv
  obtain ⟨ck0, ck1⟩ := ok_clock hv
  have hcl := ok_client hv hc
  obtain ⟨wA, hWA, hbA, hsA⟩ := act_new w 2 C key val
  obtain ⟨W0, hW, hb0, hs0, z0, z1, z2, z3, z4, zf⟩ := ans_new wA
  have hg : wA.heap.size < W0.heap.size := by omega
  have hoA := h.upto hbA
  have ho0 := hoA.more hb0 (Nat.le_refl _) hg
  have hbA0 : Below w.heap.size w W0 := below_next hbA hb0
  have HCN := Lib.hid (fun n => (get_any key (ho0.drewN n) hc hks (cl_inc hcl) hr (fun e => cl_time hcl ck1 (by omega))).mono fun _ _ x => (⟨x.1, x.2.1.loose, x.2.2⟩ : AnsOut false (fun b => Z b ∨ b = wA.heap.size) B bx bC _ _ _ _))
  obtain ⟨Y, hY⟩ : ∃ Y, Y = (wo, getA wo c key) := ⟨_, rfl⟩
  rw [← hY] at HCN
  have HSW := Lib.hid (show ((wo, getA wo c key)) = (Y.1, Y.2) by rw [hY])
  have HWA := Lib.hid hWA
  have HW := Lib.hid hW
  have HB0 := Lib.hid hb0
  have HBA := Lib.hid hbA
  have HOA := Lib.hid hoA
  have HO0 := Lib.hid h
  have HZF := Lib.hid zf
  have x2 := h.x2
  have hbx := h.xB.2
  have hBW : B ≤ W0.heap.size := by have := h.base; omega
  have hC := (List.getElem?_eq_some_iff.1 hc).1
  have j0 : (0 : Int) ≤ (C : Int) := by omega
  have j1 : (C : Int) < (wo.cls.length : Int) := by omega
  obtain ⟨Y1, Y2⟩ := Y
  dsimp only at HSW
  clear h hc hr hv hb0 hbA hWA hW zf hY hoA ho0 hcl ht hbA0
  go_enter Tryz.func20, Tryz.ntmps20
  go_wp2
  go_quiet (fail)
  go_wp2_with fail
  rw [← HWA.out, ← HW.out]
  refine (HCN.out _).mono ?_
  rintro e w1 ⟨rfl, ho1, hk1'⟩
  have hk1 := ((Keeps.refl B (fun b => Z b ∨ b = wA.heap.size) W0).drewN hBW _).trans hk1'
  obtain ⟨y0, y1, y2, y3, y4, g0, g1, g2, g3, g4⟩ := ans_later hk1 hg (.inr rfl) z0 z1 z2 z3 z4 HZF.out
  have HO1 := Lib.hid ho1
  have HK1 := Lib.hid hk1
  clear ho1 hk1 hk1'
  obtain ⟨a0, a1, a2, a3, a4⟩ := Y2
  rw [hsA] at y0 y1 y2 y3 y4 g0 g1 g2 g3 g4
  go_wp2
  obtain ⟨hA, hK⟩ := ans_end HOA.out HB0.out rfl HO1.out HK1.out (.int .i64 a0) (.bool a1) (.string a2) (.int .i64 a3) (.int .i64 a4)
  rw [hsA] at hA hK
  rw [HSW.out]
  exact bodyPost_ret (v := ansV ⟨a0, a1, a2, a3, a4⟩) (by simp [results, Tryz.results20, go_sem, y0, y1, y2, y3, y4]) rfl ⟨rfl, hA, (Keeps.new HO0.out.base HBA.out).trans hK⟩
set_option maxRecDepth 100000 in
set_option maxHeartbeats 4000000 in
theorem perform_put (key val : ByteArray) (h : Own w true Z B bx bC wo) (hv : wo.ok = true) (hc : wo.cls[C]? = some c) (hks : key.size ≤ maxLen) (hvs : val.size ≤ maxLen) {b : Nat} (ht : w.cell? ⟨bC, C * 5 + 3, none⟩ = some (.slice (some ⟨b, 0, none⟩) c.ws.length c.ws.length)) (hbw : b < w.heap.size) :
    Calls Tryz.prog 20 #[.pointer (some ⟨bx, 0, none⟩), actV ⟨3, C, key, val⟩] w (AnsOut false Z B bx bC ((wo.setC C (putC c key val).1, ansCode (putC c key val).2)) w) := by
  have hr := ok_rows hv
  obtain ⟨ck0, ck1⟩ := ok_clock hv
  have hcl := ok_client hv hc
  obtain ⟨wA, hWA, hbA, hsA⟩ := act_new w 3 C key val
  obtain ⟨W0, hW, hb0, hs0, z0, z1, z2, z3, z4, zf⟩ := ans_new wA
  have hg : wA.heap.size < W0.heap.size := by omega
  have hoA := h.upto hbA
  have ho0 := hoA.more hb0 (Nat.le_refl _) hg
  have hbA0 : Below w.heap.size w W0 := below_next hbA hb0
  have HCN := Lib.hid (fun n => (put_any key val (ho0.drewN n) hc hks hvs (cl_inc hcl) ((hbA0.cell (p := ⟨bC, C * 5 + 3, none⟩) (World.block_lt_of_cell? w _ ht)).trans ht) (Nat.lt_of_lt_of_le hbw hbA0.size)).mono fun _ _ x => (⟨x.1, x.2.1.loose, x.2.2⟩ : NumOut false (fun b => Z b ∨ b = wA.heap.size) B bx bC _ _ _ _))
  obtain ⟨Y, hY⟩ : ∃ Y, Y = (wo.setC C (putC c key val).1, (putC c key val).2) := ⟨_, rfl⟩
  rw [← hY] at HCN
  have HSW := Lib.hid (show ((wo.setC C (putC c key val).1, ansCode (putC c key val).2)) = (Y.1, ansCode Y.2) by rw [hY])
  have HWA := Lib.hid hWA
  have HW := Lib.hid hW
  have HB0 := Lib.hid hb0
  have HBA := Lib.hid hbA
  have HOA := Lib.hid hoA
  have HO0 := Lib.hid h
  have HZF := Lib.hid zf
  have x2 := h.x2
  have hbx := h.xB.2
  have hBW : B ≤ W0.heap.size := by have := h.base; omega
  have hC := (List.getElem?_eq_some_iff.1 hc).1
  have j0 : (0 : Int) ≤ (C : Int) := by omega
  have j1 : (C : Int) < (wo.cls.length : Int) := by omega
  obtain ⟨Y1, Y2⟩ := Y
  dsimp only at HSW
  clear h hc hr hv hb0 hbA hWA hW zf hY hoA ho0 hcl ht hbA0
  go_enter Tryz.func20, Tryz.ntmps20
  go_wp2
  go_quiet (fail)
  go_wp2_with fail
  rw [← HWA.out, ← HW.out]
  refine (HCN.out _).mono ?_
  rintro e w1 ⟨rfl, ho1, hk1'⟩
  have hk1 := ((Keeps.refl B (fun b => Z b ∨ b = wA.heap.size) W0).drewN hBW _).trans hk1'
  obtain ⟨y0, y1, y2, y3, y4, g0, g1, g2, g3, g4⟩ := ans_later hk1 hg (.inr rfl) z0 z1 z2 z3 z4 HZF.out
  have HO1 := Lib.hid ho1
  have HK1 := Lib.hid hk1
  clear ho1 hk1 hk1'
  rw [hsA] at y0 y1 y2 y3 y4 g0 g1 g2 g3 g4
  go_wp2
  obtain ⟨hA, hK⟩ := ans_end HOA.out HB0.out rfl HO1.out HK1.out (.int .i64 Y2) (.bool false) (.string ⟨#[]⟩) (.int .i64 0) (.int .i64 0)
  rw [hsA] at hA hK
  rw [HSW.out]
  exact bodyPost_ret (v := ansV (ansCode Y2)) (by simp [results, Tryz.results20, go_sem, y0, y1, y2, y3, y4, ansCode]) rfl ⟨rfl, hA, (Keeps.new HO0.out.base HBA.out).trans hK⟩
set_option maxRecDepth 100000 in
set_option maxHeartbeats 4000000 in
theorem perform_step (key val : ByteArray) (h : Own w true Z B bx bC wo) (hv : wo.ok = true) (hc : wo.cls[C]? = some c) (hks : key.size ≤ maxLen) (hvs : val.size ≤ maxLen) {b : Nat} (ht : w.cell? ⟨bC, C * 5 + 3, none⟩ = some (.slice (some ⟨b, 0, none⟩) c.ws.length c.ws.length)) (hbw : b < w.heap.size) :
    Calls Tryz.prog 20 #[.pointer (some ⟨bx, 0, none⟩), actV ⟨4, C, key, val⟩] w (AnsOut false Z B bx bC (stepW wo C c) w) := by
  have hr := ok_rows hv
  obtain ⟨ck0, ck1⟩ := ok_clock hv
  have hcl := ok_client hv hc
  obtain ⟨wA, hWA, hbA, hsA⟩ := act_new w 4 C key val
  obtain ⟨W0, hW, hb0, hs0, z0, z1, z2, z3, z4, zf⟩ := ans_new wA
  have hg : wA.heap.size < W0.heap.size := by omega
  have hoA := h.upto hbA
  have ho0 := hoA.more hb0 (Nat.le_refl _) hg
  have hbA0 : Below w.heap.size w W0 := below_next hbA hb0
  have HCN := Lib.hid (fun n => step_any (ho0.drewN n) hc hv)
  obtain ⟨Y, hY⟩ : ∃ Y, Y = stepW wo C c := ⟨_, rfl⟩
  rw [← hY] at HCN
  have HSW := Lib.hid (show (stepW wo C c) = (Y.1, Y.2) by rw [hY])
  have HWA := Lib.hid hWA
  have HW := Lib.hid hW
  have HB0 := Lib.hid hb0
  have HBA := Lib.hid hbA
  have HOA := Lib.hid hoA
  have HO0 := Lib.hid h
  have HZF := Lib.hid zf
  have x2 := h.x2
  have hbx := h.xB.2
  have hBW : B ≤ W0.heap.size := by have := h.base; omega
  have hC := (List.getElem?_eq_some_iff.1 hc).1
  have j0 : (0 : Int) ≤ (C : Int) := by omega
  have j1 : (C : Int) < (wo.cls.length : Int) := by omega
  obtain ⟨Y1, Y2⟩ := Y
  dsimp only at HSW
  clear h hc hr hv hb0 hbA hWA hW zf hY hoA ho0 hcl ht hbA0
  go_enter Tryz.func20, Tryz.ntmps20
  go_wp2
  go_quiet (fail)
  go_wp2_with fail
  rw [← HWA.out, ← HW.out]
  refine (HCN.out _).mono ?_
  rintro e w1 ⟨rfl, ho1, hk1'⟩
  have hk1 := ((Keeps.refl B (fun b => Z b ∨ b = wA.heap.size) W0).drewN hBW _).trans hk1'
  obtain ⟨y0, y1, y2, y3, y4, g0, g1, g2, g3, g4⟩ := ans_later hk1 hg (.inr rfl) z0 z1 z2 z3 z4 HZF.out
  have HO1 := Lib.hid ho1
  have HK1 := Lib.hid hk1
  clear ho1 hk1 hk1'
  obtain ⟨a0, a1, a2, a3, a4⟩ := Y2
  rw [hsA] at y0 y1 y2 y3 y4 g0 g1 g2 g3 g4
  go_wp2
  obtain ⟨hA, hK⟩ := ans_end HOA.out HB0.out rfl HO1.out HK1.out (.int .i64 a0) (.bool a1) (.string a2) (.int .i64 a3) (.int .i64 a4)
  rw [hsA] at hA hK
  rw [HSW.out]
  exact bodyPost_ret (v := ansV ⟨a0, a1, a2, a3, a4⟩) (by simp [results, Tryz.results20, go_sem, y0, y1, y2, y3, y4]) rfl ⟨rfl, hA, (Keeps.new HO0.out.base HBA.out).trans hK⟩
set_option maxRecDepth 100000 in
set_option maxHeartbeats 4000000 in
theorem perform_resolve (key val : ByteArray) (h : Own w true Z B bx bC wo) (hv : wo.ok = true) (hc : wo.cls[C]? = some c) (hks : key.size ≤ maxLen) (hvs : val.size ≤ maxLen) {b : Nat} (ht : w.cell? ⟨bC, C * 5 + 3, none⟩ = some (.slice (some ⟨b, 0, none⟩) c.ws.length c.ws.length)) (hbw : b < w.heap.size) :
    Calls Tryz.prog 20 #[.pointer (some ⟨bx, 0, none⟩), actV ⟨6, C, key, val⟩] w (AnsOut false Z B bx bC (((resolveW wo key).1, ansCode (resolveW wo key).2)) w) := by
  have hr := ok_rows hv
  obtain ⟨ck0, ck1⟩ := ok_clock hv
  have hcl := ok_client hv hc
  obtain ⟨wA, hWA, hbA, hsA⟩ := act_new w 6 C key val
  obtain ⟨W0, hW, hb0, hs0, z0, z1, z2, z3, z4, zf⟩ := ans_new wA
  have hg : wA.heap.size < W0.heap.size := by omega
  have hoA := h.upto hbA
  have ho0 := hoA.more hb0 (Nat.le_refl _) hg
  have hbA0 : Below w.heap.size w W0 := below_next hbA hb0
  have HCN := Lib.hid (fun n => resolve_any key (ho0.drewN n) hr hks)
  obtain ⟨Y, hY⟩ : ∃ Y, Y = resolveW wo key := ⟨_, rfl⟩
  rw [← hY] at HCN
  have HSW := Lib.hid (show (((resolveW wo key).1, ansCode (resolveW wo key).2)) = (Y.1, ansCode Y.2) by rw [hY])
  have HWA := Lib.hid hWA
  have HW := Lib.hid hW
  have HB0 := Lib.hid hb0
  have HBA := Lib.hid hbA
  have HOA := Lib.hid hoA
  have HO0 := Lib.hid h
  have HZF := Lib.hid zf
  have x2 := h.x2
  have hbx := h.xB.2
  have hBW : B ≤ W0.heap.size := by have := h.base; omega
  have hC := (List.getElem?_eq_some_iff.1 hc).1
  have j0 : (0 : Int) ≤ (C : Int) := by omega
  have j1 : (C : Int) < (wo.cls.length : Int) := by omega
  obtain ⟨Y1, Y2⟩ := Y
  dsimp only at HSW
  clear h hc hr hv hb0 hbA hWA hW zf hY hoA ho0 hcl ht hbA0
  go_enter Tryz.func20, Tryz.ntmps20
  go_wp2
  go_quiet (fail)
  go_wp2_with fail
  rw [← HWA.out, ← HW.out]
  refine (HCN.out _).mono ?_
  rintro e w1 ⟨rfl, ho1, hk1'⟩
  have hk1 := ((Keeps.refl B (fun b => Z b ∨ b = wA.heap.size) W0).drewN hBW _).trans hk1'
  obtain ⟨y0, y1, y2, y3, y4, g0, g1, g2, g3, g4⟩ := ans_later hk1 hg (.inr rfl) z0 z1 z2 z3 z4 HZF.out
  have HO1 := Lib.hid ho1
  have HK1 := Lib.hid hk1
  clear ho1 hk1 hk1'
  rw [hsA] at y0 y1 y2 y3 y4 g0 g1 g2 g3 g4
  go_wp2
  obtain ⟨hA, hK⟩ := ans_end HOA.out HB0.out rfl HO1.out HK1.out (.int .i64 Y2) (.bool false) (.string ⟨#[]⟩) (.int .i64 0) (.int .i64 0)
  rw [hsA] at hA hK
  rw [HSW.out]
  exact bodyPost_ret (v := ansV (ansCode Y2)) (by simp [results, Tryz.results20, go_sem, y0, y1, y2, y3, y4, ansCode]) rfl ⟨rfl, hA, (Keeps.new HO0.out.base HBA.out).trans hK⟩
theorem drop_all (h : Own w true Z B bx bC wo) (hc : wo.cls[C]? = some c) : Calls Tryz.prog 32 #[.pointer (some ⟨bC, C * 5, none⟩)] w (NumOut false Z B bx bC (dropW wo C c) w) := by
  by_cases p : c.ph = 0
  · rw [dropW, if_pos p]
    obtain ⟨c0, _⟩ := h.cl hc
    rw [p] at c0
    refine (drop_idle c0).mono ?_
    rintro e w' ⟨rfl, rfl⟩
    exact ⟨rfl, h.loose, Keeps.refl _ _ _⟩
  · rw [dropW, if_neg p]
    exact (drop_any h hc p).mono fun _ _ x => ⟨x.1, x.2.1.loose, x.2.2⟩
set_option maxRecDepth 100000 in
set_option maxHeartbeats 4000000 in
theorem perform_drop (key val : ByteArray) (h : Own w true Z B bx bC wo) (hv : wo.ok = true) (hc : wo.cls[C]? = some c) (hks : key.size ≤ maxLen) (hvs : val.size ≤ maxLen) {b : Nat} (ht : w.cell? ⟨bC, C * 5 + 3, none⟩ = some (.slice (some ⟨b, 0, none⟩) c.ws.length c.ws.length)) (hbw : b < w.heap.size) :
    Calls Tryz.prog 20 #[.pointer (some ⟨bx, 0, none⟩), actV ⟨5, C, key, val⟩] w (AnsOut false Z B bx bC (((dropW wo C c).1, ansCode (dropW wo C c).2)) w) := by
  have hr := ok_rows hv
  obtain ⟨ck0, ck1⟩ := ok_clock hv
  have hcl := ok_client hv hc
  obtain ⟨wA, hWA, hbA, hsA⟩ := act_new w 5 C key val
  obtain ⟨W0, hW, hb0, hs0, z0, z1, z2, z3, z4, zf⟩ := ans_new wA
  have hg : wA.heap.size < W0.heap.size := by omega
  have hoA := h.upto hbA
  have ho0 := hoA.more hb0 (Nat.le_refl _) hg
  have hbA0 : Below w.heap.size w W0 := below_next hbA hb0
  have HCN := Lib.hid (fun n => drop_all (ho0.drewN n) hc)
  obtain ⟨Y, hY⟩ : ∃ Y, Y = dropW wo C c := ⟨_, rfl⟩
  rw [← hY] at HCN
  have HSW := Lib.hid (show (((dropW wo C c).1, ansCode (dropW wo C c).2)) = (Y.1, ansCode Y.2) by rw [hY])
  have HWA := Lib.hid hWA
  have HW := Lib.hid hW
  have HB0 := Lib.hid hb0
  have HBA := Lib.hid hbA
  have HOA := Lib.hid hoA
  have HO0 := Lib.hid h
  have HZF := Lib.hid zf
  have x2 := h.x2
  have hbx := h.xB.2
  have hBW : B ≤ W0.heap.size := by have := h.base; omega
  have hC := (List.getElem?_eq_some_iff.1 hc).1
  have j0 : (0 : Int) ≤ (C : Int) := by omega
  have j1 : (C : Int) < (wo.cls.length : Int) := by omega
  obtain ⟨Y1, Y2⟩ := Y
  dsimp only at HSW
  clear h hc hr hv hb0 hbA hWA hW zf hY hoA ho0 hcl ht hbA0
  go_enter Tryz.func20, Tryz.ntmps20
  go_wp2
  go_quiet (fail)
  go_wp2_with fail
  rw [← HWA.out, ← HW.out]
  refine (HCN.out _).mono ?_
  rintro e w1 ⟨rfl, ho1, hk1'⟩
  have hk1 := ((Keeps.refl B (fun b => Z b ∨ b = wA.heap.size) W0).drewN hBW _).trans hk1'
  obtain ⟨y0, y1, y2, y3, y4, g0, g1, g2, g3, g4⟩ := ans_later hk1 hg (.inr rfl) z0 z1 z2 z3 z4 HZF.out
  have HO1 := Lib.hid ho1
  have HK1 := Lib.hid hk1
  clear ho1 hk1 hk1'
  rw [hsA] at y0 y1 y2 y3 y4 g0 g1 g2 g3 g4
  go_wp2
  obtain ⟨hA, hK⟩ := ans_end HOA.out HB0.out rfl HO1.out HK1.out (.int .i64 Y2) (.bool false) (.string ⟨#[]⟩) (.int .i64 0) (.int .i64 0)
  rw [hsA] at hA hK
  rw [HSW.out]
  exact bodyPost_ret (v := ansV (ansCode Y2)) (by simp [results, Tryz.results20, go_sem, y0, y1, y2, y3, y4, ansCode]) rfl ⟨rfl, hA, (Keeps.new HO0.out.base HBA.out).trans hK⟩
theorem perform_any (a : ActM) (h : Own w true Z B bx bC wo) (hv : wo.ok = true) (hC : a.c = C) (hc : wo.cls[C]? = some c) (hks : a.key.size ≤ maxLen) (hvs : a.val.size ≤ maxLen) {b : Nat} (ht : w.cell? ⟨bC, C * 5 + 3, none⟩ = some (.slice (some ⟨b, 0, none⟩) c.ws.length c.ws.length)) (hbw : b < w.heap.size) (k1 : 1 ≤ a.kind) (k6 : a.kind ≤ 6) :
    Calls Tryz.prog 20 #[.pointer (some ⟨bx, 0, none⟩), actV a] w (AnsOut false Z B bx bC (performW wo a) w) := by
  obtain ⟨kind, ac, key, val⟩ := a
  dsimp only at hC hks hvs k1 k6 ⊢
  subst hC
  have hd : wo.cls.getD C default = c := getD_of_get hc
  have hk : kind = 1 ∨ kind = 2 ∨ kind = 3 ∨ kind = 4 ∨ kind = 5 ∨ kind = 6 := by omega
  unfold performW
  dsimp only
  rw [Int.toNat_natCast, hd]
  rcases hk with rfl | rfl | rfl | rfl | rfl | rfl
  · exact perform_begin key val h hv hc hks hvs ht hbw
  · exact perform_get key val h hv hc hks hvs ht hbw
  · exact perform_put key val h hv hc hks hvs ht hbw
  · exact perform_step key val h hv hc hks hvs ht hbw
  · exact perform_drop key val h hv hc hks hvs ht hbw
  · exact perform_resolve key val h hv hc hks hvs ht hbw
end
end Go.Proofs.YtambkjnhfejfaacGreatDoor
