/-
  Contracts of functions of the program and words for memory, several texts in one: TPerform, TDo, TRunMem. Conditions: those stated with each.
-/
import Derived.Test.YtambkjnhfejfaaaGreatG12
import Derived.Test.YtambkjnhfejfaaaGreatG27
namespace Go.Proofs.YtambkjnhfejfaaaGreat
open Go.RowKit
set_option linter.unusedVariables false
section
variable {w : World} {t : Bool} {Z : Nat → Prop} {B bx bC : Nat} {wo : WoM} {C : Nat} {c : ClM}
theorem act_new (w : World) (kind : Int) (C : Nat) (key val : ByteArray) : ∃ W0, W0 = w.alloc (.cells #[.int .i64 kind, .int .i64 C, .string key, .string val] 27) ∧ Below w.heap.size w W0 ∧ W0.heap.size = w.heap.size + 1 :=
 ⟨_, rfl, below_alloc (Below.refl _ _) _, by simp⟩
theorem inc_steps : ∀ {ks : List ByteArray}, (∀ i, i + 1 < ks.length → ltS (ks.getD i default) (ks.getD (i + 1) default) = true) → Inc ks
 | [], _ => List.Pairwise.nil
 | [a], _ => List.pairwise_singleton _ a
 | a :: b :: l, h => by
  have ih := inc_steps (ks := b :: l) fun i hi => by
   have := h (i + 1) (by simpa using hi)
   simpa [List.getD] using this
  have hab : ltS a b = true := by have := h 0 (by simp); simpa [List.getD] using this
  refine List.Pairwise.cons (fun x hx => ?_) ih
  rcases List.mem_cons.1 hx with rfl | hx
  ·exact hab
  ·exact ltS_trans hab (List.rel_of_pairwise_cons ih hx)
theorem ok_rows (h : wo.ok = true) : RowsOk wo.rows := by
 simp only [WoM.ok, Bool.and_eq_true, rowsB, decide_eq_true_eq] at h
 obtain ⟨⟨_, hl, hr⟩, _⟩ := h
 rw [all_range_iff] at hr
 refine ⟨?_, fun r hr' => ?_, hl⟩
 ·refine inc_steps fun i hi => ?_
  have hi : i + 1 < wo.rows.length := by simpa using hi
  have := hr (i + 1) hi
  simp only [rowAtB, Bool.and_eq_true, Bool.or_eq_true, beq_iff_eq] at this
  have h2 := this.1.2.resolve_left (by omega)
  simpa [List.getD, hi, show i < wo.rows.length by omega] using h2
 ·obtain ⟨i, hi⟩ := List.getElem?_of_mem hr'
  have hlt := (List.getElem?_eq_some_iff.1 hi).1
  have := hr i hlt
  simp only [rowAtB, Bool.and_eq_true] at this
  have e : wo.rows.getD i default = r := by simp [List.getD, hi]
  rw [← e]
  exact this.1.1
theorem ok_clock (h : wo.ok = true) : 0 ≤ wo.clock ∧ wo.clock ≤ 1099511627376 := by
 simp only [WoM.ok, Bool.and_eq_true, decide_eq_true_eq] at h
 exact h.1.1
theorem ok_client (h : wo.ok = true) (hc : wo.cls[C]? = some c) : clB wo.clock c = true := by
 simp only [WoM.ok, Bool.and_eq_true, clsB, decide_eq_true_eq] at h
 have hr := h.2.2
 rw [all_range_iff] at hr
 have := hr C (List.getElem?_eq_some_iff.1 hc).1
 simpa [List.getD, hc] using this
theorem wrs_inc {l : List WrM} (h : wrsB l = true) : Inc (wrKeys l) := by
 simp only [wrsB, Bool.and_eq_true, decide_eq_true_eq] at h
 have hr := h.2
 rw [all_range_iff] at hr
 refine inc_steps fun i hi => ?_
 have hi : i + 1 < l.length := by simpa using hi
 have := hr (i + 1) hi
 simp only [wrAtB, Bool.and_eq_true, Bool.or_eq_true, beq_iff_eq] at this
 have h2 := this.1.2.resolve_left (by omega)
 simpa [List.getD, hi, show i < l.length by omega] using h2
theorem cl_inc (h : clB wo.clock c = true) : Inc (wrKeys c.ws) := by
 simp only [clB, Bool.and_eq_true] at h
 exact wrs_inc h.1.1
theorem cl_time (h : clB wo.clock c = true) (h1 : wo.clock ≤ 1099511627376) (h0 : c.ph ≠ 0) : inB c.st 1 1099511627776 = true := by
 simp only [clB, Bool.and_eq_true, timesB, if_neg h0] at h
 have h2 := h.1.2
 split at h2
 ·simp only [Bool.and_eq_true, decide_eq_true_eq] at h2
  exact inB_true.2 ⟨h2.1.1, by omega⟩
 ·simp only [Bool.and_eq_true, decide_eq_true_eq] at h2
  exact inB_true.2 ⟨h2.1.1, by omega⟩
theorem step_any (h : Own w true Z B bx bC wo) (hc : wo.cls[C]? = some c) (hv : wo.ok = true) :
 Calls Tryz.prog 32 #[.pointer (some ⟨bx, 0, none⟩), .pointer (some ⟨bC, C * 5, none⟩)] w (AnsOut false Z B bx bC (stepW wo C c) w) := by
 have hr := ok_rows hv
 obtain ⟨k0, k1⟩ := ok_clock hv
 have hcl := ok_client hv hc
 have hat : atB c = true := by simp only [clB, Bool.and_eq_true] at hcl; exact hcl.2
 by_cases p0 : c.ph = 0
 ·exact step_none h hc p0
 have hst := cl_time hcl k1 p0
 unfold atB at hat
 rw [if_neg p0] at hat
 by_cases p1 : c.ph = 1
 ·rw [if_pos p1] at hat
  have ha : c.at_ = 0 := by simpa using hat
  rcases Nat.eq_zero_or_pos c.ws.length with hl | hl
  ·exact step_empty h hc p1 hl
  ·exact step_open h hc hr hst p1 hl ha
 rw [if_neg p1] at hat
 by_cases p2 : c.ph = 2
 ·rw [if_pos p2] at hat
  simp only [Bool.and_eq_true, decide_eq_true_eq] at hat
  by_cases ha : c.at_ = c.ws.length
  ·exact step_seal h hc k0 k1 p2 ha
  ·exact step_lock (m := c.at_.toNat) h hc hr hst p2 (by omega) (by omega)
 rw [if_neg p2] at hat
 by_cases p3 : c.ph = 3
 ·rw [if_pos p3] at hat
  simp only [Bool.and_eq_true, decide_eq_true_eq, beq_iff_eq] at hat
  exact step_close (m := 0) h hc hr hst (.inl p3) (by omega) (by omega)
 rw [if_neg p3] at hat
 by_cases p4 : c.ph = 4
 ·rw [if_pos p4] at hat
  simp only [Bool.and_eq_true, decide_eq_true_eq] at hat
  exact step_close (m := c.at_.toNat) h hc hr hst (.inr p4) (by omega) (by omega)
 rw [if_neg p4] at hat
 cases hat
set_option maxRecDepth 100000 in
set_option maxHeartbeats 4000000 in
theorem perform_begin (key val : ByteArray) (h : Own w true Z B bx bC wo) (hv : wo.ok = true) (hc : wo.cls[C]? = some c) (hks : key.size ≤ maxLen) (hvs : val.size ≤ maxLen) {b : Nat} (ht : w.cell? ⟨bC, C * 5 + 3, none⟩ = some (.slice (some ⟨b, 0, none⟩) c.ws.length c.ws.length)) (hbw : b < w.heap.size) :
 Calls Tryz.prog 14 #[.pointer (some ⟨bx, 0, none⟩), actV ⟨1, C, key, val⟩] w (AnsOut false Z B bx bC (beginW wo C c) w) := by
 have hr := ok_rows hv
 obtain ⟨ck0, ck1⟩ := ok_clock hv
 have hcl := ok_client hv hc
 obtain ⟨wA, hWA, hbA, hsA⟩ := act_new w 1 C key val
 obtain ⟨W0, hW, hb0, hs0, z0, z1, z2, z3, z4, zf⟩ := ans_new wA
 have hg : wA.heap.size < W0.heap.size := by omega
 have hoA := h.upto hbA
 have ho0 := hoA.more hb0 (Nat.le_refl _) hg
 have hbA0 : Below w.heap.size w W0 := below_next hbA hb0
 have HCN := Lib.hid (fun n => (begin_any (ho0.drewN n) hc ck0 ck1).mono fun _ _ x => (⟨x.1, x.2.1.loose, x.2.2⟩ : AnsOut false (fun b => Z b ∨ b = wA.heap.size) B bx bC _ _ _ _))
 obtain ⟨Y, hY⟩ : ∃ Y, Y = beginW wo C c := ⟨_, rfl⟩
 rw [← hY] at HCN
 have HSW := Lib.hid (show (beginW wo C c) = (Y.1, Y.2) by rw [hY])
 have HWA := Lib.hid hWA
 have HW := Lib.hid hW
 have HB0 := Lib.hid hb0
 have HBA := Lib.hid hbA
 have HOA := Lib.hid hoA
 have HO0 := Lib.hid h
 have HZF := Lib.hid zf
 have x2 := h.x2
 have hbx := h.xB.2
 have hBW : B ≤ W0.heap.size := by have := h.base; omega
 have hC := (List.getElem?_eq_some_iff.1 hc).1
 have j0 : (0 : Int) ≤ (C : Int) := by omega
 have j1 : (C : Int) < (wo.cls.length : Int) := by omega
 obtain ⟨Y1, Y2⟩ := Y
 dsimp only at HSW
 clear h hc hr hv hb0 hbA hWA hW zf hY hoA ho0 hcl ht hbA0
 go_enter Tryz.func14, Tryz.ntmps14
 go_wp2
 go_quiet (fail)
 go_wp2_with fail
 rw [← HWA.out, ← HW.out]
 refine (HCN.out _).mono ?_
 rintro e w1 ⟨rfl, ho1, hk1'⟩
 have hk1 := ((Keeps.refl B (fun b => Z b ∨ b = wA.heap.size) W0).drewN hBW _).trans hk1'
 obtain ⟨y0, y1, y2, y3, y4, g0, g1, g2, g3, g4⟩ := ans_later hk1 hg (.inr rfl) z0 z1 z2 z3 z4 HZF.out
 have HO1 := Lib.hid ho1
 have HK1 := Lib.hid hk1
 clear ho1 hk1 hk1'
 obtain ⟨a0, a1, a2, a3, a4⟩ := Y2
 rw [hsA] at y0 y1 y2 y3 y4 g0 g1 g2 g3 g4
 go_wp2
 obtain ⟨hA, hK⟩ := ans_end HOA.out HB0.out rfl HO1.out HK1.out (.int .i64 a0) (.bool a1) (.string a2) (.int .i64 a3) (.int .i64 a4)
 rw [hsA] at hA hK
 rw [HSW.out]
 exact bodyPost_ret (v := ansV ⟨a0, a1, a2, a3, a4⟩) (by simp [results, Tryz.results14, go_sem, y0, y1, y2, y3, y4]) rfl ⟨rfl, hA, (Keeps.new HO0.out.base HBA.out).trans hK⟩
set_option maxRecDepth 100000 in
set_option maxHeartbeats 4000000 in
theorem perform_get (key val : ByteArray) (h : Own w true Z B bx bC wo) (hv : wo.ok = true) (hc : wo.cls[C]? = some c) (hks : key.size ≤ maxLen) (hvs : val.size ≤ maxLen) {b : Nat} (ht : w.cell? ⟨bC, C * 5 + 3, none⟩ = some (.slice (some ⟨b, 0, none⟩) c.ws.length c.ws.length)) (hbw : b < w.heap.size) :
 Calls Tryz.prog 14 #[.pointer (some ⟨bx, 0, none⟩), actV ⟨2, C, key, val⟩] w (AnsOut false Z B bx bC ((wo, getA wo c key)) w) := by
 have hr := ok_rows hv
 obtain ⟨ck0, ck1⟩ := ok_clock hv
 have hcl := ok_client hv hc
 obtain ⟨wA, hWA, hbA, hsA⟩ := act_new w 2 C key val
 obtain ⟨W0, hW, hb0, hs0, z0, z1, z2, z3, z4, zf⟩ := ans_new wA
 have hg : wA.heap.size < W0.heap.size := by omega
 have hoA := h.upto hbA
 have ho0 := hoA.more hb0 (Nat.le_refl _) hg
 have hbA0 : Below w.heap.size w W0 := below_next hbA hb0
 have HCN := Lib.hid (fun n => (get_any key (ho0.drewN n) hc hks (cl_inc hcl) hr (fun e => cl_time hcl ck1 (by omega))).mono fun _ _ x => (⟨x.1, x.2.1.loose, x.2.2⟩ : AnsOut false (fun b => Z b ∨ b = wA.heap.size) B bx bC _ _ _ _))
 obtain ⟨Y, hY⟩ : ∃ Y, Y = (wo, getA wo c key) := ⟨_, rfl⟩
 rw [← hY] at HCN
 have HSW := Lib.hid (show ((wo, getA wo c key)) = (Y.1, Y.2) by rw [hY])
 have HWA := Lib.hid hWA
 have HW := Lib.hid hW
 have HB0 := Lib.hid hb0
 have HBA := Lib.hid hbA
 have HOA := Lib.hid hoA
 have HO0 := Lib.hid h
 have HZF := Lib.hid zf
 have x2 := h.x2
 have hbx := h.xB.2
 have hBW : B ≤ W0.heap.size := by have := h.base; omega
 have hC := (List.getElem?_eq_some_iff.1 hc).1
 have j0 : (0 : Int) ≤ (C : Int) := by omega
 have j1 : (C : Int) < (wo.cls.length : Int) := by omega
 obtain ⟨Y1, Y2⟩ := Y
 dsimp only at HSW
 clear h hc hr hv hb0 hbA hWA hW zf hY hoA ho0 hcl ht hbA0
 go_enter Tryz.func14, Tryz.ntmps14
 go_wp2
 go_quiet (fail)
 go_wp2_with fail
 rw [← HWA.out, ← HW.out]
 refine (HCN.out _).mono ?_
 rintro e w1 ⟨rfl, ho1, hk1'⟩
 have hk1 := ((Keeps.refl B (fun b => Z b ∨ b = wA.heap.size) W0).drewN hBW _).trans hk1'
 obtain ⟨y0, y1, y2, y3, y4, g0, g1, g2, g3, g4⟩ := ans_later hk1 hg (.inr rfl) z0 z1 z2 z3 z4 HZF.out
 have HO1 := Lib.hid ho1
 have HK1 := Lib.hid hk1
 clear ho1 hk1 hk1'
 obtain ⟨a0, a1, a2, a3, a4⟩ := Y2
 rw [hsA] at y0 y1 y2 y3 y4 g0 g1 g2 g3 g4
 go_wp2
 obtain ⟨hA, hK⟩ := ans_end HOA.out HB0.out rfl HO1.out HK1.out (.int .i64 a0) (.bool a1) (.string a2) (.int .i64 a3) (.int .i64 a4)
 rw [hsA] at hA hK
 rw [HSW.out]
 exact bodyPost_ret (v := ansV ⟨a0, a1, a2, a3, a4⟩) (by simp [results, Tryz.results14, go_sem, y0, y1, y2, y3, y4]) rfl ⟨rfl, hA, (Keeps.new HO0.out.base HBA.out).trans hK⟩
set_option maxRecDepth 100000 in
set_option maxHeartbeats 4000000 in
theorem perform_put (key val : ByteArray) (h : Own w true Z B bx bC wo) (hv : wo.ok = true) (hc : wo.cls[C]? = some c) (hks : key.size ≤ maxLen) (hvs : val.size ≤ maxLen) {b : Nat} (ht : w.cell? ⟨bC, C * 5 + 3, none⟩ = some (.slice (some ⟨b, 0, none⟩) c.ws.length c.ws.length)) (hbw : b < w.heap.size) :
 Calls Tryz.prog 14 #[.pointer (some ⟨bx, 0, none⟩), actV ⟨3, C, key, val⟩] w (AnsOut false Z B bx bC ((wo.setC C (putC c key val).1, ansCode (putC c key val).2)) w) := by
 have hr := ok_rows hv
 obtain ⟨ck0, ck1⟩ := ok_clock hv
 have hcl := ok_client hv hc
 obtain ⟨wA, hWA, hbA, hsA⟩ := act_new w 3 C key val
 obtain ⟨W0, hW, hb0, hs0, z0, z1, z2, z3, z4, zf⟩ := ans_new wA
 have hg : wA.heap.size < W0.heap.size := by omega
 have hoA := h.upto hbA
 have ho0 := hoA.more hb0 (Nat.le_refl _) hg
 have hbA0 : Below w.heap.size w W0 := below_next hbA hb0
 have HCN := Lib.hid (fun n => (put_any key val (ho0.drewN n) hc hks hvs (cl_inc hcl) ((hbA0.cell (p := ⟨bC, C * 5 + 3, none⟩) (World.block_lt_of_cell? w _ ht)).trans ht) (Nat.lt_of_lt_of_le hbw hbA0.size)).mono fun _ _ x => (⟨x.1, x.2.1.loose, x.2.2⟩ : NumOut false (fun b => Z b ∨ b = wA.heap.size) B bx bC _ _ _ _))
 obtain ⟨Y, hY⟩ : ∃ Y, Y = (wo.setC C (putC c key val).1, (putC c key val).2) := ⟨_, rfl⟩
 rw [← hY] at HCN
 have HSW := Lib.hid (show ((wo.setC C (putC c key val).1, ansCode (putC c key val).2)) = (Y.1, ansCode Y.2) by rw [hY])
 have HWA := Lib.hid hWA
 have HW := Lib.hid hW
 have HB0 := Lib.hid hb0
 have HBA := Lib.hid hbA
 have HOA := Lib.hid hoA
 have HO0 := Lib.hid h
 have HZF := Lib.hid zf
 have x2 := h.x2
 have hbx := h.xB.2
 have hBW : B ≤ W0.heap.size := by have := h.base; omega
 have hC := (List.getElem?_eq_some_iff.1 hc).1
 have j0 : (0 : Int) ≤ (C : Int) := by omega
 have j1 : (C : Int) < (wo.cls.length : Int) := by omega
 obtain ⟨Y1, Y2⟩ := Y
 dsimp only at HSW
 clear h hc hr hv hb0 hbA hWA hW zf hY hoA ho0 hcl ht hbA0
 go_enter Tryz.func14, Tryz.ntmps14
 go_wp2
 go_quiet (fail)
 go_wp2_with fail
 rw [← HWA.out, ← HW.out]
 refine (HCN.out _).mono ?_
 rintro e w1 ⟨rfl, ho1, hk1'⟩
 have hk1 := ((Keeps.refl B (fun b => Z b ∨ b = wA.heap.size) W0).drewN hBW _).trans hk1'
 obtain ⟨y0, y1, y2, y3, y4, g0, g1, g2, g3, g4⟩ := ans_later hk1 hg (.inr rfl) z0 z1 z2 z3 z4 HZF.out
 have HO1 := Lib.hid ho1
 have HK1 := Lib.hid hk1
 clear ho1 hk1 hk1'
 rw [hsA] at y0 y1 y2 y3 y4 g0 g1 g2 g3 g4
 go_wp2
 obtain ⟨hA, hK⟩ := ans_end HOA.out HB0.out rfl HO1.out HK1.out (.int .i64 Y2) (.bool false) (.string ⟨#[]⟩) (.int .i64 0) (.int .i64 0)
 rw [hsA] at hA hK
 rw [HSW.out]
 exact bodyPost_ret (v := ansV (ansCode Y2)) (by simp [results, Tryz.results14, go_sem, y0, y1, y2, y3, y4, ansCode]) rfl ⟨rfl, hA, (Keeps.new HO0.out.base HBA.out).trans hK⟩
set_option maxRecDepth 100000 in
set_option maxHeartbeats 4000000 in
theorem perform_step (key val : ByteArray) (h : Own w true Z B bx bC wo) (hv : wo.ok = true) (hc : wo.cls[C]? = some c) (hks : key.size ≤ maxLen) (hvs : val.size ≤ maxLen) {b : Nat} (ht : w.cell? ⟨bC, C * 5 + 3, none⟩ = some (.slice (some ⟨b, 0, none⟩) c.ws.length c.ws.length)) (hbw : b < w.heap.size) :
 Calls Tryz.prog 14 #[.pointer (some ⟨bx, 0, none⟩), actV ⟨4, C, key, val⟩] w (AnsOut false Z B bx bC (stepW wo C c) w) := by
 have hr := ok_rows hv
 obtain ⟨ck0, ck1⟩ := ok_clock hv
 have hcl := ok_client hv hc
 obtain ⟨wA, hWA, hbA, hsA⟩ := act_new w 4 C key val
 obtain ⟨W0, hW, hb0, hs0, z0, z1, z2, z3, z4, zf⟩ := ans_new wA
 have hg : wA.heap.size < W0.heap.size := by omega
 have hoA := h.upto hbA
 have ho0 := hoA.more hb0 (Nat.le_refl _) hg
 have hbA0 : Below w.heap.size w W0 := below_next hbA hb0
 have HCN := Lib.hid (fun n => step_any (ho0.drewN n) hc hv)
 obtain ⟨Y, hY⟩ : ∃ Y, Y = stepW wo C c := ⟨_, rfl⟩
 rw [← hY] at HCN
 have HSW := Lib.hid (show (stepW wo C c) = (Y.1, Y.2) by rw [hY])
 have HWA := Lib.hid hWA
 have HW := Lib.hid hW
 have HB0 := Lib.hid hb0
 have HBA := Lib.hid hbA
 have HOA := Lib.hid hoA
 have HO0 := Lib.hid h
 have HZF := Lib.hid zf
 have x2 := h.x2
 have hbx := h.xB.2
 have hBW : B ≤ W0.heap.size := by have := h.base; omega
 have hC := (List.getElem?_eq_some_iff.1 hc).1
 have j0 : (0 : Int) ≤ (C : Int) := by omega
 have j1 : (C : Int) < (wo.cls.length : Int) := by omega
 obtain ⟨Y1, Y2⟩ := Y
 dsimp only at HSW
 clear h hc hr hv hb0 hbA hWA hW zf hY hoA ho0 hcl ht hbA0
 go_enter Tryz.func14, Tryz.ntmps14
 go_wp2
 go_quiet (fail)
 go_wp2_with fail
 rw [← HWA.out, ← HW.out]
 refine (HCN.out _).mono ?_
 rintro e w1 ⟨rfl, ho1, hk1'⟩
 have hk1 := ((Keeps.refl B (fun b => Z b ∨ b = wA.heap.size) W0).drewN hBW _).trans hk1'
 obtain ⟨y0, y1, y2, y3, y4, g0, g1, g2, g3, g4⟩ := ans_later hk1 hg (.inr rfl) z0 z1 z2 z3 z4 HZF.out
 have HO1 := Lib.hid ho1
 have HK1 := Lib.hid hk1
 clear ho1 hk1 hk1'
 obtain ⟨a0, a1, a2, a3, a4⟩ := Y2
 rw [hsA] at y0 y1 y2 y3 y4 g0 g1 g2 g3 g4
 go_wp2
 obtain ⟨hA, hK⟩ := ans_end HOA.out HB0.out rfl HO1.out HK1.out (.int .i64 a0) (.bool a1) (.string a2) (.int .i64 a3) (.int .i64 a4)
 rw [hsA] at hA hK
 rw [HSW.out]
 exact bodyPost_ret (v := ansV ⟨a0, a1, a2, a3, a4⟩) (by simp [results, Tryz.results14, go_sem, y0, y1, y2, y3, y4]) rfl ⟨rfl, hA, (Keeps.new HO0.out.base HBA.out).trans hK⟩
set_option maxRecDepth 100000 in
set_option maxHeartbeats 4000000 in
theorem perform_resolve (key val : ByteArray) (h : Own w true Z B bx bC wo) (hv : wo.ok = true) (hc : wo.cls[C]? = some c) (hks : key.size ≤ maxLen) (hvs : val.size ≤ maxLen) {b : Nat} (ht : w.cell? ⟨bC, C * 5 + 3, none⟩ = some (.slice (some ⟨b, 0, none⟩) c.ws.length c.ws.length)) (hbw : b < w.heap.size) :
 Calls Tryz.prog 14 #[.pointer (some ⟨bx, 0, none⟩), actV ⟨6, C, key, val⟩] w (AnsOut false Z B bx bC (((resolveW wo key).1, ansCode (resolveW wo key).2)) w) := by
 have hr := ok_rows hv
 obtain ⟨ck0, ck1⟩ := ok_clock hv
 have hcl := ok_client hv hc
 obtain ⟨wA, hWA, hbA, hsA⟩ := act_new w 6 C key val
 obtain ⟨W0, hW, hb0, hs0, z0, z1, z2, z3, z4, zf⟩ := ans_new wA
 have hg : wA.heap.size < W0.heap.size := by omega
 have hoA := h.upto hbA
 have ho0 := hoA.more hb0 (Nat.le_refl _) hg
 have hbA0 : Below w.heap.size w W0 := below_next hbA hb0
 have HCN := Lib.hid (fun n => resolve_any key (ho0.drewN n) hr hks)
 obtain ⟨Y, hY⟩ : ∃ Y, Y = resolveW wo key := ⟨_, rfl⟩
 rw [← hY] at HCN
 have HSW := Lib.hid (show (((resolveW wo key).1, ansCode (resolveW wo key).2)) = (Y.1, ansCode Y.2) by rw [hY])
 have HWA := Lib.hid hWA
 have HW := Lib.hid hW
 have HB0 := Lib.hid hb0
 have HBA := Lib.hid hbA
 have HOA := Lib.hid hoA
 have HO0 := Lib.hid h
 have HZF := Lib.hid zf
 have x2 := h.x2
 have hbx := h.xB.2
 have hBW : B ≤ W0.heap.size := by have := h.base; omega
 have hC := (List.getElem?_eq_some_iff.1 hc).1
 have j0 : (0 : Int) ≤ (C : Int) := by omega
 have j1 : (C : Int) < (wo.cls.length : Int) := by omega
 obtain ⟨Y1, Y2⟩ := Y
 dsimp only at HSW
 clear h hc hr hv hb0 hbA hWA hW zf hY hoA ho0 hcl ht hbA0
 go_enter Tryz.func14, Tryz.ntmps14
 go_wp2
 go_quiet (fail)
 go_wp2_with fail
 rw [← HWA.out, ← HW.out]
 refine (HCN.out _).mono ?_
 rintro e w1 ⟨rfl, ho1, hk1'⟩
 have hk1 := ((Keeps.refl B (fun b => Z b ∨ b = wA.heap.size) W0).drewN hBW _).trans hk1'
 obtain ⟨y0, y1, y2, y3, y4, g0, g1, g2, g3, g4⟩ := ans_later hk1 hg (.inr rfl) z0 z1 z2 z3 z4 HZF.out
 have HO1 := Lib.hid ho1
 have HK1 := Lib.hid hk1
 clear ho1 hk1 hk1'
 rw [hsA] at y0 y1 y2 y3 y4 g0 g1 g2 g3 g4
 go_wp2
 obtain ⟨hA, hK⟩ := ans_end HOA.out HB0.out rfl HO1.out HK1.out (.int .i64 Y2) (.bool false) (.string ⟨#[]⟩) (.int .i64 0) (.int .i64 0)
 rw [hsA] at hA hK
 rw [HSW.out]
 exact bodyPost_ret (v := ansV (ansCode Y2)) (by simp [results, Tryz.results14, go_sem, y0, y1, y2, y3, y4, ansCode]) rfl ⟨rfl, hA, (Keeps.new HO0.out.base HBA.out).trans hK⟩
theorem drop_all (h : Own w true Z B bx bC wo) (hc : wo.cls[C]? = some c) : Calls Tryz.prog 33 #[.pointer (some ⟨bC, C * 5, none⟩)] w (NumOut false Z B bx bC (dropW wo C c) w) := by
 by_cases p : c.ph = 0
 ·rw [dropW, if_pos p]
  obtain ⟨c0, _⟩ := h.cl hc
  rw [p] at c0
  refine (drop_idle c0).mono ?_
  rintro e w' ⟨rfl, rfl⟩
  exact ⟨rfl, h.loose, Keeps.refl _ _ _⟩
 ·rw [dropW, if_neg p]
  exact (drop_any h hc p).mono fun _ _ x => ⟨x.1, x.2.1.loose, x.2.2⟩
set_option maxRecDepth 100000 in
set_option maxHeartbeats 4000000 in
theorem perform_drop (key val : ByteArray) (h : Own w true Z B bx bC wo) (hv : wo.ok = true) (hc : wo.cls[C]? = some c) (hks : key.size ≤ maxLen) (hvs : val.size ≤ maxLen) {b : Nat} (ht : w.cell? ⟨bC, C * 5 + 3, none⟩ = some (.slice (some ⟨b, 0, none⟩) c.ws.length c.ws.length)) (hbw : b < w.heap.size) :
 Calls Tryz.prog 14 #[.pointer (some ⟨bx, 0, none⟩), actV ⟨5, C, key, val⟩] w (AnsOut false Z B bx bC (((dropW wo C c).1, ansCode (dropW wo C c).2)) w) := by
 have hr := ok_rows hv
 obtain ⟨ck0, ck1⟩ := ok_clock hv
 have hcl := ok_client hv hc
 obtain ⟨wA, hWA, hbA, hsA⟩ := act_new w 5 C key val
 obtain ⟨W0, hW, hb0, hs0, z0, z1, z2, z3, z4, zf⟩ := ans_new wA
 have hg : wA.heap.size < W0.heap.size := by omega
 have hoA := h.upto hbA
 have ho0 := hoA.more hb0 (Nat.le_refl _) hg
 have hbA0 : Below w.heap.size w W0 := below_next hbA hb0
 have HCN := Lib.hid (fun n => drop_all (ho0.drewN n) hc)
 obtain ⟨Y, hY⟩ : ∃ Y, Y = dropW wo C c := ⟨_, rfl⟩
 rw [← hY] at HCN
 have HSW := Lib.hid (show (((dropW wo C c).1, ansCode (dropW wo C c).2)) = (Y.1, ansCode Y.2) by rw [hY])
 have HWA := Lib.hid hWA
 have HW := Lib.hid hW
 have HB0 := Lib.hid hb0
 have HBA := Lib.hid hbA
 have HOA := Lib.hid hoA
 have HO0 := Lib.hid h
 have HZF := Lib.hid zf
 have x2 := h.x2
 have hbx := h.xB.2
 have hBW : B ≤ W0.heap.size := by have := h.base; omega
 have hC := (List.getElem?_eq_some_iff.1 hc).1
 have j0 : (0 : Int) ≤ (C : Int) := by omega
 have j1 : (C : Int) < (wo.cls.length : Int) := by omega
 obtain ⟨Y1, Y2⟩ := Y
 dsimp only at HSW
 clear h hc hr hv hb0 hbA hWA hW zf hY hoA ho0 hcl ht hbA0
 go_enter Tryz.func14, Tryz.ntmps14
 go_wp2
 go_quiet (fail)
 go_wp2_with fail
 rw [← HWA.out, ← HW.out]
 refine (HCN.out _).mono ?_
 rintro e w1 ⟨rfl, ho1, hk1'⟩
 have hk1 := ((Keeps.refl B (fun b => Z b ∨ b = wA.heap.size) W0).drewN hBW _).trans hk1'
 obtain ⟨y0, y1, y2, y3, y4, g0, g1, g2, g3, g4⟩ := ans_later hk1 hg (.inr rfl) z0 z1 z2 z3 z4 HZF.out
 have HO1 := Lib.hid ho1
 have HK1 := Lib.hid hk1
 clear ho1 hk1 hk1'
 rw [hsA] at y0 y1 y2 y3 y4 g0 g1 g2 g3 g4
 go_wp2
 obtain ⟨hA, hK⟩ := ans_end HOA.out HB0.out rfl HO1.out HK1.out (.int .i64 Y2) (.bool false) (.string ⟨#[]⟩) (.int .i64 0) (.int .i64 0)
 rw [hsA] at hA hK
 rw [HSW.out]
 exact bodyPost_ret (v := ansV (ansCode Y2)) (by simp [results, Tryz.results14, go_sem, y0, y1, y2, y3, y4, ansCode]) rfl ⟨rfl, hA, (Keeps.new HO0.out.base HBA.out).trans hK⟩
theorem perform_any (a : ActM) (h : Own w true Z B bx bC wo) (hv : wo.ok = true) (hC : a.c = C) (hc : wo.cls[C]? = some c) (hks : a.key.size ≤ maxLen) (hvs : a.val.size ≤ maxLen) {b : Nat} (ht : w.cell? ⟨bC, C * 5 + 3, none⟩ = some (.slice (some ⟨b, 0, none⟩) c.ws.length c.ws.length)) (hbw : b < w.heap.size) (k1 : 1 ≤ a.kind) (k6 : a.kind ≤ 6) :
 Calls Tryz.prog 14 #[.pointer (some ⟨bx, 0, none⟩), actV a] w (AnsOut false Z B bx bC (performW wo a) w) := by
 obtain ⟨kind, ac, key, val⟩ := a
 dsimp only at hC hks hvs k1 k6 ⊢
 subst hC
 have hd : wo.cls.getD C default = c := getD_of_get hc
 have hk : kind = 1 ∨ kind = 2 ∨ kind = 3 ∨ kind = 4 ∨ kind = 5 ∨ kind = 6 := by omega
 unfold performW
 dsimp only
 rw [Int.toNat_natCast, hd]
 rcases hk with rfl | rfl | rfl | rfl | rfl | rfl
 ·exact perform_begin key val h hv hc hks hvs ht hbw
 ·exact perform_get key val h hv hc hks hvs ht hbw
 ·exact perform_put key val h hv hc hks hvs ht hbw
 ·exact perform_step key val h hv hc hks hvs ht hbw
 ·exact perform_drop key val h hv hc hks hvs ht hbw
 ·exact perform_resolve key val h hv hc hks hvs ht hbw
end
end Go.Proofs.YtambkjnhfejfaaaGreat
namespace Go.Proofs.YtambkjnhfejfaaaGreat
open Go.RowKit
theorem lock_len (wo : WoM) (C : Nat) (c : ClM) : (lockW wo C c).1.cls.length = wo.cls.length := by
 unfold lockW; dsimp only; split
 ·simp
 ·split <;> simp [WoM.setC, failW]
theorem commit_len (wo : WoM) (C : Nat) (c : ClM) : (commitW wo C c).1.cls.length = wo.cls.length := by
 unfold commitW; dsimp only; split
 ·simp [failW]
 ·split <;> simp
theorem step_len (wo : WoM) (C : Nat) (c : ClM) : (stepW wo C c).1.cls.length = wo.cls.length := by
 unfold stepW; split
 ·split
  ·simp [WoM.setC]
  ·exact lock_len _ _ _
 ·split
  ·split
   ·simp [sealW]
   ·exact lock_len _ _ _
  ·split
   ·exact commit_len _ _ _
   ·rfl
theorem resolve_len (wo : WoM) (key : ByteArray) : (resolveW wo key).1.cls.length = wo.cls.length := by
 unfold resolveW; dsimp only
 repeat' split
 all_goals rfl
theorem perform_len (wo : WoM) (a : ActM) : (performW wo a).1.cls.length = wo.cls.length := by
 unfold performW; dsimp only
 split
 ·unfold beginW; split <;> simp
 ·split
  ·rfl
  ·split
   ·simp [WoM.setC]
   ·split
    ·exact step_len _ _ _
    ·split
     ·unfold dropW; split <;> simp [WoM.setC]
     ·exact resolve_len _ _
def DoOut (wo : WoM) (a : ActM) (w : World) (e : Ending) (w' : World) : Prop :=
 Below w.heap.size w w' ∧ ((actE wo a ≠ 0 ∧ e = .returned (.tuple #[woV none 0 0 0 none 0 0, ansV (ansCode 0), .int .i64 (actE wo a)])) ∨
  (actE wo a = 0 ∧ ∃ bR rc bC wb, e = .returned (.tuple #[woV (some ⟨bR, 0, none⟩) (doW wo a).1.rows.length rc (doW wo a).1.clock (some ⟨bC, 0, none⟩) (doW wo a).1.cls.length (doW wo a).1.cls.length, ansV (doW wo a).2, .int .i64 0]) ∧ (doW wo a).1.rows.length ≤ rc ∧ Core w' w.heap.size (fun b => b < w.heap.size) bR bC wb (doW wo a).1))
theorem set3_at {W : World} {g : Nat} {u0 u1 u2 : Value} (h0 : W.cell? ⟨g, 0, none⟩ = some u0) (h1 : W.cell? ⟨g, 1, none⟩ = some u1) (h2 : W.cell? ⟨g, 2, none⟩ = some u2) (v0 v1 v2 : Value) :
 (set3 W g v0 v1 v2).cell? ⟨g, 0, none⟩ = some v0 ∧ (set3 W g v0 v1 v2).cell? ⟨g, 1, none⟩ = some v1 ∧ (set3 W g v0 v1 v2).cell? ⟨g, 2, none⟩ = some v2 := by
 have n01 := cell_ne g 0 1 (by decide)
 have n02 := cell_ne g 0 2 (by decide)
 have n10 := cell_ne g 1 0 (by decide)
 have n12 := cell_ne g 1 2 (by decide)
 have n20 := cell_ne g 2 0 (by decide)
 have n21 := cell_ne g 2 1 (by decide)
 unfold set3
 refine ⟨?_, ?_, ?_⟩
 ·rw [World.cell?_setCell_other _ _ _ _ n20, World.cell?_setCell_other _ _ _ _ n10]
  exact World.cell?_setCell_same _ _ _ h0
 ·rw [World.cell?_setCell_other _ _ _ _ n21]
  exact World.cell?_setCell_same _ _ _ (u := u1) (by rw [World.cell?_setCell_other _ _ _ _ n01]; exact h1)
 ·exact World.cell?_setCell_same _ _ _ (u := u2) (by rw [World.cell?_setCell_other _ _ _ _ n12, World.cell?_setCell_other _ _ _ _ n02]; exact h2)
theorem two_stores {W : World} {g g' : Nat} (hne : g ≠ g') {u0 u1 u2 t0 t1 t2 t3 t4 : Value} (h0 : W.cell? ⟨g, 0, none⟩ = some u0) (h1 : W.cell? ⟨g, 1, none⟩ = some u1) (h2 : W.cell? ⟨g, 2, none⟩ = some u2) (k0 : W.cell? ⟨g', 0, none⟩ = some t0) (k1 : W.cell? ⟨g', 1, none⟩ = some t1) (k2 : W.cell? ⟨g', 2, none⟩ = some t2) (k3 : W.cell? ⟨g', 3, none⟩ = some t3) (k4 : W.cell? ⟨g', 4, none⟩ = some t4) (v0 v1 v2 a0 a1 a2 a3 a4 : Value) :
 ∃ V, V = (((((((W.setCell ⟨g, 0, none⟩ v0).setCell ⟨g, 1, none⟩ v1).setCell ⟨g, 2, none⟩ v2).setCell ⟨g', 0, none⟩ a0).setCell ⟨g', 1, none⟩ a1).setCell ⟨g', 2, none⟩ a2).setCell ⟨g', 3, none⟩ a3).setCell ⟨g', 4, none⟩ a4 ∧ (V.cell? ⟨g, 0, none⟩ = some v0 ∧ V.cell? ⟨g, 1, none⟩ = some v1 ∧ V.cell? ⟨g, 2, none⟩ = some v2) ∧ (V.cell? ⟨g', 0, none⟩ = some a0 ∧ V.cell? ⟨g', 1, none⟩ = some a1 ∧ V.cell? ⟨g', 2, none⟩ = some a2 ∧ V.cell? ⟨g', 3, none⟩ = some a3 ∧ V.cell? ⟨g', 4, none⟩ = some a4) ∧ Same W V (fun p => p.block = g ∨ p.block = g') := by
 have hs3 := set3_same W g v0 v1 v2
 have hk : ∀ o, (set3 W g v0 v1 v2).cell? ⟨g', o, none⟩ = W.cell? ⟨g', o, none⟩ := fun o => hs3.cell _ fun e => hne e.symm
 have hs5 := set5_same (set3 W g v0 v1 v2) g' 0 a0 a1 a2 a3 a4
 obtain ⟨b0, b1, b2⟩ := set3_at h0 h1 h2 v0 v1 v2
 have hq : ∀ o, (set5 (set3 W g v0 v1 v2) g' 0 a0 a1 a2 a3 a4).cell? ⟨g, o, none⟩ = (set3 W g v0 v1 v2).cell? ⟨g, o, none⟩ := fun o => hs5.cell _ fun e => hne e.1
 obtain ⟨c0, c1, c2, c3, c4⟩ := set5_at (W := set3 W g v0 v1 v2) (g := g') (o := 0) ((hk 0).trans k0) ((hk 1).trans k1) ((hk 2).trans k2) ((hk 3).trans k3) ((hk 4).trans k4) a0 a1 a2 a3 a4
 exact ⟨_, rfl, ⟨(hq 0).trans b0, (hq 1).trans b1, (hq 2).trans b2⟩, ⟨c0, c1, c2, c3, c4⟩, (hs3.mono fun p e => .inl e).trans (hs5.mono fun p e => .inr e.1)⟩
theorem do_boxes (w : World) (v0 v1 v2 : Value) (a0 a1 : Int) (a2 a3 : ByteArray) : ∃ W0, W0 = (((w.alloc (.cells #[v0, v1, v2] 25)).alloc (.cells #[.int .i64 a0, .int .i64 a1, .string a2, .string a3] 27)).alloc (.cells #[.slice none 0 0, .int .i64 0, .slice none 0 0] 25)).alloc (.cells #[.int .i64 0, .bool false, .string ⟨#[]⟩, .int .i64 0, .int .i64 0] 31) ∧
 Below w.heap.size w W0 ∧ W0.heap.size = w.heap.size + 4 ∧
 (W0.cell? ⟨w.heap.size, 0, none⟩ = some v0 ∧ W0.cell? ⟨w.heap.size, 1, none⟩ = some v1 ∧ W0.cell? ⟨w.heap.size, 2, none⟩ = some v2) ∧
 (W0.cell? ⟨w.heap.size + 1, 0, none⟩ = some (.int .i64 a0) ∧ W0.cell? ⟨w.heap.size + 1, 1, none⟩ = some (.int .i64 a1) ∧ W0.cell? ⟨w.heap.size + 1, 2, none⟩ = some (.string a2) ∧ W0.cell? ⟨w.heap.size + 1, 3, none⟩ = some (.string a3)) ∧
 (W0.cell? ⟨w.heap.size + 1 + 1, 0, none⟩ = some (.slice none 0 0) ∧ W0.cell? ⟨w.heap.size + 1 + 1, 1, none⟩ = some (.int .i64 0) ∧ W0.cell? ⟨w.heap.size + 1 + 1, 2, none⟩ = some (.slice none 0 0)) ∧
 (W0.cell? ⟨w.heap.size + 1 + 1 + 1, 0, none⟩ = some (.int .i64 0) ∧ W0.cell? ⟨w.heap.size + 1 + 1 + 1, 1, none⟩ = some (.bool false) ∧ W0.cell? ⟨w.heap.size + 1 + 1 + 1, 2, none⟩ = some (.string ⟨#[]⟩) ∧ W0.cell? ⟨w.heap.size + 1 + 1 + 1, 3, none⟩ = some (.int .i64 0) ∧ W0.cell? ⟨w.heap.size + 1 + 1 + 1, 4, none⟩ = some (.int .i64 0)) ∧
 (∀ o, W0.frozen? ⟨w.heap.size + 1 + 1, o, none⟩ = false) ∧ (∀ o, W0.frozen? ⟨w.heap.size + 1 + 1 + 1, o, none⟩ = false) := by
 obtain ⟨W0, hW⟩ : ∃ W0, W0 = (((w.alloc (.cells #[v0, v1, v2] 25)).alloc (.cells #[.int .i64 a0, .int .i64 a1, .string a2, .string a3] 27)).alloc (.cells #[.slice none 0 0, .int .i64 0, .slice none 0 0] 25)).alloc (.cells #[.int .i64 0, .bool false, .string ⟨#[]⟩, .int .i64 0, .int .i64 0] 31) := ⟨_, rfl⟩
 obtain ⟨h1, h2, h3⟩ := three_blocks w (.cells #[v0, v1, v2] 25) (.cells #[.int .i64 a0, .int .i64 a1, .string a2, .string a3] 27) (.cells #[.slice none 0 0, .int .i64 0, .slice none 0 0] 25)
 have s3 : (((w.alloc (.cells #[v0, v1, v2] 25)).alloc (.cells #[.int .i64 a0, .int .i64 a1, .string a2, .string a3] 27)).alloc (.cells #[.slice none 0 0, .int .i64 0, .slice none 0 0] 25)).heap.size = w.heap.size + 3 := by simp
 have h4 := heap_alloc_new (((w.alloc (.cells #[v0, v1, v2] 25)).alloc (.cells #[.int .i64 a0, .int .i64 a1, .string a2, .string a3] 27)).alloc (.cells #[.slice none 0 0, .int .i64 0, .slice none 0 0] 25)) (.cells #[.int .i64 0, .bool false, .string ⟨#[]⟩, .int .i64 0, .int .i64 0] 31)
 rw [s3] at h4
 have b1 := (Below.heap_alloc _ (.cells #[.int .i64 0, .bool false, .string ⟨#[]⟩, .int .i64 0, .int .i64 0] 31) _ (by rw [s3]; omega)).trans h1
 have b2 := (Below.heap_alloc _ (.cells #[.int .i64 0, .bool false, .string ⟨#[]⟩, .int .i64 0, .int .i64 0] 31) _ (by rw [s3]; omega)).trans h2
 have b3 := (Below.heap_alloc _ (.cells #[.int .i64 0, .bool false, .string ⟨#[]⟩, .int .i64 0, .int .i64 0] 31) _ (by rw [s3]; omega)).trans h3
 have hs : W0.heap.size = w.heap.size + 4 := by
  have := World.size_alloc (((w.alloc (.cells #[v0, v1, v2] 25)).alloc (.cells #[.int .i64 a0, .int .i64 a1, .string a2, .string a3] 27)).alloc (.cells #[.slice none 0 0, .int .i64 0, .slice none 0 0] 25)) (.cells #[.int .i64 0, .bool false, .string ⟨#[]⟩, .int .i64 0, .int .i64 0] 31)
  rw [hW, this, s3]
 have hb : Below w.heap.size w W0 := by rw [hW]; exact below_alloc (below_alloc (below_alloc (below_alloc (Below.refl _ _) _) _) _) _
 rw [← hW] at b1 b2 b3 h4
 refine ⟨W0, hW, hb, hs, ⟨?_, ?_, ?_⟩, ⟨?_, ?_, ?_, ?_⟩, ⟨?_, ?_, ?_⟩, ⟨?_, ?_, ?_, ?_, ?_⟩, fun o => Joins.unfrozen_of_block b3 _, fun o => Joins.unfrozen_of_block h4 _⟩
 ·rw [Joins.cell_of_block b1]; rfl
 ·rw [Joins.cell_of_block b1]; rfl
 ·rw [Joins.cell_of_block b1]; rfl
 ·rw [Joins.cell_of_block b2]; rfl
 ·rw [Joins.cell_of_block b2]; rfl
 ·rw [Joins.cell_of_block b2]; rfl
 ·rw [Joins.cell_of_block b2]; rfl
 ·rw [Joins.cell_of_block b3]; rfl
 ·rw [Joins.cell_of_block b3]; rfl
 ·rw [Joins.cell_of_block b3]; rfl
 ·rw [Joins.cell_of_block h4]; rfl
 ·rw [Joins.cell_of_block h4]; rfl
 ·rw [Joins.cell_of_block h4]; rfl
 ·rw [Joins.cell_of_block h4]; rfl
 ·rw [Joins.cell_of_block h4]; rfl
set_option maxRecDepth 100000 in
set_option maxHeartbeats 4000000 in
theorem do_err (wo : WoM) (a : ActM) (RA : Option Addr) (n rc : Nat) (CA : Option Addr) (m cc : Nat) (w : World) (hin : WoIn w RA n rc CA m cc wo) (he : actE wo a ≠ 0) :
 Calls Tryz.prog 6 #[woV RA n rc wo.clock CA m cc, actV a] w (DoOut wo a w) := by
 obtain ⟨W0, hW, hb0, hs0, ⟨u0, u1, u2⟩, ⟨v0, v1, v2, v3⟩, ⟨p0, p1, p2⟩, ⟨z0, z1, z2, z3, z4⟩, pf, zf⟩ := do_boxes w (.slice RA n rc) (.int .i64 wo.clock) (.slice CA m cc) a.kind a.c a.key a.val
 have HAE := Lib.hid (actError_any wo a RA n rc CA m cc W0 (hin.upto hb0))
 obtain ⟨E, hE⟩ : ∃ E, E = actE wo a := ⟨_, rfl⟩
 rw [← hE] at HAE
 have q0 : (E != 0) = true := by rw [hE]; simpa using he
 have HE := Lib.hid hE
 have HW := Lib.hid hW
 have HB0 := Lib.hid hb0
 have HPF := Lib.hid pf
 have HZF := Lib.hid zf
 have HN := Lib.hid he
 clear hW hb0 hin he hE pf zf
 obtain ⟨kind, ac, key, val⟩ := a
 dsimp only at u0 u1 u2 v0 v1 v2 v3
 go_enter Tryz.func6, Tryz.ntmps6
 go_wp2_with fail
 rw [← HW.out]
 refine HAE.out.mono ?_
 rintro e w1 ⟨rfl, hb1⟩
 obtain ⟨hc1, hf1⟩ := bcell hb1
 have l2 : w.heap.size + 1 + 1 < W0.heap.size := by omega
 have l3 : w.heap.size + 1 + 1 + 1 < W0.heap.size := by omega
 have r0 := (hc1 _ 0 l2).trans p0
 have r1 := (hc1 _ 1 l2).trans p1
 have r2 := (hc1 _ 2 l2).trans p2
 have s0 := (hc1 _ 0 l3).trans z0
 have s1 := (hc1 _ 1 l3).trans z1
 have s2 := (hc1 _ 2 l3).trans z2
 have s3 := (hc1 _ 3 l3).trans z3
 have s4 := (hc1 _ 4 l3).trans z4
 have f0 := (hf1 _ 0 l2).trans (HPF.out 0)
 have f1 := (hf1 _ 1 l2).trans (HPF.out 1)
 have f2 := (hf1 _ 2 l2).trans (HPF.out 2)
 have g0 := (hf1 _ 0 l3).trans (HZF.out 0)
 have g1 := (hf1 _ 1 l3).trans (HZF.out 1)
 have g2 := (hf1 _ 2 l3).trans (HZF.out 2)
 have g3 := (hf1 _ 3 l3).trans (HZF.out 3)
 have g4 := (hf1 _ 4 l3).trans (HZF.out 4)
 have HB1 := Lib.hid (below_next HB0.out hb1)
 clear hb1 hc1 hf1 l2 l3
 go_wp2
 obtain ⟨V, hV, ⟨m0, m1, m2⟩, ⟨n0, n1, n2, n3, n4⟩, _⟩ := two_stores (W := w1) (g := w.heap.size + 1 + 1) (g' := w.heap.size + 1 + 1 + 1) (by omega) r0 r1 r2 s0 s1 s2 s3 s4 (.slice none 0 0) (.int .i64 0) (.slice none 0 0) (.int .i64 0) (.bool false) (.string ⟨#[]⟩) (.int .i64 0) (.int .i64 0)
 have hVb : Below w.heap.size w V := by
  rw [hV]
  exact below_set5 (((HB1.out.setCell (by show w.heap.size ≤ w.heap.size + 1 + 1; omega) _).setCell (by show w.heap.size ≤ w.heap.size + 1 + 1; omega) _).setCell (by show w.heap.size ≤ w.heap.size + 1 + 1; omega) _) (by omega) _ _ _ _ _ _
 rw [← hV]
 clear hV
 exact bodyPost_ret (v := .tuple #[woV none 0 0 0 none 0 0, ansV (ansCode 0), .int .i64 E]) (by simp [results, Tryz.results6, go_sem, m0, m1, m2, n0, n1, n2, n3, n4, ansCode]) rfl ⟨hVb, .inl ⟨HN.out, by rw [HE.out]⟩⟩
theorem act_zero {wo : WoM} {a : ActM} (h : actE wo a = 0) : wo.ok = true ∧ 1 ≤ a.kind ∧ a.kind ≤ 6 ∧ 0 ≤ a.c ∧ a.c < wo.cls.length := by
 unfold actE at h
 split at h
 ·omega
 ·split at h
  ·omega
  ·split at h
   ·omega
   ·rename_i h1 h2 h3
    exact ⟨by simpa using h1, by omega, by omega, by omega, by omega⟩
theorem own_new {w2 : World} {B bR bC : Nat} {wb : Nat → Nat} {wo : WoM} (hB : B ≤ w2.heap.size) (hco : Core w2 B (fun b => b < B) bR bC wb wo) : ∃ W, W = w2.alloc (.cells #[.slice (some ⟨bR, 0, none⟩) wo.rows.length wo.rows.length, .int .i64 wo.clock, .slice (some ⟨bC, 0, none⟩) wo.cls.length wo.cls.length] 25) ∧ Own W true (fun b => b < B) B w2.heap.size bC wo ∧ Below w2.heap.size w2 W ∧ W.heap.size = w2.heap.size + 1 := by
 have hb : Below w2.heap.size w2 (w2.alloc (.cells #[.slice (some ⟨bR, 0, none⟩) wo.rows.length wo.rows.length, .int .i64 wo.clock, .slice (some ⟨bC, 0, none⟩) wo.cls.length wo.cls.length] 25)) := below_alloc (Below.refl _ _) _
 refine ⟨_, rfl, ⟨⟨hB, by simp⟩, by show ¬ w2.heap.size < B; omega, fun b e => ?_, fun o => by simp, by simp, by simp, bR, wo.rows.length, wb, by simp, Nat.le_refl _, fun _ => rfl, hco.upto hb fun b hlt h e => ?_⟩, hb, by simp⟩
 ·have : b < B := e
  simp; omega
 ·have h : ¬ b < B := h
  rcases e with e | e
  ·omega
  ·exact h e
theorem Core.base {w : World} {B B' : Nat} {X : Nat → Prop} {bR bC : Nat} {wb : Nat → Nat} {wo : WoM} (h : Core w B X bR bC wb wo) (hB : B' ≤ B) : Core w B' X bR bC wb wo :=
 ⟨⟨by have := h.rB.1; omega, h.rB.2⟩, ⟨by have := h.cB.1; omega, h.cB.2⟩, h.ne, fun i hi => ⟨by have := (h.wB i hi).1; omega, (h.wB i hi).2⟩, h.inj, h.rf, h.cf, h.wf, h.rows, h.cls, h.rl, h.cl, h.ck⟩
set_option maxRecDepth 100000 in
set_option maxHeartbeats 4000000 in
theorem do_ok (wo : WoM) (a : ActM) (RA : Option Addr) (n rc : Nat) (CA : Option Addr) (m cc : Nat) (w : World) (hin : WoIn w RA n rc CA m cc wo) (hks : a.key.size ≤ maxLen) (hvs : a.val.size ≤ maxLen) (he : actE wo a = 0) :
 Calls Tryz.prog 6 #[woV RA n rc wo.clock CA m cc, actV a] w (DoOut wo a w) := by
 obtain ⟨W0, hW, hb0, hs0, ⟨u0, u1, u2⟩, ⟨v0, v1, v2, v3⟩, ⟨p0, p1, p2⟩, ⟨z0, z1, z2, z3, z4⟩, pf, zf⟩ := do_boxes w (.slice RA n rc) (.int .i64 wo.clock) (.slice CA m cc) a.kind a.c a.key a.val
 have HAE := Lib.hid (actError_any wo a RA n rc CA m cc W0 (hin.upto hb0))
 rw [he] at HAE
 obtain ⟨hok, k1, k6, c0, c1⟩ := act_zero he
 obtain ⟨C, hC⟩ : ∃ C : Nat, a.c = C := ⟨a.c.toNat, by omega⟩
 have hClt : C < wo.cls.length := by omega
 have hget : wo.cls[C]? = some (wo.cls.getD C default) := getD_some hClt
 obtain ⟨P, hP⟩ : ∃ P, P = performW wo a := ⟨_, rfl⟩
 have hlen : P.1.cls.length = wo.cls.length := by rw [hP]; exact perform_len _ _
 have HDW := Lib.hid (show doW wo a = (P.1, { P.2 with ph := (P.1.cls.getD C default).ph }) by rw [doW, hP, hC, Int.toNat_natCast])
 have HP := Lib.hid hP
 have HE := Lib.hid he
 have HW := Lib.hid hW
 have HB0 := Lib.hid hb0
 have HPF := Lib.hid pf
 have HZF := Lib.hid zf
 have HI := Lib.hid hin
 have HOK := Lib.hid hok
 have HGET := Lib.hid hget
 have HC := Lib.hid hC
 have l0 : w.heap.size < W0.heap.size := by omega
 have l1 : w.heap.size + 1 < W0.heap.size := by omega
 have l2 : w.heap.size + 1 + 1 < W0.heap.size := by omega
 have l3 : w.heap.size + 1 + 1 + 1 < W0.heap.size := by omega
 clear hW hb0 hin he pf zf hok hget hP hC
 obtain ⟨kind, ac, key, val⟩ := a
 dsimp only at u0 u1 u2 v0 v1 v2 v3 hks hvs k1 k6 c0 c1
 go_enter Tryz.func6, Tryz.ntmps6
 go_wp2_with fail
 rw [← HW.out]
 refine HAE.out.mono ?_
 rintro e w1 ⟨rfl, hb1⟩
 obtain ⟨hc1, hf1⟩ := bcell hb1
 have x0 := (hc1 _ 0 l0).trans u0
 have x1 := (hc1 _ 1 l0).trans u1
 have x2 := (hc1 _ 2 l0).trans u2
 have HB1 := Lib.hid hb1
 have hs1 := hb1.size
 clear hb1 hc1 hf1
 go_wp2_with fail
 refine (copyWo_any wo RA n rc CA m cc w1 (HI.out.upto (below_next HB0.out HB1.out))).mono ?_
 rintro e w2 ⟨bR, bC, wb, rfl, hco, hb2, htight⟩
 obtain ⟨w3, hw3, ho3, hb3, hs3⟩ := own_new hb2.size hco
 have hs2 := hb2.size
 have hb03 : Below W0.heap.size W0 w3 := below_next (below_next HB1.out hb2) hb3
 obtain ⟨hc3, _⟩ := bcell (below_next HB1.out hb2)
 have l12 : w.heap.size + 1 < w2.heap.size := by have := hb2.size; omega
 have y0 := (hc3 _ 0 l1).trans v0
 have y1 := (hc3 _ 1 l1).trans v1
 have y2 := (hc3 _ 2 l1).trans v2
 have y3 := (hc3 _ 3 l1).trans v3
 have hti := htight C _ HGET.out
 have hti3 : w3.cell? ⟨bC, C * 5 + 3, none⟩ = _ := (hb3.cell (p := ⟨bC, C * 5 + 3, none⟩) (World.block_lt_of_cell? w2 _ hti)).trans hti
 have hwb : wb C < w3.heap.size := by have := (hco.wB C hClt).2.1; omega
 have HPE := Lib.hid (perform_any ⟨kind, ac, key, val⟩ ho3 HOK.out HC.out HGET.out hks hvs hti3 hwb k1 k6)
 rw [← HP.out] at HPE
 have HW3 := Lib.hid hw3
 have HO3 := Lib.hid ho3
 have HB03 := Lib.hid hb03
 have hB01 : W0.heap.size ≤ w1.heap.size := hs1
 clear hco hb2 htight hw3 ho3 hb3 hb03 hc3 hti hti3 hwb
 go_wp2_with fail
 rw [← HW3.out]
 refine HPE.out.mono ?_
 rintro e w4 ⟨rfl, ho4, hk4⟩
 obtain ⟨P1, P2⟩ := P
 dsimp only at ho4 hlen HDW
 obtain ⟨a0, a1, a2, a3, a4⟩ := P2
 have hb4 : Below w1.heap.size w3 w4 := hk4.bel
 have hz1 : w1.heap.size ≤ w3.heap.size := by have := HO3.out.base; omega
 have hb04 : Below W0.heap.size W0 w4 := HB03.out.trans (hb4.mono hB01)
 obtain ⟨hc4, hf4⟩ := bcell hb04
 have t1 := (hc4 _ 1 l1).trans v1
 have r0 := (hc4 _ 0 l2).trans p0
 have r1 := (hc4 _ 1 l2).trans p1
 have r2 := (hc4 _ 2 l2).trans p2
 have s0 := (hc4 _ 0 l3).trans z0
 have s1 := (hc4 _ 1 l3).trans z1
 have s2 := (hc4 _ 2 l3).trans z2
 have s3 := (hc4 _ 3 l3).trans z3
 have s4 := (hc4 _ 4 l3).trans z4
 have f0 := (hf4 _ 0 l2).trans (HPF.out 0)
 have f1 := (hf4 _ 1 l2).trans (HPF.out 1)
 have f2 := (hf4 _ 2 l2).trans (HPF.out 2)
 have g0 := (hf4 _ 0 l3).trans (HZF.out 0)
 have g1 := (hf4 _ 1 l3).trans (HZF.out 1)
 have g2 := (hf4 _ 2 l3).trans (HZF.out 2)
 have g3 := (hf4 _ 3 l3).trans (HZF.out 3)
 have g4 := (hf4 _ 4 l3).trans (HZF.out 4)
 have hCl' : C < P1.cls.length := by omega
 obtain ⟨i0, _⟩ := ho4.cl (getD_some (d := default) hCl')
 have o2 := ho4.x2
 have o1 := ho4.x1
 obtain ⟨bR', rc', wb', o0, hrc', _, hco4⟩ := ho4.core
 have hbC4 : bC < w4.heap.size := World.block_lt_of_cell? w4 _ i0
 have hbx4 : w2.heap.size < w4.heap.size := ho4.xB.2
 have m0 : w.heap.size + 1 < w4.heap.size := by have := hb04.size; omega
 have m2 : w.heap.size + 1 + 1 < w4.heap.size := by have := hb04.size; omega
 have m3 : w.heap.size + 1 + 1 + 1 < w4.heap.size := by have := hb04.size; omega
 have j1 : (C : Int) < (P1.cls.length : Int) := by omega
 have j0 : (0 : Int) ≤ (C : Int) := by omega
 have hac : ac = (C : Int) := HC.out
 rw [hac] at t1
 obtain ⟨ph, hph⟩ : ∃ ph, ph = (P1.cls.getD C default).ph := ⟨_, rfl⟩
 rw [← hph] at i0 HDW
 have HCO4 := Lib.hid hco4
 have HB04 := Lib.hid hb04
 have HRC := Lib.hid hrc'
 clear ho4 hk4 hb4 hc4 hf4 hco4 hb04 hph hrc'
 go_wp2
 obtain ⟨W5, hW5⟩ : ∃ W5, W5 = w4.alloc (.cells #[.int .i64 a0, .bool a1, .string a2, .int .i64 ph, .int .i64 a4] 31) := ⟨_, rfl⟩
 have hb5 : Below w4.heap.size w4 W5 := by rw [hW5]; exact below_alloc (Below.refl _ _) _
 have q0 : W5.cell? ⟨w4.heap.size, 0, none⟩ = some (.int .i64 a0) := by rw [hW5]; simp
 have q1 : W5.cell? ⟨w4.heap.size, 1, none⟩ = some (.bool a1) := by rw [hW5]; simp
 have q2 : W5.cell? ⟨w4.heap.size, 2, none⟩ = some (.string a2) := by rw [hW5]; simp
 have q3 : W5.cell? ⟨w4.heap.size, 3, none⟩ = some (.int .i64 ph) := by rw [hW5]; simp
 have q4 : W5.cell? ⟨w4.heap.size, 4, none⟩ = some (.int .i64 a4) := by rw [hW5]; simp
 obtain ⟨hc5, hf5⟩ := bcell hb5
 have o0 := (hc5 _ _ hbx4).trans o0
 have o1 := (hc5 _ _ hbx4).trans o1
 have o2 := (hc5 _ _ hbx4).trans o2
 have r0 := (hc5 _ _ m2).trans r0
 have r1 := (hc5 _ _ m2).trans r1
 have r2 := (hc5 _ _ m2).trans r2
 have s0 := (hc5 _ _ m3).trans s0
 have s1 := (hc5 _ _ m3).trans s1
 have s2 := (hc5 _ _ m3).trans s2
 have s3 := (hc5 _ _ m3).trans s3
 have s4 := (hc5 _ _ m3).trans s4
 have f0 := (hf5 _ _ m2).trans f0
 have f1 := (hf5 _ _ m2).trans f1
 have f2 := (hf5 _ _ m2).trans f2
 have g0 := (hf5 _ _ m3).trans g0
 have g1 := (hf5 _ _ m3).trans g1
 have g2 := (hf5 _ _ m3).trans g2
 have g3 := (hf5 _ _ m3).trans g3
 have g4 := (hf5 _ _ m3).trans g4
 have n1 : w4.heap.size ≠ w.heap.size + 1 + 1 := by omega
 have n2 : w4.heap.size ≠ w.heap.size + 1 + 1 + 1 := by omega
 have n3 : w2.heap.size ≠ w.heap.size + 1 + 1 := by omega
 have n4 : w2.heap.size ≠ w.heap.size + 1 + 1 + 1 := by omega
 have n1' : w.heap.size + 1 + 1 ≠ w4.heap.size := by omega
 have n2' : w.heap.size + 1 + 1 + 1 ≠ w4.heap.size := by omega
 have n3' : w.heap.size + 1 + 1 ≠ w2.heap.size := by omega
 have n4' : w.heap.size + 1 + 1 + 1 ≠ w2.heap.size := by omega
 rw [← hW5]
 have HB5 := Lib.hid hb5
 clear hW5 hb5 hc5 hf5
 go_region
 obtain ⟨V, hV, ⟨m0, m1, m2⟩, ⟨n0, n1, n2, n3, n4⟩, hsV⟩ := two_stores (W := W5) (g := w.heap.size + 1 + 1) (g' := w.heap.size + 1 + 1 + 1) (by omega) r0 r1 r2 s0 s1 s2 s3 s4 (.slice (some ⟨bR', 0, none⟩) P1.rows.length rc') (.int .i64 P1.clock) (.slice (some ⟨bC, 0, none⟩) wo.cls.length wo.cls.length) (.int .i64 a0) (.bool a1) (.string a2) (.int .i64 ph) (.int .i64 a4)
 have hVb : Below w.heap.size w V := by
  have h5 : Below w.heap.size w W5 := below_next HB0.out (HB04.out.trans (HB5.out.mono (by have := HB04.out.size; omega)))
  rw [hV]
  exact below_set5 (((h5.setCell (by show w.heap.size ≤ w.heap.size + 1 + 1; omega) _).setCell (by show w.heap.size ≤ w.heap.size + 1 + 1; omega) _).setCell (by show w.heap.size ≤ w.heap.size + 1 + 1; omega) _) (by omega) _ _ _ _ _ _
 rw [← hV]
 have hX : ∀ p : Addr, (p.block = w.heap.size + 1 + 1 ∨ p.block = w.heap.size + 1 + 1 + 1) → (p.block = w2.heap.size ∨ p.block < w1.heap.size) := fun p e => by rcases e with e | e <;> (right; omega)
 have hcV : Core V w1.heap.size (fun b => b = w2.heap.size ∨ b < w1.heap.size) bR' bC wb' P1 := (HCO4.out.upto HB5.out (fun _ _ h => h)).tick hsV hX P1.clock HCO4.out.ck
 have hcV' : Core V.drew w.heap.size (fun b => b < w.heap.size) bR' bC wb' P1 := (hcV.base (by omega)).upto (below_drew (Below.refl _ _)) fun b _ h e => h (.inr (by have e : b < w.heap.size := e; omega))
 have HCV := Lib.hid hcV'
 have HVB := Lib.hid (below_drew hVb)
 clear hV hcV hcV' hVb hsV hX r0 r1 r2 s0 s1 s2 s3 s4
 go_wp2
 refine bodyPost_ret (v := .tuple #[woV (some ⟨bR', 0, none⟩) P1.rows.length rc' P1.clock (some ⟨bC, 0, none⟩) wo.cls.length wo.cls.length, ansV ⟨a0, a1, a2, ph, a4⟩, .int .i64 0]) (by simp [results, Tryz.results6, go_sem, m0, m1, m2, n0, n1, n2, n3, n4]) rfl ⟨HVB.out, .inr ⟨HE.out, bR', rc', bC, wb', ?_, ?_, ?_⟩⟩
 ·rw [HDW.out]
  dsimp only
  rw [hlen]
 ·rw [HDW.out]; exact HRC.out
 ·rw [HDW.out]; exact HCV.out
theorem do_any (wo : WoM) (a : ActM) (RA : Option Addr) (n rc : Nat) (CA : Option Addr) (m cc : Nat) (w : World) (hin : WoIn w RA n rc CA m cc wo) (hks : a.key.size ≤ maxLen) (hvs : a.val.size ≤ maxLen) :
 Calls Tryz.prog 6 #[woV RA n rc wo.clock CA m cc, actV a] w (DoOut wo a w) := by
 by_cases he : actE wo a = 0
 ·exact do_ok wo a RA n rc CA m cc w hin hks hvs he
 ·exact do_err wo a RA n rc CA m cc w hin he
def runA (wo : WoM) (a : ActM) : WoM × AnsM := if actE wo a = 0 then doW wo a else (wo, ansCode (actE wo a))
def runWo : WoM → List ActM → WoM
 | wo, [] => wo
 | wo, a :: l => runWo (runA wo a).1 l
def runAns : WoM → List ActM → List AnsM
 | _, [] => []
 | wo, a :: l => (runA wo a).2 :: runAns (runA wo a).1 l
def startW (n : Nat) : WoM := ⟨[], 0, List.replicate n idleC⟩
theorem runWo_snoc (l : List ActM) (a : ActM) : ∀ wo, runWo wo (l ++ [a]) = (runA (runWo wo l) a).1 := by
 induction l with
 | nil => intro wo; rfl
 | cons b l ih => intro wo; exact ih _
theorem runAns_snoc (l : List ActM) (a : ActM) : ∀ wo, runAns wo (l ++ [a]) = runAns wo l ++ [(runA (runWo wo l) a).2] := by
 induction l with
 | nil => intro wo; rfl
 | cons b l ih => intro wo; simp only [List.cons_append, runAns, runWo, ih]
theorem runAns_length (l : List ActM) : ∀ wo, (runAns wo l).length = l.length := by
 induction l with
 | nil => intro wo; rfl
 | cons b l ih => intro wo; simp [runAns, ih]
structure ActAt (w : World) (b o : Nat) (a : ActM) : Prop where
 k : w.cell? ⟨b, o, none⟩ = some (.int .i64 a.kind)
 c : w.cell? ⟨b, o + 1, none⟩ = some (.int .i64 a.c)
 y : w.cell? ⟨b, o + 2, none⟩ = some (.string a.key)
 v : w.cell? ⟨b, o + 3, none⟩ = some (.string a.val)
 ok : a.key.size ≤ maxLen ∧ a.val.size ≤ maxLen
theorem ActAt.keep {w w' : World} {b o : Nat} {x : ActM} (h : ActAt w b o x) (hk : ∀ k, w'.cell? ⟨b, k, none⟩ = w.cell? ⟨b, k, none⟩) : ActAt w' b o x := ⟨(hk _).trans h.k, (hk _).trans h.c, (hk _).trans h.y, (hk _).trans h.v, h.ok⟩
abbrev ActsAt (w : World) (P : Nat → Prop) (A : Option Addr) (l : List ActM) : Prop := SeqAt P 4 2932031007402 (ActAt w) A l
theorem SeqAt.acts {w w' : World} {P P' : Nat → Prop} {A : Option Addr} {l : List ActM} (h : ActsAt w P A l) (hP : ∀ b, P b → P' b) (hk : ∀ b k, P b → w'.cell? ⟨b, k, none⟩ = w.cell? ⟨b, k, none⟩) : ActsAt w' P' A l :=
 SeqAt.mono h hP fun b _ _ _ hb hx => hx.keep fun k => hk b k hb
structure AnsAt (w : World) (b o : Nat) (x : AnsM) : Prop where
 c : w.cell? ⟨b, o, none⟩ = some (.int .i64 x.code)
 i : w.cell? ⟨b, o + 1, none⟩ = some (.bool x.is)
 v : w.cell? ⟨b, o + 2, none⟩ = some (.string x.val)
 p : w.cell? ⟨b, o + 3, none⟩ = some (.int .i64 x.ph)
 t : w.cell? ⟨b, o + 4, none⟩ = some (.int .i64 x.time)
theorem AnsAt.keep {w w' : World} {b o : Nat} {x : AnsM} (h : AnsAt w b o x) (hk : ∀ k, o ≤ k → k < o + 5 → w'.cell? ⟨b, k, none⟩ = w.cell? ⟨b, k, none⟩) : AnsAt w' b o x :=
 ⟨(hk _ (by omega) (by omega)).trans h.c, (hk _ (by omega) (by omega)).trans h.i, (hk _ (by omega) (by omega)).trans h.v, (hk _ (by omega) (by omega)).trans h.p, (hk _ (by omega) (by omega)).trans h.t⟩
structure AnsDone (g n : Nat) (xs : List AnsM) (wr : World) : Prop where
 blk : ∃ cur, wr.heap[g]? = some (.cells cur 31 (0, 0)) ∧ cur.size = n * 5
 ans : ∀ i x, xs[i]? = some x → AnsAt wr g (i * 5) x
section
variable {g n : Nat} {xs : List AnsM} {w w' : World}
theorem AnsDone.lt (h : AnsDone g n xs w) : g < w.heap.size := by obtain ⟨_, h, _⟩ := h.blk; exact (Array.getElem?_eq_some_iff.1 h).1
theorem AnsDone.kept (h : AnsDone g n xs w) (hg : w'.heap[g]? = w.heap[g]?) : AnsDone g n xs w' := by
 obtain ⟨cur, hc, hn⟩ := h.blk
 exact ⟨⟨cur, hg.trans hc, hn⟩, fun i x hx => (h.ans i x hx).keep fun k _ _ => World.cell?_of_block (w := w) (a := ⟨g, k, none⟩) hg⟩
theorem AnsDone.cell (h : AnsDone g n xs w) (hk : xs.length < n) (j : Nat) (hj : j < 5) : ∃ v, w.cell? ⟨g, xs.length * 5 + j, none⟩ = some v ∧ w.frozen? ⟨g, xs.length * 5 + j, none⟩ = false := by
 obtain ⟨cur, hg, hn⟩ := h.blk
 exact block_cell hg hn (by omega)
theorem AnsDone.step (h : AnsDone g n xs w) (hk : xs.length < n) (x : AnsM) : AnsDone g n (xs ++ [x]) (set5 w g (xs.length * 5) (.int .i64 x.code) (.bool x.is) (.string x.val) (.int .i64 x.ph) (.int .i64 x.time)) := by
 have hs := set5_same w g (xs.length * 5) (.int .i64 x.code) (.bool x.is) (.string x.val) (.int .i64 x.ph) (.int .i64 x.time)
 obtain ⟨_, e0, _⟩ := h.cell hk 0 (by omega)
 obtain ⟨_, e1, _⟩ := h.cell hk 1 (by omega)
 obtain ⟨_, e2, _⟩ := h.cell hk 2 (by omega)
 obtain ⟨_, e3, _⟩ := h.cell hk 3 (by omega)
 obtain ⟨_, e4, _⟩ := h.cell hk 4 (by omega)
 obtain ⟨a0, a1, a2, a3, a4⟩ := set5_at e0 e1 e2 e3 e4 (.int .i64 x.code) (.bool x.is) (.string x.val) (.int .i64 x.ph) (.int .i64 x.time)
 refine ⟨block_set (block_set (block_set (block_set (block_set h.blk _) _) _) _) _, fun i y hy => ?_⟩
 have hi := (List.getElem?_eq_some_iff.1 hy).1
 rw [List.length_append, List.length_singleton] at hi
 by_cases e : i < xs.length
 ·rw [List.getElem?_append_left e] at hy
  exact (h.ans i y hy).keep fun k h1 h2 => hs.cell _ fun e' => by
   have h3 : xs.length * 5 ≤ k := e'.2.1
   omega
 ·have ei : i = xs.length := by omega
  subst ei
  rw [List.getElem?_append_right (Nat.le_refl _), Nat.sub_self, List.getElem?_cons_zero] at hy
  have hy := Option.some.inj hy
  subst hy
  exact ⟨a0, a1, a2, a3, a4⟩
end
structure WoInX (w : World) (X : Nat → Prop) (RA : Option Addr) (n rc : Nat) (CA : Option Addr) (m cc : Nat) (wo : WoM) : Prop where
 hn : n = wo.rows.length
 hrc : n ≤ rc
 rows : RowsAt w (fun b => b < w.heap.size ∧ ¬ X b) RA wo.rows
 hm : m = wo.cls.length
 hcc : m ≤ cc
 cls : ClsAt w (fun b => b < w.heap.size ∧ ¬ X b) CA wo.cls
 ck : i64 wo.clock
section
variable {w w' : World} {X : Nat → Prop} {RA CA : Option Addr} {n rc m cc : Nat} {wo : WoM}
theorem WoInX.in_ (h : WoInX w X RA n rc CA m cc wo) : WoIn w RA n rc CA m cc wo :=
 ⟨h.hn, h.hrc, h.rows.rows (fun _ hp => hp.1) (fun _ _ _ => rfl), h.hm, h.hcc, h.cls.cls (fun _ hp => hp.1) (fun _ _ _ => rfl), h.ck⟩
theorem WoInX.upto (h : WoInX w X RA n rc CA m cc wo) (hb : Below w.heap.size w w') : WoInX w' X RA n rc CA m cc wo :=
 ⟨h.hn, h.hrc, h.rows.rows (fun _ hp => ⟨(below_mem hb).1 _ hp.1, hp.2⟩) (fun _ _ hp => (below_mem hb).2 _ _ hp.1), h.hm, h.hcc, h.cls.cls (fun _ hp => ⟨(below_mem hb).1 _ hp.1, hp.2⟩) (fun _ _ hp => (below_mem hb).2 _ _ hp.1), h.ck⟩
theorem WoInX.same {S : Addr → Prop} (h : WoInX w X RA n rc CA m cc wo) (hs : Same w w' S) (hS : ∀ p, S p → X p.block) : WoInX w' X RA n rc CA m cc wo :=
 ⟨h.hn, h.hrc, h.rows.rows (fun _ hp => by rw [hs.sz]; exact hp) (fun _ _ hp => hs.cell _ fun e => hp.2 (hS _ e)), h.hm, h.hcc, h.cls.cls (fun _ hp => by rw [hs.sz]; exact hp) (fun _ _ hp => hs.cell _ fun e => hp.2 (hS _ e)), h.ck⟩
theorem Core.inX {B bR bC : Nat} {X' : Nat → Prop} {wb : Nat → Nat} (h : Core w B X bR bC wb wo) (hX : ∀ b, ¬ X b → ¬ X' b) {rc cc : Nat} (hr : wo.rows.length ≤ rc) (hc : wo.cls.length ≤ cc) : WoInX w X' (some ⟨bR, 0, none⟩) wo.rows.length rc (some ⟨bC, 0, none⟩) wo.cls.length cc wo :=
 ⟨rfl, hr, SeqAt.block h.rl ⟨h.rB.2.1, hX _ h.rB.2.2⟩ fun i r hr => (h.rows i r hr).mono (fun _ hb => ⟨hb.1, hX _ hb.2.1⟩) (fun _ _ _ => rfl) (fun _ _ _ => rfl), rfl, hc,
  SeqAt.block h.cl ⟨h.cB.2.1, hX _ h.cB.2.2⟩ fun i c hc => (h.cls i c hc).mono (fun _ hb => by rw [hb]; exact ⟨(h.wB i (List.getElem?_eq_some_iff.1 hc).1).2.1, hX _ (h.wB i (List.getElem?_eq_some_iff.1 hc).1).2.2.1⟩) (fun _ _ _ => rfl) (fun _ _ _ => rfl), h.ck⟩
end
theorem ans_info : (Tryz.prog.info? 31).map (fun i => (i.zero, i.size, i.bytes)) = some (some (.agg #[.int .i64 0, .bool false, .string ⟨#[]⟩, .int .i64 0, .int .i64 0]), 5, 48) := by kernel_rfl
theorem make_ans (n : Nat) (hn : n ≤ 400) : ∃ Z : Array Value, Z.size = n * 5 ∧ ∀ W : World, (Instr.makeSlice 37 (.int .i64 (n : Int)) (.int .i64 (n : Int))).run Tryz.prog W =
 .ok (.slice (some ⟨W.heap.size, 0, none⟩) n n) (W.alloc (.cells Z 31)) := by
 obtain ⟨i0, hi0, hz0, hz1, hz2⟩ := info_parts ans_info
 refine ⟨madeCells (Value.agg #[.int .i64 0, .bool false, .string ⟨#[]⟩, .int .i64 0, .int .i64 0]).cells (n * 5), by rw [size_madeCells], fun W => ?_⟩
 have h := run_make (P := Tryz.prog) W 37 31 i0 _ Tryz.underlying37 hi0 hz0 .i64 .i64 (n : Int) (n : Int) (by omega) (by omega) (by rw [hz2]; omega) (by omega)
 simp only [Int.toNat_natCast, hz1] at h
 exact h
theorem made_at (z : Array Value) (n k : Nat) (h : k < n) : (madeCells z n)[k]? = some z[k % z.size]! := by simp [madeCells, h]
theorem start_in (w : World) (n : Nat) (hn : n ≤ 5) (Z : Array Value) (hZ : Z = madeCells (Value.agg #[.int .i64 0, .int .i64 0, .int .i64 0, .slice none 0 0, .int .i64 0]).cells (n * 5)) {g : Nat} (hg : w.heap[g]? = some (.cells Z 49 (0, 0))) (X : Nat → Prop) (hX : ¬ X g) :
 WoInX w X none 0 0 (some ⟨g, 0, none⟩) n n (startW n) := by
 have hlt : g < w.heap.size := (Array.getElem?_eq_some_iff.1 hg).1
 refine ⟨rfl, Nat.le_refl _, SeqAt.nil_ _, by simp [startW], Nat.le_refl _, SeqAt.block (by simp [startW]; omega) ⟨hlt, hX⟩ fun i c hc => ?_, i64_zero⟩
 have hi : i < n := by have := (List.getElem?_eq_some_iff.1 hc).1; simpa [startW] using this
 have hc' : c = idleC := by simp [startW, hi] at hc; exact hc.symm
 subst hc'
 have hcell : ∀ j, j < 5 → w.cell? ⟨g, i * 5 + j, none⟩ = ([.int .i64 0, .int .i64 0, .int .i64 0, .slice none 0 0, .int .i64 0] : List Value)[j]? := by
  intro j hj
  have e : (i * 5 + j) % 5 = j := by omega
  rw [Joins.cell_of_block hg, hZ, made_at _ _ _ (by omega), show (Value.agg #[.int .i64 0, .int .i64 0, .int .i64 0, .slice none 0 0, .int .i64 0]).cells.size = 5 from rfl, e]
  match j, hj with
  | 0, _ => rfl
  | 1, _ => rfl
  | 2, _ => rfl
  | 3, _ => rfl
  | 4, _ => rfl
 exact ⟨hcell 0 (by omega), hcell 1 (by omega), hcell 2 (by omega), ⟨none, 0, hcell 3 (by omega), Nat.le_refl _, SeqAt.nil_ _⟩, hcell 4 (by omega), i64_zero, i64_zero, i64_zero, i64_zero⟩
end Go.Proofs.YtambkjnhfejfaaaGreat
