/-
  Contracts of functions of the program and words for memory, several texts in one: RFail, RBoxes, RCopy. Conditions: those stated with each.
-/
import Derived.Test.YtambkjnhfejfaaaGreatG28
import Derived.Deep.DeepCutAuto
namespace Go.Proofs.YtambkjnhfejfaaaGreat
open Go.RowKit
set_option linter.unusedVariables false
structure RBox (w : World) (g : Nat) (r : RowM) (A : Option Addr) (c : Nat) : Prop where
 c0 : w.cell? ⟨g, 0, none⟩ = some (.string r.key)
 c1 : w.cell? ⟨g, 1, none⟩ = some (.int .i64 r.ls)
 c2 : w.cell? ⟨g, 2, none⟩ = some (.string r.lp)
 c3 : w.cell? ⟨g, 3, none⟩ = some (.string r.val)
 c4 : w.cell? ⟨g, 4, none⟩ = some (.slice A r.recs.length c)
 f : ∀ o, w.frozen? ⟨g, o, none⟩ = false
theorem RBox.new (w : World) (r : RowM) (A : Option Addr) (c : Nat) : RBox (w.alloc (.cells #[.string r.key, .int .i64 r.ls, .string r.lp, .string r.val, .slice A r.recs.length c] 45)) w.heap.size r A c := by
 have h := heap_alloc_new w (.cells #[.string r.key, .int .i64 r.ls, .string r.lp, .string r.val, .slice A r.recs.length c] 45)
 exact ⟨by rw [Joins.cell_of_block h]; rfl, by rw [Joins.cell_of_block h]; rfl, by rw [Joins.cell_of_block h]; rfl, by rw [Joins.cell_of_block h]; rfl, by rw [Joins.cell_of_block h]; rfl, fun o => Joins.unfrozen_of_block h o⟩
theorem RBox.upto {w w' : World} {g : Nat} {r : RowM} {A : Option Addr} {c : Nat} (h : RBox w g r A c) (hb : Below w.heap.size w w') : RBox w' g r A c := by
 have hlt : g < w.heap.size := World.block_lt_of_cell? w _ h.c0
 have e : ∀ k, w'.cell? ⟨g, k, none⟩ = w.cell? ⟨g, k, none⟩ := fun k => hb.cell (p := ⟨g, k, none⟩) hlt
 exact ⟨(e _).trans h.c0, (e _).trans h.c1, (e _).trans h.c2, (e _).trans h.c3, (e _).trans h.c4, fun o => (hb.frozen (p := ⟨g, o, none⟩) hlt).trans (h.f o)⟩
theorem RBox.zero (w : World) : RBox (w.alloc (.cells #[.string ⟨#[]⟩, .int .i64 0, .string ⟨#[]⟩, .string ⟨#[]⟩, .slice none 0 0] 45)) w.heap.size ⟨⟨#[]⟩, 0, ⟨#[]⟩, ⟨#[]⟩, []⟩ none 0 := RBox.new w ⟨⟨#[]⟩, 0, ⟨#[]⟩, ⟨#[]⟩, []⟩ none 0
theorem RBox.set {w : World} {g : Nat} {r0 : RowM} {A0 : Option Addr} {k0 : Nat} (h : RBox w g r0 A0 k0) (r : RowM) (A : Option Addr) (c : Nat) : RBox (set5 w g 0 (.string r.key) (.int .i64 r.ls) (.string r.lp) (.string r.val) (.slice A r.recs.length c)) g r A c := by
 obtain ⟨a0, a1, a2, a3, a4⟩ := set5_at (o := 0) h.c0 h.c1 h.c2 h.c3 h.c4 (.string r.key) (.int .i64 r.ls) (.string r.lp) (.string r.val) (.slice A r.recs.length c)
 exact ⟨a0, a1, a2, a3, a4, fun o => ((set5_same w g 0 _ _ _ _ _).fr _).trans (h.f o)⟩
theorem bset5 {w W : World} (h : Below w.heap.size w W) {g : Nat} (hg : w.heap.size ≤ g) (v0 v1 v2 v3 v4 : Value) : Below w.heap.size w (set5 W g 0 v0 v1 v2 v3 v4) := ((((h.setCell hg _).setCell hg _).setCell hg _).setCell hg _).setCell hg _
theorem below_both {B : Nat} {w w' : World} (h : Below B w w') (p : Addr) (u : Value) : Below B (w.setCell p u) (w'.setCell p u) :=
 ⟨h.os, h.tape, h.output, by simpa using h.size, fun k hk => by simp only [World.setCell, Array.getElem?_modify]; rw [h.block k hk]⟩
theorem below_both5 {B : Nat} {w w' : World} (h : Below B w w') (g o : Nat) (v0 v1 v2 v3 v4 : Value) : Below B (set5 w g o v0 v1 v2 v3 v4) (set5 w' g o v0 v1 v2 v3 v4) :=
 below_both (below_both (below_both (below_both (below_both h _ _) _ _) _ _) _ _) _ _
theorem RefW.done {w Wf : World} {X : Nat → Prop} {gC : Nat} {RA RA' : Option Addr} {n rc rc' m cc C : Nat} {wo : WoM} (h : RefW w X gC RA n rc m cc wo) (hC : C < m) (c : ClM) (A : Option Addr) (k : Nat) (hok : ClOk c) (hk : c.ws.length ≤ k) (hws : WrsAt w (fun b => b < w.heap.size ∧ b ≠ gC ∧ ¬ X b) A c.ws)
 (hb : Below w.heap.size (set5 w gC (C * 5) (.int .i64 c.ph) (.int .i64 c.st) (.int .i64 c.cm) (.slice A c.ws.length k) (.int .i64 c.at_)) Wf) {rows : List RowM} (hc : rows.length ≤ rc') (hr : RowsAt Wf (fun b => b < Wf.heap.size ∧ b ≠ gC ∧ ¬ X b) RA' rows) {ck : Int} (hck : i64 ck) : RefW Wf X gC RA' rows.length rc' m cc ⟨rows, ck, wo.cls.set C c⟩ := by
 have h1 := h.setC hC c A k hok hk hws
 have hs : (set5 w gC (C * 5) (.int .i64 c.ph) (.int .i64 c.st) (.int .i64 c.cm) (.slice A c.ws.length k) (.int .i64 c.at_)).heap.size = w.heap.size := (set5_same w gC (C * 5) _ _ _ _ _).sz
 have h2 := h1.upto (w' := Wf) (by rw [hs]; exact hb)
 exact (h2.turn hc hr).tick hck
theorem ref_end {w wr W8 W9 : World} {X : Nat → Prop} {gC g' N B : Nat} {RA RA' : Option Addr} {n rc rc' m cc C : Nat} {wo : WoM} (h : RefW w X gC RA n rc m cc wo) (hX : ∀ b, X b → b < w.heap.size) (hB : B ≤ gC) (hbw : Below w.heap.size w wr) (hC : C < m) (c : ClM) (A : Option Addr) (k : Nat) (hok : ClOk c) (hk : c.ws.length ≤ k) (hws : WrsAt w (fun b => b < w.heap.size ∧ b ≠ gC ∧ ¬ X b) A c.ws)
 (hW8 : W8 = set5 wr gC (C * 5) (.int .i64 c.ph) (.int .i64 c.st) (.int .i64 c.cm) (.slice A c.ws.length k) (.int .i64 c.at_)) (hs9 : W9.heap.size = W8.heap.size) (hb9 : ∀ B w0, B ≤ g' → Below B w0 W8 → Below B w0 W9) (hk9 : ∀ q, q ≠ g' → W9.heap[q]? = W8.heap[q]?) (hg : w.heap.size ≤ g') (hgN : g' < N) {rows : List RowM}
 (hr : RowsAt wr (fun b => (b < w.heap.size ∧ b ≠ gC ∧ ¬ X b) ∨ (N ≤ b ∧ b < wr.heap.size)) RA' rows) (hc : rows.length ≤ rc') {ck : Int} (hck : i64 ck) : RefW W9 X gC RA' rows.length rc' m cc ⟨rows, ck, wo.cls.set C c⟩ ∧ Keeps B (· ≠ gC) w W9 := by
 have hlt := h.lt
 have hs8 : W8.heap.size = wr.heap.size := by rw [hW8]; exact (set5_same wr gC (C * 5) _ _ _ _ _).sz
 have o8 : ∀ b, b ≠ gC → W8.heap[b]? = wr.heap[b]? := fun b hb => by
  rw [hW8, Below.heap_setCell _ _ _ _ hb, Below.heap_setCell _ _ _ _ hb, Below.heap_setCell _ _ _ _ hb, Below.heap_setCell _ _ _ _ hb, Below.heap_setCell _ _ _ _ hb]
 have e9 : ∀ b, b ≠ gC → b ≠ g' → ∀ j, W9.cell? ⟨b, j, none⟩ = wr.cell? ⟨b, j, none⟩ := fun b h1 h2 j => World.cell?_of_block (w := wr) (a := ⟨b, j, none⟩) ((hk9 b h2).trans (o8 b h1))
 refine ⟨h.done hC c A k hok hk hws (hb9 _ _ hg ?_) hc (hr.rows (fun b hb => ?_) (fun b j hb => e9 b ?_ ?_ j)) hck, ⟨?_, fun b hb hne => ?_⟩⟩
 ·rw [hW8]; exact below_both5 hbw _ _ _ _ _ _ _
 ·have := hbw.size
  rcases hb with hb | hb
  ·exact ⟨by omega, hb.2⟩
  ·exact ⟨by omega, by omega, fun e => by have := hX _ e; omega⟩
 ·rcases hb with hb | hb
  ·exact hb.2.1
  ·omega
 ·rcases hb with hb | hb
  ·omega
  ·omega
 ·refine hb9 _ _ (by omega) ?_
  have hbB : Below B w wr := hbw.mono (by omega)
  rw [hW8]
  exact ((((hbB.setCell hB _).setCell hB _).setCell hB _).setCell hB _).setCell hB _
 ·exact ((hk9 b (by omega)).trans (o8 b hne)).trans (hbw.block b hb)
def WOut (X : Nat → Prop) (gC m cc B : Nat) (wo : WoM) (w : World) (v : Value) (w' : World) : Prop :=
 ∃ RA rc, v = woV RA wo.rows.length rc wo.clock (some ⟨gC, 0, none⟩) m cc ∧ RefW w' X gC RA wo.rows.length rc m cc wo ∧ Keeps B (· ≠ gC) w w'
theorem wr_valid {l : List WrM} (h : wrsB l = true) {x : WrM} (hx : x ∈ l) : keyB x.k = true ∧ x.v.size ≤ 20 := by
 obtain ⟨i, hi, rfl⟩ := List.getElem_of_mem hx
 simp only [wrsB, Bool.and_eq_true, List.all_eq_true, List.mem_range] at h
 have := h.2 i hi
 simp only [wrAtB, Bool.and_eq_true, decide_eq_true_eq] at this
 have e : l.getD i default = l[i] := by simp [List.getD, hi]
 rw [e] at this
 exact ⟨this.1.1, this.2⟩
theorem key_small {k : ByteArray} (h : keyB k = true) : k.size ≤ maxLen := by
 simp only [keyB, inB, Bool.and_eq_true, decide_eq_true_eq] at h
 unfold maxLen
 omega
theorem two_frozen {w W W' : World} {v0 v1 v2 z0 z1 z2 : Value} {t : TypeId} (h : W = (w.alloc (.cells #[v0, v1, v2] t)).alloc (.cells #[z0, z1, z2] t)) (hb : Below W.heap.size W W') : ∀ o, W'.frozen? ⟨w.heap.size, o, none⟩ = false := by
 have s1 : (w.alloc (.cells #[v0, v1, v2] t)).heap.size = w.heap.size + 1 := by simp
 have h1 : W.heap[w.heap.size]? = some (.cells #[v0, v1, v2] t) := by
  rw [h, Below.heap_alloc _ _ _ (by omega)]; exact heap_alloc_new w _
 have g1 := (hb.block w.heap.size (by rw [h]; simp; omega)).trans h1
 exact fun o => Joins.unfrozen_of_block g1 o
def FailInv (w W1 : World) (X : Nat → Prop) (gC m cc : Nat) (wo : WoM) (c : ClM) (k : Nat) (wr : World) : Prop :=
 ∃ RA rc, wr.cell? ⟨w.heap.size, 0, none⟩ = some (.slice RA (failRows c.st (c.ws.take k) wo.rows).length rc) ∧ wr.cell? ⟨w.heap.size, 1, none⟩ = some (.int .i64 wo.clock) ∧ wr.cell? ⟨w.heap.size, 2, none⟩ = some (.slice (some ⟨gC, 0, none⟩) m cc) ∧ (∀ o, wr.frozen? ⟨w.heap.size, o, none⟩ = false) ∧
  (failRows c.st (c.ws.take k) wo.rows).length ≤ rc ∧ RowsAt wr (fun b => (b < w.heap.size ∧ b ≠ gC ∧ ¬ X b) ∨ (W1.heap.size ≤ b ∧ b < wr.heap.size)) RA (failRows c.st (c.ws.take k) wo.rows) ∧ Keeps w.heap.size (fun b => b ≠ w.heap.size) W1 wr
section
variable {w : World} {X : Nat → Prop} {gC B : Nat} {RA : Option Addr} {n rc m cc C : Nat} {wo : WoM} {c : ClM}
set_option maxRecDepth 100000 in
set_option maxHeartbeats 4000000 in
theorem failed_any (h : RefW w X gC RA n rc m cc wo) (hX : ∀ b, X b → b < w.heap.size) (hB : B ≤ gC) (hc : wo.cls[C]? = some c) (hr : RowsOk wo.rows) (hst : 1 ≤ c.st) (hwv : wrsB c.ws = true) :
 Calls Tryz.prog 40 #[woV RA n rc wo.clock (some ⟨gC, 0, none⟩) m cc, .int .i64 C] w fun e w' => ∃ v, e = .returned v ∧ WOut X gC m cc B (failW wo C c) w v w' := by
 have hn := h.hn
 subst hn
 have hCm : C < m := by rw [h.hm]; exact (List.getElem?_eq_some_iff.1 hc).1
 obtain ⟨W0, hW0, hb0, hs0, hbox⟩ := two_worlds w (.slice RA wo.rows.length rc) (.int .i64 wo.clock) (.slice (some ⟨gC, 0, none⟩) m cc) (.slice none 0 0) (.int .i64 0) (.slice none 0 0) 25
 have hcl := h.cls C c hc
 obtain ⟨WA, wk, q3, hwk, hws⟩ := hcl.cw
 have q0 := hcl.cp
 have q1 := hcl.cs
 have q2 := hcl.cm
 have q4 := hcl.ca
 have hgl : gC < w.heap.size := h.lt
 have hcc := h.hcc
 have H := Lib.hid h
 have HXL := Lib.hid hX
 have HBOX := Lib.hid hbox
 have HW0 := Lib.hid hW0
 have HB0 := Lib.hid hb0
 have HR := Lib.hid hr
 have HWV := Lib.hid hwv
 have HCL := Lib.hid hc
 have HWS := Lib.hid hws
 have j0 : (0 : Int) ≤ (C : Int) := by omega
 have j1 : (C : Int) < (m : Int) := by omega
 clear h hX hb0 hW0 hbox hcl hr hwv hc hws
 go_enter Tryz.func40, Tryz.ntmps40
 go_wp2
 obtain ⟨W1, hW1, y0, y1, y2, y3, y4, hb1, hs1⟩ := box_new W0 (.int .i64 c.ph) (.int .i64 c.st) (.int .i64 c.cm) (.slice WA c.ws.length wk) (.int .i64 c.at_) 49
 rw [← HW0.out, ← hW1]
 have hsz1 : w.heap.size + 2 < W1.heap.size := by omega
 have hW01 : Below w.heap.size w W1 := below_next HB0.out hb1
 have HB1 := Lib.hid hb1
 have HW01 := Lib.hid hW01
 have HY := Lib.hid (show ∀ W : World, W.heap[W0.heap.size]? = W1.heap[W0.heap.size]? → W.cell? ⟨W0.heap.size, 1, none⟩ = some (.int .i64 c.st) ∧ W.cell? ⟨W0.heap.size, 3, none⟩ = some (.slice WA c.ws.length wk) from fun W e =>
  ⟨(World.cell?_of_block (w := W1) (a := ⟨W0.heap.size, 1, none⟩) e).trans y1, (World.cell?_of_block (w := W1) (a := ⟨W0.heap.size, 3, none⟩) e).trans y3⟩)
 rw [show w.heap.size + 1 + 1 = W0.heap.size by omega]
 obtain ⟨ix1, ix2, ix3, iz1, iz2, iz3, izf1, izf2, izf3, _, _⟩ := HBOX.out W1 hb1
 have HI := Lib.hid (show FailInv w W1 X gC m cc wo c 0 W1 from ⟨RA, rc, ix1, ix2, ix3, two_frozen HW0.out hb1, H.out.hrc, (rows_turn H.out.rows (fun b hb => hb.1) hW01 (fun b hb => .inl hb)), Keeps.refl _ _ _⟩)
 have HZ := Lib.hid (show ∀ W : World, W.heap[w.heap.size + 1]? = W1.heap[w.heap.size + 1]? → (W.cell? ⟨w.heap.size + 1, 0, none⟩ = some (.slice none 0 0) ∧ W.cell? ⟨w.heap.size + 1, 1, none⟩ = some (.int .i64 0) ∧ W.cell? ⟨w.heap.size + 1, 2, none⟩ = some (.slice none 0 0)) ∧ W.frozen? ⟨w.heap.size + 1, 0, none⟩ = false ∧ W.frozen? ⟨w.heap.size + 1, 1, none⟩ = false ∧ W.frozen? ⟨w.heap.size + 1, 2, none⟩ = false from fun W e =>
  ⟨⟨(World.cell?_of_block (w := W1) (a := ⟨w.heap.size + 1, 0, none⟩) e).trans iz1, (World.cell?_of_block (w := W1) (a := ⟨w.heap.size + 1, 1, none⟩) e).trans iz2, (World.cell?_of_block (w := W1) (a := ⟨w.heap.size + 1, 2, none⟩) e).trans iz3⟩, (World.frozen?_of_block (w := W1) (a := ⟨w.heap.size + 1, 0, none⟩) e).trans izf1, (World.frozen?_of_block (w := W1) (a := ⟨w.heap.size + 1, 1, none⟩) e).trans izf2, (World.frozen?_of_block (w := W1) (a := ⟨w.heap.size + 1, 2, none⟩) e).trans izf3⟩)
 have HS0 := Lib.hid hs0
 have HS1 := Lib.hid hs1
 clear hs0 hs1
 clear q0 q1 q2 q3 q4 hb1 hW1 y0 y1 y2 y3 y4 ix1 ix2 ix3 iz1 iz2 iz3 izf1 izf2 izf3 hW01
 have hwl : c.ws.length ≤ 4398046511104 := HWS.out.1
 go_loopw [6] (fun i wr => ∃ (k : Nat), k ≤ c.ws.length ∧ i = .int .i64 k ∧ FailInv w W1 X gC m cc wo c k wr) (fun i _ => c.ws.length - (intOf i).toNat)
 case atStart => exact ⟨0, Nat.zero_le _, rfl, HI.out⟩
 case round =>
  obtain ⟨k, hk, rfl, hin⟩ := hrel
  obtain ⟨RA', rc', x0, x1, x2, xf, hrc', hrows, hkeep⟩ := hin
  obtain ⟨y1, y3⟩ := HY.out wr (hkeep.z W0.heap.size (by have := HS1.out; omega) (by show W0.heap.size ≠ w.heap.size; have := HS0.out; omega))
  by_cases hm : k < c.ws.length
  ·obtain ⟨b, o, rfl, hbp, hwr⟩ := SeqAt.at_ HWS.out (getD_some (d := default) hm)
   obtain ⟨y, hy0⟩ : ∃ y, y = c.ws.getD k default := ⟨_, rfl⟩
   rw [← hy0] at hwr
   have u0 : wr.cell? ⟨b, o + k * 2, none⟩ = some (.string y.k) := ((hkeep.cell (b := b) (by have := HW01.out.size; have := hbp.1; omega) (by show b ≠ w.heap.size; have := hbp.1; omega) _).trans (HW01.out.cell (p := ⟨b, o + k * 2, none⟩) hbp.1)).trans hwr.k
   have HM := Lib.hid hm
   have j2 : (0 : Int) ≤ (k : Int) := by omega
   have j3 : (k : Int) < (c.ws.length : Int) := by omega
   clear hwr
   go_wp2
   obtain ⟨rows, hrowsd⟩ : ∃ rows, rows = failRows c.st (c.ws.take k) wo.rows := ⟨_, rfl⟩
   rw [← hrowsd] at hrows hrc' x0
   have hrok : RowsOk rows := by rw [hrowsd]; exact failRows_ok HR.out
   have hyv := wr_valid HWV.out (show y ∈ c.ws by rw [hy0]; exact getD_mem hm)
   have HPW := Lib.hid (show ∀ q : Nat, (q < w.heap.size ∧ q ≠ gC ∧ ¬ X q) ∨ (W1.heap.size ≤ q ∧ q < wr.heap.size) → q < wr.heap.size from fun q hq => by
    rcases hq with hq | hq
    ·have := HW01.out.size; have := hkeep.bel.size; omega
    ·exact hq.2)
   have HRO := Lib.hid (fun W (hW : Below wr.heap.size wr W) => rowOf_any y.k (fun b => (b < w.heap.size ∧ b ≠ gC ∧ ¬ X b) ∨ (W1.heap.size ≤ b ∧ b < wr.heap.size)) RA' (some ⟨gC, 0, none⟩) rows.length rc' m cc wo.clock rows W rfl (rows_turn hrows HPW.out hW (fun _ h => h)) (fun q hq => Nat.lt_of_lt_of_le (HPW.out q hq) hW.size) hrok.inc (key_small hyv.1))
   have HROK := Lib.hid hrok
   have HKEEP := Lib.hid hkeep
   have HROWS := Lib.hid hrows
   have HYV := Lib.hid hyv
   have HY0 := Lib.hid hy0
   have HRD := Lib.hid hrowsd
   clear hrok hkeep hrows hyv hy0 hrowsd
   have HC := Lib.hid (show ∀ W, Below wr.heap.size wr W → (W.cell? ⟨w.heap.size, 0, none⟩ = some (.slice RA' rows.length rc') ∧ W.cell? ⟨w.heap.size, 1, none⟩ = some (.int .i64 wo.clock) ∧ W.cell? ⟨w.heap.size, 2, none⟩ = some (.slice (some ⟨gC, 0, none⟩) m cc)) ∧ W.cell? ⟨W0.heap.size, 1, none⟩ = some (.int .i64 c.st) ∧ W.cell? ⟨W0.heap.size, 3, none⟩ = some (.slice (some ⟨b, o, none⟩) c.ws.length wk) ∧ W.cell? ⟨b, o + k * 2, none⟩ = some (.string y.k) from fun W hW =>
    ⟨⟨(hW.cell (p := ⟨w.heap.size, 0, none⟩) (World.block_lt_of_cell? wr _ x0)).trans x0, (hW.cell (p := ⟨w.heap.size, 1, none⟩) (World.block_lt_of_cell? wr _ x1)).trans x1, (hW.cell (p := ⟨w.heap.size, 2, none⟩) (World.block_lt_of_cell? wr _ x2)).trans x2⟩, (hW.cell (p := ⟨W0.heap.size, 1, none⟩) (World.block_lt_of_cell? wr _ y1)).trans y1, (hW.cell (p := ⟨W0.heap.size, 3, none⟩) (World.block_lt_of_cell? wr _ y3)).trans y3, (hW.cell (p := ⟨b, o + k * 2, none⟩) (World.block_lt_of_cell? wr _ u0)).trans u0⟩)
   go_cut [7, 8] (fun s7 s8 wx => ∃ g A3 c3, s7 = .pointer (some ⟨g, 0, none⟩) ∧ s8 = .bool (hasK (rowKeys rows) y.k) ∧ RBox wx g (look rows y.k) A3 c3 ∧ wr.heap.size ≤ g ∧ Below wr.heap.size wr wx)
   case first =>
    refine wp_region_held_drew (S := fun W => (W.cell? ⟨w.heap.size, 0, none⟩ = some (.slice RA' rows.length rc') ∧ W.cell? ⟨w.heap.size, 1, none⟩ = some (.int .i64 wo.clock) ∧ W.cell? ⟨w.heap.size, 2, none⟩ = some (.slice (some ⟨gC, 0, none⟩) m cc)) ∧ W.cell? ⟨W0.heap.size, 1, none⟩ = some (.int .i64 c.st) ∧ W.cell? ⟨W0.heap.size, 3, none⟩ = some (.slice (some ⟨b, o, none⟩) c.ws.length wk) ∧ W.cell? ⟨b, o + k * 2, none⟩ = some (.string y.k)) (by kernel_rfl) ?_ (fun hHeld => ?_)
    ·exact ⟨⟨x0, x1, x2⟩, y1, y3, u0⟩
    refine tq 0 ?_
    refine tq 1 ?_
    refine tq 2 ?_
    refine tq 3 ?_
    refine tq 4 ?_
    refine tq 5 ?_
    refine tq 6 ?_
    refine wpAnyH_ready (rs := [7, 11]) (by kernel_rfl) (by simp) ?_
    refine AllReadyH.cons (o := ?_) ?_ (fun K hK => ?_) ?_
    rotate_left 1
    ·(simp only [List.getElem?_toArray, List.getElem?_cons_zero, List.getElem?_cons_succ]; rfl)
    ·go_simp
     refine (HRO.out _ (below_drew (Below.refl _ _))).mono ?_
     rintro e w3 ⟨A3, c3, rfl, hh3, hb3⟩
     have HB03 := Lib.hid (show Below wr.heap.size wr w3 from below_next (below_drew (Below.refl _ _)) hb3)
     clear hb3 hHeld
     (refine hK.out _ _ ?_ (fun hHeld => ?_); exact HC.out w3 HB03.out; clear hK K)
     refine tq 8 ?_
     refine tq 9 ?_
     refine tq 10 ?_
     (refine cop 11 (h := fun K hK => ?_); go_simp)
     clear hHeld
     (refine hK.out _ _ ?_ (fun hHeld => ?_); exact HC.out _ (below_alloc HB03.out _); clear hK K)
     (refine cop 12 (h := fun K hK => ?_); go_simp)
     clear hHeld
     (refine hK.out _ _ ?_ (fun hHeld => ?_); exact HC.out _ (below_alloc HB03.out _); clear hK K)
     refine tq 13 ?_
     refine wpAnyH_done (by kernel_rfl) ?_ _
     clear hHeld
     go_wp2_with fail
     go_meet
     exact ⟨_, A3, c3, rfl, rfl, RBox.new w3 _ _ _, HB03.out.size, (below_alloc HB03.out _)⟩
    ·refine AllReadyH.cons (o := ?_) ?_ (fun K hK => ?_) AllReadyH.nil
     rotate_left 1
     ·(simp only [List.getElem?_toArray, List.getElem?_cons_zero, List.getElem?_cons_succ]; rfl)
     ·go_simp
      clear hHeld
      (refine hK.out _ _ ?_ (fun hHeld => ?_); exact HC.out _ (below_alloc (below_drew (Below.refl _ _)) _); clear hK K)
      (refine cop 7 (h := fun K hK => ?_); go_simp)
      refine (HRO.out _ (below_alloc (below_drew (Below.refl _ _)) _)).mono ?_
      rintro e w3 ⟨A3, c3, rfl, hh3, hb3⟩
      have hbx := (RBox.zero wr.drew).upto hb3
      have HBX := Lib.hid hbx
      obtain ⟨z0, z1, z2, z3, z4, zf⟩ := hbx
      have f0 := zf 0
      have f1 := zf 1
      have f2 := zf 2
      have f3 := zf 3
      have f4 := zf 4
      have HB03 := Lib.hid (show Below wr.heap.size wr w3 from below_next (below_alloc (below_drew (Below.refl _ _)) _) hb3)
      clear hb3 hHeld zf
      rw [show (World.drew wr).heap.size = wr.heap.size from rfl] at z0 z1 z2 z3 z4 f0 f1 f2 f3 f4 HBX
      (refine hK.out _ _ ?_ (fun hHeld => ?_); exact HC.out w3 HB03.out; clear hK K)
      refine tq 8 ?_
      refine tq 9 ?_
      refine tq 10 ?_
      (refine cop 12 (h := fun K hK => ?_); go_simp)
      clear hHeld
      (refine hK.out _ _ ?_ (fun hHeld => ?_); exact HC.out _ (bset5 HB03.out (Nat.le_refl _) _ _ _ _ _); clear hK K)
      refine tq 13 ?_
      refine wpAnyH_done (by kernel_rfl) ?_ _
      clear hHeld
      go_wp2_with fail
      go_meet
      exact ⟨_, A3, c3, rfl, rfl, (RBox.set HBX.out _ _ _), (Nat.le_refl _), (bset5 HB03.out (Nat.le_refl _) _ _ _ _ _)⟩
   case rest =>
    obtain ⟨g, A3, c3, rfl, rfl, hbx, hgw, hbwx⟩ := hcut
    obtain ⟨⟨s0, s1, s2⟩, s3, s4, s5⟩ := HC.out wc hbwx
    have HBW := Lib.hid hbwx
    have z1 := hbx.c1
    have HNX := Lib.hid (show failRows c.st (c.ws.take (k + 1)) wo.rows = (if (look rows y.k).ls = c.st then (chgRow rows y.k (undoOp c.st)).1 else rows) by
     have e : c.ws.take (k + 1) = c.ws.take k ++ [y] := take_next (by rw [HY0.out]; exact getD_some hm)
     rw [e, failRows_snoc, ← HRD.out, stat_look y.k hst]
     by_cases hq : (look rows y.k).ls = c.st
     ·rw [if_pos (stOf_one.2 hq), if_pos hq]
     ·rw [if_neg (fun e => hq (stOf_one.1 e)), if_neg hq])
    have hgx : w.heap.size < wc.heap.size := World.block_lt_of_cell? wc _ s0
    have hszc := hbwx.size
    have hgr : w.heap.size < wr.heap.size := World.block_lt_of_cell? wr _ x0
    clear hbwx hbx x0 x1 x2 y1 y3 u0
    by_cases hq : (look rows y.k).ls = c.st
    ·have hq' : ((look rows y.k).ls == c.st) = true := by simpa using hq
     rw [if_pos hq] at HNX
     have HPC := Lib.hid (show ∀ q : Nat, (q < w.heap.size ∧ q ≠ gC ∧ ¬ X q) ∨ (W1.heap.size ≤ q ∧ q < wr.heap.size) → q < wc.heap.size from fun q hq => Nat.lt_of_lt_of_le (HPW.out q hq) hszc)
     have HUN := Lib.hid (undo_any y.k c.st (fun b => (b < w.heap.size ∧ b ≠ gC ∧ ¬ X b) ∨ (W1.heap.size ≤ b ∧ b < wr.heap.size)) RA' (some ⟨gC, 0, none⟩) rows.length rc' m cc wo.clock rows wc.drew rfl hrc' (rows_turn HROWS.out HPW.out (below_drew HBW.out) (fun _ h => h)) HPC.out HROK.out (key_small HYV.out.1) HYV.out.1)
     obtain ⟨ls, hls⟩ : ∃ ls, ls = (look rows y.k).ls := ⟨_, rfl⟩
     rw [← hls] at z1 hq'
     clear hq hls
     have FZ := Lib.hid (show ∀ o, wc.frozen? ⟨w.heap.size, o, none⟩ = false from fun o => (HBW.out.frozen (p := ⟨w.heap.size, o, none⟩) hgr).trans (xf o))
     go_wp2
     refine wp_region_held_drew (S := fun W => W.cell? ⟨W0.heap.size, 1, none⟩ = some (.int .i64 c.st) ∧ W.cell? ⟨W0.heap.size, 3, none⟩ = some (.slice (some ⟨b, o, none⟩) c.ws.length wk) ∧ W.cell? ⟨b, o + k * 2, none⟩ = some (.string y.k)) (by kernel_rfl) ?_ (fun hHeld => ?_)
     ·exact ⟨s3, s4, s5⟩
     refine tq 1 ?_
     refine tq 2 ?_
     refine tq 3 ?_
     refine tq 4 ?_
     refine tq 5 ?_
     refine tq 6 ?_
     refine tq 7 ?_
     refine tq 8 ?_
     (refine cop 0 (h := fun K hK => ?_); go_simp)
     clear hHeld
     (refine hK.out _ _ ?_ (fun hHeld => ?_); exact ⟨s3, s4, s5⟩; clear hK K)
     (refine cop 9 (h := fun K hK => ?_); go_simp)
     refine HUN.out.mono ?_
     rintro e w5 ⟨RA5, rc5, rfl, hc5, hrows5, hb5⟩
     have hb5' : Below wc.heap.size wc w5 := below_next (below_drew (Below.refl _ _)) hb5
     have hbr5 := below_next HBW.out hb5'
     obtain ⟨⟨t0, t1, t2⟩, t3, t4, t5⟩ := HC.out w5 hbr5
     have HBR5 := Lib.hid hbr5
     have HR5 := Lib.hid hrows5
     have HC5 := Lib.hid hc5
     have f0 := (hb5'.frozen (p := ⟨w.heap.size, 0, none⟩) hgx).trans (FZ.out 0)
     have f1 := (hb5'.frozen (p := ⟨w.heap.size, 1, none⟩) hgx).trans (FZ.out 1)
     have f2 := (hb5'.frozen (p := ⟨w.heap.size, 2, none⟩) hgx).trans (FZ.out 2)
     have hgx5 : w.heap.size < w5.heap.size := World.block_lt_of_cell? w5 _ t0
     have hsz5 := hb5'.size
     clear hHeld s0 s1 s2 s3 s4 s5 hb5 hb5' hbr5 hrows5 hc5
     (refine hK.out _ _ ?_ (fun hHeld => ?_); exact ⟨t3, t4, t5⟩; clear hK K)
     refine tq 10 ?_
     refine tq 11 ?_
     refine tq 12 ?_
     (refine cop 13 (h := fun K hK => ?_); go_simp)
     obtain ⟨W9, hW9, q0, q1, q2, hs9, hb9, hk9⟩ := set_three t0 t1 t2 (.slice RA5 (chgRow rows y.k (undoOp c.st)).1.length rc5) (.int .i64 wo.clock) (.slice (some ⟨gC, 0, none⟩) m cc)
     rw [← hW9]
     clear hHeld
     have hne0 : W0.heap.size ≠ w.heap.size := by have := HS0.out; omega
     have hbne : b ≠ w.heap.size := by have := hbp.1; omega
     have e9 : ∀ q, q ≠ w.heap.size → ∀ j, W9.cell? ⟨q, j, none⟩ = w5.cell? ⟨q, j, none⟩ := fun q hq j => World.cell?_of_block (w := w5) (a := ⟨q, j, none⟩) (hk9 q hq)
     (refine hK.out _ _ ?_ (fun hHeld => ?_); exact ⟨(e9 _ hne0 _).trans t3, (e9 _ hne0 _).trans t4, (e9 _ hbne _).trans t5⟩; clear hK K)
     refine wpAnyH_done (by kernel_rfl) ?_ _
     clear hHeld
     have HNW := Lib.hid (show FailInv w W1 X gC m cc wo c (k + 1) W9 from by
      unfold FailInv
      rw [HNX.out]
      refine ⟨RA5, rc5, q0, q1, q2, fun o => ?_, HC5.out, HR5.out.rows (fun q hq => ?_) (fun q j hq => e9 q ?_ j), ?_⟩
      ·rw [hW9]; simp only [World.frozen?_setCell]
       exact (HBR5.out.frozen (p := ⟨w.heap.size, o, none⟩) hgr).trans (xf o)
      ·have := HKEEP.out.bel.size
       have := HBR5.out.size
       have hw1 := HKEEP.out.bel.size
       rcases hq with (hq | hq) | hq
       ·exact .inl hq
       ·exact .inr ⟨hq.1, by omega⟩
       ·have : wc.heap.size ≤ q := hq.1
        exact .inr ⟨by omega, by omega⟩
      ·have hh1 := HW01.out.size
       have hh2 := HKEEP.out.bel.size
       rcases hq with (hq | hq) | hq
       ·omega
       ·omega
       ·have : wc.heap.size ≤ q := hq.1
        omega
      ·rw [hW9]
       exact (((HKEEP.out.next HBR5.out (by have := HW01.out.size; omega)).set (Nat.le_refl _) (by simp) _).set (Nat.le_refl _) (by simp) _).set (Nat.le_refl _) (by simp) _)
     clear hW9 hb9 hk9 e9
     go_wp2
     go_roundw
     case rel => exact ⟨k + 1, by have := HM.out; omega, by have := HM.out; go_num, HNW.out⟩
     case measure => simp [intOf]; omega
    ·have hq' : ((look rows y.k).ls == c.st) = false := by simpa using hq
     rw [if_neg hq] at HNX
     have HNW := Lib.hid (show FailInv w W1 X gC m cc wo c (k + 1) wc from by
      unfold FailInv
      rw [HNX.out]
      refine ⟨RA', rc', s0, s1, s2, fun o => (HBW.out.frozen (p := ⟨w.heap.size, o, none⟩) hgr).trans (xf o), hrc', rows_turn HROWS.out HPW.out HBW.out (fun q hq => ?_), HKEEP.out.next HBW.out (by have := HW01.out.size; omega)⟩
      rcases hq with hq | hq
      ·exact .inl hq
      ·exact .inr ⟨hq.1, by omega⟩)
     go_wp2
     go_roundw
     case rel => exact ⟨k + 1, by have := HM.out; omega, by have := HM.out; go_num, HNW.out⟩
     case measure => simp [intOf]; omega
  ·have hke : k = c.ws.length := by omega
   subst hke
   rw [List.take_length] at hrows hrc' x0
   have hbw : Below w.heap.size w wr := HW01.out.trans hkeep.bel
   have hcl := (H.out.upto hbw).cls C c HCL.out
   have v0 := hcl.cp
   have v1 := hcl.cs
   have v2 := hcl.cm
   obtain ⟨_, _, v3, _, _⟩ := hcl.cw
   have v4 := hcl.ca
   have HROWS := Lib.hid hrows
   have HKEEP := Lib.hid hkeep
   have HBW := Lib.hid hbw
   have g1 := ((H.out.upto hbw).cell (C := C) hCm)
   obtain ⟨_, _, vf0⟩ := g1 0 (by omega)
   obtain ⟨_, _, vf1⟩ := g1 1 (by omega)
   obtain ⟨_, _, vf2⟩ := g1 2 (by omega)
   obtain ⟨_, _, vf3⟩ := g1 3 (by omega)
   obtain ⟨_, _, vf4⟩ := g1 4 (by omega)
   rw [Nat.add_zero] at vf0
   have hgr : w.heap.size < wr.heap.size := World.block_lt_of_cell? wr _ x0
   have hgC : gC < wr.heap.size := World.block_lt_of_cell? wr _ v0
   have hne1 : gC ≠ w.heap.size := by omega
   have hne2 : w.heap.size ≠ gC := by omega
   obtain ⟨rows, hrowsd⟩ : ∃ rows, rows = failRows c.st c.ws wo.rows := ⟨_, rfl⟩
   rw [← hrowsd] at x0 HROWS hrc'
   have HRD := Lib.hid hrowsd
   obtain ⟨⟨z0, z1, z2⟩, zf0, zf1, zf2⟩ := HZ.out wr (hkeep.z (w.heap.size + 1) (by have := HS1.out; have := HS0.out; omega) (by show w.heap.size + 1 ≠ w.heap.size; omega))
   have hgr1 : w.heap.size + 1 < wr.heap.size := World.block_lt_of_cell? wr _ z0
   have hne3 : gC ≠ w.heap.size + 1 := by omega
   have hne4 : w.heap.size + 1 ≠ gC := by omega
   clear hrows hkeep hbw hcl g1 hrowsd
   go_wp2
   obtain ⟨W8, hW8⟩ : ∃ W8, W8 = set5 wr gC (C * 5) (.int .i64 idleC.ph) (.int .i64 idleC.st) (.int .i64 idleC.cm) (.slice none idleC.ws.length 0) (.int .i64 idleC.at_) := ⟨_, rfl⟩
   have e8 : ∀ j, W8.cell? ⟨w.heap.size + 1, j, none⟩ = wr.cell? ⟨w.heap.size + 1, j, none⟩ := fun j => by rw [hW8]; exact (set5_same wr gC (C * 5) _ _ _ _ _).cell _ (fun e => hne4 e.1)
   obtain ⟨W9, hW9, q0, q1, q2, hs9, hb9, hk9⟩ := set_three ((e8 _).trans z0) ((e8 _).trans z1) ((e8 _).trans z2) (.slice RA' rows.length rc') (.int .i64 wo.clock) (.slice (some ⟨gC, 0, none⟩) m cc)
   have HFIN := ref_end (B := B) (N := W1.heap.size) H.out HXL.out hB HBW.out hCm idleC none 0 ⟨i64_zero, i64_zero, i64_zero, i64_zero⟩ (Nat.le_refl _) (SeqAt.nil_ _) hW8 hs9 hb9 hk9 (by omega) (by have := HS0.out; have := HS1.out; omega) HROWS.out hrc' H.out.ck
   rw [show ((((((((wr.setCell ⟨gC, C * 5, none⟩ (.int .i64 0)).setCell ⟨gC, C * 5 + 1, none⟩ (.int .i64 0)).setCell ⟨gC, C * 5 + 2, none⟩ (.int .i64 0)).setCell ⟨gC, C * 5 + 3, none⟩ (.slice none 0 0)).setCell ⟨gC, C * 5 + 4, none⟩ (.int .i64 0)).setCell ⟨w.heap.size + 1, 0, none⟩ (.slice RA' rows.length rc')).setCell ⟨w.heap.size + 1, 1, none⟩ (.int .i64 wo.clock)).setCell ⟨w.heap.size + 1, 2, none⟩ (.slice (some ⟨gC, 0, none⟩) m cc)) = W9 by rw [hW9, hW8]; rfl]
   exact bodyPost_ret (v := woV RA' rows.length rc' wo.clock (some ⟨gC, 0, none⟩) m cc) (by simp [results, Tryz.results40, go_sem, q0, q1, q2]) rfl
    ⟨_, rfl, by rw [failW, ← HRD.out]; exact ⟨RA', rc', rfl, HFIN.1, HFIN.2⟩⟩
end
def BoxIs (W : World) (g : Nat) (vals : List Value) : Prop := ∃ cur t, W.heap[g]? = some (.cells cur t (0, 0)) ∧ cur.toList = vals
section
variable {W W' : World} {g : Nat} {vals : List Value}
theorem BoxIs.lt (h : BoxIs W g vals) : g < W.heap.size := by obtain ⟨_, _, h, _⟩ := h; exact (Array.getElem?_eq_some_iff.1 h).1
theorem BoxIs.blk (h : BoxIs W g vals) (e : W'.heap[g]? = W.heap[g]?) : BoxIs W' g vals := by obtain ⟨cur, t, h1, h2⟩ := h; exact ⟨cur, t, e.trans h1, h2⟩
theorem BoxIs.upto (h : BoxIs W g vals) (hb : Below W.heap.size W W') : BoxIs W' g vals := h.blk (hb.block g h.lt)
theorem BoxIs.cell (h : BoxIs W g vals) (i : Nat) (v : Value) (e : vals[i]? = some v) : W.cell? ⟨g, i, none⟩ = some v := by
 obtain ⟨cur, t, h1, h2⟩ := h
 rw [Joins.cell_of_block h1, ← Array.getElem?_toList, h2]; exact e
theorem BoxIs.fr (h : BoxIs W g vals) (i : Nat) : W.frozen? ⟨g, i, none⟩ = false := by obtain ⟨cur, t, h1, h2⟩ := h; exact Joins.unfrozen_of_block h1 i
theorem BoxIs.other (h : BoxIs W g vals) {g' i : Nat} (v : Value) (hne : g ≠ g') : BoxIs (W.setCell ⟨g', i, none⟩ v) g vals := h.blk (Below.heap_setCell _ _ _ _ hne)
theorem BoxIs.set (h : BoxIs W g vals) (i : Nat) (v : Value) : BoxIs (W.setCell ⟨g, i, none⟩ v) g (vals.set i v) := by
 obtain ⟨cur, t, h1, h2⟩ := h
 refine ⟨cur.modify i (fun _ => v), t, ?_, ?_⟩
 ·simp only [World.setCell, Array.getElem?_modify, if_true, h1, Option.map_some]; rfl
 ·rw [← h2]
  apply List.ext_getElem?
  intro j
  rw [Array.getElem?_toList, Array.getElem?_modify, List.getElem?_set, Array.getElem?_toList]
  by_cases e : i = j
  ·subst e
   simp only [if_true, Array.length_toList]
   by_cases hj : i < cur.size
   ·simp [hj]
   ·simp [hj]
  ·simp [e]
theorem BoxIs.c3 {v0 v1 v2 : Value} (h : BoxIs W g [v0, v1, v2]) : W.cell? ⟨g, 0, none⟩ = some v0 ∧ W.cell? ⟨g, 1, none⟩ = some v1 ∧ W.cell? ⟨g, 2, none⟩ = some v2 := ⟨h.cell 0 _ rfl, h.cell 1 _ rfl, h.cell 2 _ rfl⟩
theorem BoxIs.c5 {v0 v1 v2 v3 v4 : Value} (h : BoxIs W g [v0, v1, v2, v3, v4]) : W.cell? ⟨g, 0, none⟩ = some v0 ∧ W.cell? ⟨g, 1, none⟩ = some v1 ∧ W.cell? ⟨g, 2, none⟩ = some v2 ∧ W.cell? ⟨g, 3, none⟩ = some v3 ∧ W.cell? ⟨g, 4, none⟩ = some v4 := ⟨h.cell 0 _ rfl, h.cell 1 _ rfl, h.cell 2 _ rfl, h.cell 3 _ rfl, h.cell 4 _ rfl⟩
theorem BoxIs.f3 (h : BoxIs W g vals) : W.frozen? ⟨g, 0, none⟩ = false ∧ W.frozen? ⟨g, 1, none⟩ = false ∧ W.frozen? ⟨g, 2, none⟩ = false := ⟨h.fr 0, h.fr 1, h.fr 2⟩
theorem BoxIs.f5 (h : BoxIs W g vals) : W.frozen? ⟨g, 0, none⟩ = false ∧ W.frozen? ⟨g, 1, none⟩ = false ∧ W.frozen? ⟨g, 2, none⟩ = false ∧ W.frozen? ⟨g, 3, none⟩ = false ∧ W.frozen? ⟨g, 4, none⟩ = false := ⟨h.fr 0, h.fr 1, h.fr 2, h.fr 3, h.fr 4⟩
theorem BoxIs.new (W : World) (cur : Array Value) (t : TypeId) : BoxIs (W.alloc (.cells cur t)) W.heap.size cur.toList := ⟨cur, t, heap_alloc_new W _, rfl⟩
end
theorem five_boxes (w : World) (c0 c1 c2 c3 c4 : Array Value) (t0 t1 t2 t3 t4 : TypeId) : ∃ W, W = ((((w.alloc (.cells c0 t0)).alloc (.cells c1 t1)).alloc (.cells c2 t2)).alloc (.cells c3 t3)).alloc (.cells c4 t4) ∧ Below w.heap.size w W ∧ W.heap.size = w.heap.size + 1 + 1 + 1 + 1 + 1 ∧
 BoxIs W w.heap.size c0.toList ∧ BoxIs W (w.heap.size + 1) c1.toList ∧ BoxIs W (w.heap.size + 1 + 1) c2.toList ∧ BoxIs W (w.heap.size + 1 + 1 + 1) c3.toList ∧ BoxIs W (w.heap.size + 1 + 1 + 1 + 1) c4.toList := by
 have al : ∀ (W : World) (o : Obj), Below W.heap.size W (W.alloc o) := fun W o => below_alloc (Below.refl _ _) o
 have s1 : (w.alloc (.cells c0 t0)).heap.size = w.heap.size + 1 := by simp
 have s2 : ((w.alloc (.cells c0 t0)).alloc (.cells c1 t1)).heap.size = w.heap.size + 1 + 1 := by simp
 have s3 : (((w.alloc (.cells c0 t0)).alloc (.cells c1 t1)).alloc (.cells c2 t2)).heap.size = w.heap.size + 1 + 1 + 1 := by simp
 have s4 : ((((w.alloc (.cells c0 t0)).alloc (.cells c1 t1)).alloc (.cells c2 t2)).alloc (.cells c3 t3)).heap.size = w.heap.size + 1 + 1 + 1 + 1 := by simp
 have b0 := BoxIs.new w c0 t0
 have b1 := BoxIs.new (w.alloc (.cells c0 t0)) c1 t1
 have b2 := BoxIs.new ((w.alloc (.cells c0 t0)).alloc (.cells c1 t1)) c2 t2
 have b3 := BoxIs.new (((w.alloc (.cells c0 t0)).alloc (.cells c1 t1)).alloc (.cells c2 t2)) c3 t3
 have b4 := BoxIs.new ((((w.alloc (.cells c0 t0)).alloc (.cells c1 t1)).alloc (.cells c2 t2)).alloc (.cells c3 t3)) c4 t4
 rw [s1] at b1
 rw [s2] at b2
 rw [s3] at b3
 rw [s4] at b4
 exact ⟨_, rfl, below_alloc (below_alloc (below_alloc (below_alloc (below_alloc (Below.refl _ _) _) _) _) _) _, by simp, (((b0.upto (al _ _)).upto (al _ _)).upto (al _ _)).upto (al _ _), ((b1.upto (al _ _)).upto (al _ _)).upto (al _ _), (b2.upto (al _ _)).upto (al _ _), b3.upto (al _ _), b4⟩
theorem ref_end2 {w wr W8 W9 : World} {X : Nat → Prop} {gC N B : Nat} {RA RA' : Option Addr} {n rc rc' m cc C : Nat} {wo : WoM} (h : RefW w X gC RA n rc m cc wo) (hX : ∀ b, X b → b < N) (hB : B ≤ gC) (hbw : Below w.heap.size w wr) (hC : C < m) (c : ClM) (A : Option Addr) (k : Nat) (hok : ClOk c) (hk : c.ws.length ≤ k) (hws : WrsAt w (fun b => b < w.heap.size ∧ b ≠ gC ∧ ¬ X b) A c.ws)
 (hW8 : W8 = set5 wr gC (C * 5) (.int .i64 c.ph) (.int .i64 c.st) (.int .i64 c.cm) (.slice A c.ws.length k) (.int .i64 c.at_)) (hb9 : Below w.heap.size W8 W9) (hN : w.heap.size ≤ N) (hk9 : ∀ q, N ≤ q → q < W8.heap.size → W9.heap[q]? = W8.heap[q]?) {rows : List RowM}
 (hr : RowsAt wr (fun b => (b < w.heap.size ∧ b ≠ gC ∧ ¬ X b) ∨ (N ≤ b ∧ b < wr.heap.size)) RA' rows) (hc : rows.length ≤ rc') {ck : Int} (hck : i64 ck) : RefW W9 X gC RA' rows.length rc' m cc ⟨rows, ck, wo.cls.set C c⟩ ∧ Keeps B (· ≠ gC) w W9 := by
 have hlt := h.lt
 have hs8 : W8.heap.size = wr.heap.size := by rw [hW8]; exact (set5_same wr gC (C * 5) _ _ _ _ _).sz
 have o8 : ∀ b, b ≠ gC → W8.heap[b]? = wr.heap[b]? := fun b hb => by
  rw [hW8, Below.heap_setCell _ _ _ _ hb, Below.heap_setCell _ _ _ _ hb, Below.heap_setCell _ _ _ _ hb, Below.heap_setCell _ _ _ _ hb, Below.heap_setCell _ _ _ _ hb]
 have hs9 := hb9.size
 have hsw := hbw.size
 have o9 : ∀ b, (b < w.heap.size ∧ b ≠ gC ∧ ¬ X b) ∨ (N ≤ b ∧ b < wr.heap.size) → W9.heap[b]? = wr.heap[b]? := fun b hb => by
  rcases hb with hb | hb
  ·exact (hb9.block b hb.1).trans (o8 b hb.2.1)
  ·exact (hk9 b hb.1 (by omega)).trans (o8 b (by omega))
 refine ⟨h.done hC c A k hok hk hws (Below.trans ?_ hb9) hc (hr.rows (fun b hb => ?_) (fun b j hb => World.cell?_of_block (w := wr) (a := ⟨b, j, none⟩) (o9 b hb))) hck, ⟨?_, fun b hb hne => ?_⟩⟩
 ·rw [hW8]; exact below_both5 hbw _ _ _ _ _ _ _
 ·rcases hb with hb | hb
  ·exact ⟨by omega, hb.2⟩
  ·exact ⟨by omega, by omega, fun e => by have := hX _ e; omega⟩
 ·have hbB : Below B w wr := hbw.mono (by omega)
  have h8 : Below B w W8 := by
   rw [hW8]
   exact ((((hbB.setCell hB _).setCell hB _).setCell hB _).setCell hB _).setCell hB _
  exact h8.trans (hb9.mono (by omega))
 ·exact ((hb9.block b hb).trans (o8 b hne)).trans (hbw.block b hb)
section
variable {α : Type} {C : Cells α}
set_option maxRecDepth 100000 in
theorem app_big {t e ty : TypeId} {i0 : TypeInfo} {z : Value} {bytes mx : Nat} (hu : Tryz.prog.underlying t = some (.slice e)) (hi0 : Tryz.prog.info? e = some i0) (hz0 : i0.zero = some z) (hz1 : i0.size = C.sz) (hz2 : i0.bytes = bytes) (hz3 : z.cells.size = C.sz)
 (W : World) (base m c : Nat) (v : Value) (l0 : List α) (A : Option Addr) (l : List α) (P : Nat → Prop) (hown : C.Owns W base e v l0) (hm : m = l.length) (hl : SeqAt P C.sz mx (C.At W) A l)
 (hbd : l0.length + l.length ≤ 140737488355328) (hby : (l0.length + l.length) * bytes ≤ 140737488355328) (hbase : base ≤ W.heap.size) :
 ∃ v' w', (Builtin.append_ #[t, t] ty #[v, .slice A m c]).run Tryz.prog W = .ok v' w' ∧ ∃ A' c', v' = .slice A' (l0.length + l.length) c' ∧ C.Owns w' base e (.slice A' (l0.length + l.length) c') (l0 ++ l) ∧ W.grownBy w' v.ownBlock ∧ ((Value.slice A' (l0.length + l.length) c').ownBlock = v.ownBlock ∨ (Value.slice A' (l0.length + l.length) c').ownBlock = some W.heap.size) := by
 subst hm
 have key : ∃ v' w', (Builtin.append_ #[t, t] ty #[v, .slice A l.length c]).run Tryz.prog W = .ok v' w' ∧ C.Owns w' base e v' (l0 ++ l) ∧ W.grownBy w' v.ownBlock ∧ (v'.ownBlock = v.ownBlock ∨ v'.ownBlock = some W.heap.size) := by
  cases A with
  | none =>
   have h0 : l = [] := by
    rcases Nat.eq_zero_or_pos l.length with h0 | h0
    ·exact List.eq_nil_of_length_eq_zero h0
    ·obtain ⟨b, o, h, _⟩ := hl.2 h0; cases h
   subst h0
   refine ⟨v, W, ?_, by simpa using hown, World.grownBy.refl W _, .inl rfl⟩
   rcases hown.2 with ⟨rfl, h0⟩ | ⟨g, cap, cur, rfl, _, _, hnc, _⟩
   ·simp [Builtin.append_, run_underlying hu, sizeOf, typeInfo, hi0, Builtin.lenOf, Builtin.firstCells]
   ·simp [Builtin.append_, run_underlying hu, sizeOf, typeInfo, hi0, Builtin.lenOf, Builtin.firstCells, hnc, storeCells]
  | some a =>
   have hsrc : ∀ j u, (C.all l)[j]? = some u → W.cell? (a.add j) = some u := by
    intro j u hj
    have hjl := (List.getElem?_eq_some_iff.1 hj).1
    rw [C.all_length] at hjl
    have hl0 : 0 < l.length := by
     rcases Nat.eq_zero_or_pos l.length with h0 | h0
     ·rw [h0, Nat.zero_mul] at hjl; omega
     ·exact h0
    obtain ⟨b, o, hA, _, _⟩ := hl.2 hl0
    injection hA with hA
    subst hA
    exact Cells.src hl j u hj
   obtain ⟨v', w', h1, h2, h3, _, h5⟩ := run_append_own_at (P := Tryz.prog) W base t ty e i0 _ C.sz bytes hu hi0 hz0 hz1 hz2 hz3 C.pos v l0.length (C.all l0) hown a l.length c (C.all l)
    (C.all_length l) hsrc (C.all_one l) (by simp only [maxLen]; omega) hby hbase
   refine ⟨v', w', h1, ?_, h3, h5⟩
   unfold Cells.Owns
   rw [List.length_append, C.all_append]
   exact h2
 obtain ⟨v', w', h1, h2, h3, h4⟩ := key
 obtain ⟨A', c', hv, _⟩ := h2.at_ (mx := 140737488355328) (by simpa using hbd)
 subst hv
 rw [List.length_append] at h1 h2 h4
 exact ⟨_, w', h1, A', c', rfl, h2, h3, h4⟩
end
theorem app_row_big {ty : TypeId} (W : World) (base c : Nat) (A : Option Addr) (l : List RowX) (x : RowX) (hown : OwnsRows W base (.slice A l.length c) l) (hbd : (l.length + 1) * 80 ≤ 140737488355328) (hbase : base ≤ W.heap.size) :
 ∃ v' w', (Builtin.append_ #[22, 22] ty #[.slice A l.length c, .slice (some ⟨W.heap.size, 0, none⟩) 1 1]).run Tryz.prog (W.alloc (.cells #[.string x.1.key, .int .i64 x.1.ls, .string x.1.lp, .string x.1.val, .slice x.2.1 x.1.recs.length x.2.2] 45)) = .ok v' w' ∧ ∃ A' c', v' = .slice A' (l.length + 1) c' ∧ OwnsRows w' base (.slice A' (l.length + 1) c') (l ++ [x]) ∧
  (W.alloc (.cells #[.string x.1.key, .int .i64 x.1.ls, .string x.1.lp, .string x.1.val, .slice x.2.1 x.1.recs.length x.2.2] 45)).grownBy w' (Value.slice A l.length c).ownBlock ∧ ((Value.slice A' (l.length + 1) c').ownBlock = (Value.slice A l.length c).ownBlock ∨ (Value.slice A' (l.length + 1) c').ownBlock = some (W.heap.size + 1)) := by
 obtain ⟨i0, hi0, hz0, hz1, hz2⟩ := info_parts row_info
 obtain ⟨v', w', h1, A', c', h2, h3, h4, h5⟩ := app_big (C := rowCells) (ty := ty) Tryz.underlying22 hi0 hz0 hz1 hz2 rfl (W.alloc (.cells (rowCells.cs x).toArray 45)) base 1 1 (.slice A l.length c) l _ [x] _ (hown.kept (below_alloc (Below.refl _ _) _)) rfl (one_seq (C := rowCells) (e := 45) W x) (by simp; omega) (by simpa using hbd) (by simp; omega)
 exact ⟨v', w', h1, A', c', h2, h3, h4, by simpa using h5⟩
theorem app_cl_big {ty : TypeId} (W : World) (base c : Nat) (A : Option Addr) (l : List ClX) (x : ClX) (hown : OwnsCls W base (.slice A l.length c) l) (hbd : (l.length + 1) * 56 ≤ 140737488355328) (hbase : base ≤ W.heap.size) :
 ∃ v' w', (Builtin.append_ #[23, 23] ty #[.slice A l.length c, .slice (some ⟨W.heap.size, 0, none⟩) 1 1]).run Tryz.prog (W.alloc (.cells #[.int .i64 x.1.ph, .int .i64 x.1.st, .int .i64 x.1.cm, .slice x.2.1 x.1.ws.length x.2.2, .int .i64 x.1.at_] 49)) = .ok v' w' ∧ ∃ A' c', v' = .slice A' (l.length + 1) c' ∧ OwnsCls w' base (.slice A' (l.length + 1) c') (l ++ [x]) ∧
  (W.alloc (.cells #[.int .i64 x.1.ph, .int .i64 x.1.st, .int .i64 x.1.cm, .slice x.2.1 x.1.ws.length x.2.2, .int .i64 x.1.at_] 49)).grownBy w' (Value.slice A l.length c).ownBlock ∧ ((Value.slice A' (l.length + 1) c').ownBlock = (Value.slice A l.length c).ownBlock ∨ (Value.slice A' (l.length + 1) c').ownBlock = some (W.heap.size + 1)) := by
 obtain ⟨i0, hi0, hz0, hz1, hz2⟩ := info_parts cl_info
 obtain ⟨v', w', h1, A', c', h2, h3, h4, h5⟩ := app_big (C := clCells) (ty := ty) Tryz.underlying23 hi0 hz0 hz1 hz2 rfl (W.alloc (.cells (clCells.cs x).toArray 49)) base 1 1 (.slice A l.length c) l _ [x] _ (hown.kept (below_alloc (Below.refl _ _) _)) rfl (one_seq (C := clCells) (e := 49) W x) (by simp; omega) (by simpa using hbd) (by simp; omega)
 exact ⟨v', w', h1, A', c', h2, h3, h4, by simpa using h5⟩
theorem app_wrs_big {ty : TypeId} (W : World) (A : Option Addr) (l : List WrM) (c : Nat) (hl : WrsAt W (· < W.heap.size) A l) :
 ∃ v' w', (Builtin.append_ #[47, 47] ty #[.slice none 0 0, .slice A l.length c]).run Tryz.prog W = .ok v' w' ∧ ∃ A' c', v' = .slice A' l.length c' ∧ l.length ≤ c' ∧ WrsAt w' (fun b => W.heap.size ≤ b ∧ b < w'.heap.size) A' l ∧ Below W.heap.size W w' := by
 obtain ⟨i0, hi0, hz0, hz1, hz2⟩ := info_parts wr_info
 have hlen := hl.1
 obtain ⟨v', w', h1, A', c', h2, h3, h4, h5⟩ := app_big (C := wrCells) (ty := ty) Tryz.underlying47 hi0 hz0 hz1 hz2 rfl W W.heap.size l.length c (.slice none 0 0) [] A l (· < W.heap.size) (Cells.Owns.nil _ _ _) rfl (SeqAt.mono hl (fun _ h => h) (fun b o x _ _ hx => fun j v hv => by
  match j, hv with
  | 0, hv => cases hv; exact hx.k
  | 1, hv => cases hv; exact hx.v)) (by simp; omega) (by simp; omega) (Nat.le_refl _)
 simp only [List.length_nil, Nat.zero_add, List.nil_append] at h2 h3
 obtain ⟨A2, c2, hv, hc, hs⟩ := h3.at_ (mx := 4398046511104) hlen
 injection hv with e1 _ e3
 subst e1 e3
 refine ⟨v', w', h1, A', c', h2, hc, SeqAt.mono hs (fun _ h => h) (fun b o x hx _ h => ⟨h 0 _ rfl, h 1 _ rfl, SeqAt.wrOk hl x hx⟩), ?_⟩
 exact ⟨h4.os, h4.tape, h4.output, h4.size, fun k hk => h4.block k hk (by simp [Value.ownBlock])⟩
theorem boxes_three (w : World) (c0 c1 c2 : Array Value) (t0 t1 t2 : TypeId) : ∃ W, W = ((w.alloc (.cells c0 t0)).alloc (.cells c1 t1)).alloc (.cells c2 t2) ∧ Below w.heap.size w W ∧ W.heap.size = w.heap.size + 1 + 1 + 1 ∧
 BoxIs W w.heap.size c0.toList ∧ BoxIs W (w.heap.size + 1) c1.toList ∧ BoxIs W (w.heap.size + 1 + 1) c2.toList := by
 have al : ∀ (W : World) (o : Obj), Below W.heap.size W (W.alloc o) := fun W o => below_alloc (Below.refl _ _) o
 have s1 : (w.alloc (.cells c0 t0)).heap.size = w.heap.size + 1 := by simp
 have s2 : ((w.alloc (.cells c0 t0)).alloc (.cells c1 t1)).heap.size = w.heap.size + 1 + 1 := by simp
 have b0 := BoxIs.new w c0 t0
 have b1 := BoxIs.new (w.alloc (.cells c0 t0)) c1 t1
 have b2 := BoxIs.new ((w.alloc (.cells c0 t0)).alloc (.cells c1 t1)) c2 t2
 rw [s1] at b1
 rw [s2] at b2
 exact ⟨_, rfl, below_alloc (below_alloc (below_alloc (Below.refl _ _) _) _) _, by simp, (b0.upto (al _ _)).upto (al _ _), b1.upto (al _ _), b2⟩
theorem RecsAt.upto' {w W : World} {A : Option Addr} {l : List RecM} (h : RecsAt w w.heap.size A l) (hb : Below w.heap.size w W) : RecsAt W W.heap.size A l :=
 ⟨h.1, h.2.1, fun h0 => by
  obtain ⟨b, o, hA, hb', hc⟩ := h.2.2 h0
  exact ⟨b, o, hA, Nat.lt_of_lt_of_le hb' hb.size, fun i r hr => (hc i r hr).keep fun k => hb.cell (p := ⟨b, k, none⟩) hb'⟩⟩
def CopyR (w W0 : World) (N g2 : Nat) (rows : List RowM) (ck : Int) (k : Nat) (wr : World) : Prop :=
 ∃ A c, ∃ L : List RowX, BoxIs wr g2 [.slice A L.length c, .int .i64 ck, .slice none 0 0] ∧ L.map Prod.fst = rows.take k ∧ OwnsRows wr N (.slice A L.length c) L ∧ (∀ x ∈ L, RowHas wr (fun b => N ≤ b ∧ b < wr.heap.size ∧ (Value.slice A L.length c).ownBlock ≠ some b) x) ∧ Keeps w.heap.size (· ≠ g2) W0 wr
theorem copyR_step {w W0 wr w3 w6 : World} {N g2 k : Nat} {rows : List RowM} {ck : Int} {A A3 A6 : Option Addr} {c c3 c6 : Nat} {L : List RowX} {y : RowM} {o : Obj} (hN : N = W0.heap.size) (hg2 : w.heap.size ≤ g2) (hg2N : g2 < N)
 (hb2 : BoxIs wr g2 [.slice A L.length c, .int .i64 ck, .slice none 0 0]) (hL : L.map Prod.fst = rows.take k) (hown : OwnsRows wr N (.slice A L.length c) L) (hh : ∀ x ∈ L, RowHas wr (fun b => N ≤ b ∧ b < wr.heap.size ∧ (Value.slice A L.length c).ownBlock ≠ some b) x) (hk : Keeps w.heap.size (· ≠ g2) W0 wr) (hy : rows[k]? = some y)
 (hb3 : Below wr.heap.size wr w3) (hr : RecsAt w3 w3.heap.size A3 y.recs) (hn : NewC wr.heap.size A3 y.recs.length c3) (hok : RowOk y) (hown6 : OwnsRows w6 N (.slice A6 (L.length + 1) c6) (L ++ [(y, A3, c3)])) (hg : (w3.alloc o).grownBy w6 (Value.slice A L.length c).ownBlock) (ho : (Value.slice A6 (L.length + 1) c6).ownBlock = (Value.slice A L.length c).ownBlock ∨ (Value.slice A6 (L.length + 1) c6).ownBlock = some (w3.heap.size + 1)) :
 CopyR w W0 N g2 rows ck (k + 1) (w6.setCell ⟨g2, 0, none⟩ (.slice A6 (L.length + 1) c6)) := by
 have hlt := World.ownsRow.lt hown
 have hal : Below w3.heap.size w3 (w3.alloc o) := below_alloc (Below.refl _ _) o
 have hsal : (w3.alloc o).heap.size = w3.heap.size + 1 := by simp
 have hs36 := hg.size
 have hswr : N ≤ wr.heap.size := by rw [hN]; exact hk.bel.size
 have hs3 := hb3.size
 have hblk : ∀ b, b < w3.heap.size → (Value.slice A L.length c).ownBlock ≠ some b → w6.heap[b]? = w3.heap[b]? := fun b h1 h2 => (hg.block b (by omega) (fun e => h2 e.symm)).trans (hal.block b h1)
 have hgo : (Value.slice A L.length c).ownBlock ≠ some g2 := fun e => by have := (hlt g2 e).1; omega
 have hs7 : (w6.setCell ⟨g2, 0, none⟩ (.slice A6 (L.length + 1) c6)).heap.size = w6.heap.size := by simp
 have hb7 : ∀ b, b ≠ g2 → (w6.setCell ⟨g2, 0, none⟩ (.slice A6 (L.length + 1) c6)).heap[b]? = w6.heap[b]? := fun b h => Below.heap_setCell _ _ _ _ h
 have hl1 : (L ++ [(y, A3, c3)]).length = L.length + 1 := by simp
 have hcell : ∀ b, N ≤ b → b < w3.heap.size → (Value.slice A L.length c).ownBlock ≠ some b → ∀ j, (w6.setCell ⟨g2, 0, none⟩ (.slice A6 (L.length + 1) c6)).cell? ⟨b, j, none⟩ = w3.cell? ⟨b, j, none⟩ := fun b h1 h2 h3 j => World.cell?_of_block (w := w3) (a := ⟨b, j, none⟩) ((hb7 b (by omega)).trans (hblk b h2 h3))
 have hno : ∀ b, b < w3.heap.size → (Value.slice A L.length c).ownBlock ≠ some b → (Value.slice A6 (L.length + 1) c6).ownBlock ≠ some b := fun b h1 h2 e => by
  rcases ho with ho | ho
  ·rw [ho] at e; exact h2 e
  ·rw [ho] at e; injection e with e; omega
 refine ⟨A6, c6, L ++ [(y, A3, c3)], ?_, ?_, ?_, fun x hx => ?_, ?_⟩
 ·rw [hl1]
  have h6 : BoxIs w6 g2 [.slice A L.length c, .int .i64 ck, .slice none 0 0] := hb2.blk ((hblk g2 (by omega) hgo).trans (hb3.block g2 (by omega)))
  exact h6.set 0 _
 ·rw [List.map_append, hL, take_next hy]; rfl
 ·rw [hl1]; exact hown6.blk fun g h1 h2 => hb7 g (by omega)
 ·rw [hl1]
  rcases List.mem_append.1 hx with hx | hx
  ·exact (hh x hx).mono (fun b hb => ⟨hb.1, by have h2 : b < wr.heap.size := hb.2.1; omega, hno b (by have h2 : b < wr.heap.size := hb.2.1; omega) hb.2.2⟩) (fun b j hb => (hcell b hb.1 (by have h2 : b < wr.heap.size := hb.2.1; omega) hb.2.2 j).trans (hb3.cell (p := ⟨b, j, none⟩) hb.2.1))
  ·rw [List.mem_singleton.1 hx]
   have hnew : ∀ b, wr.heap.size ≤ b → (Value.slice A L.length c).ownBlock ≠ some b := fun b h1 e => by have := (hlt b e).2; omega
   exact ⟨hn.2, (hr.in_ (P := fun b => wr.heap.size ≤ b ∧ b < w3.heap.size) (fun ad hA hb => ⟨hn.1 ad hA, hb⟩)).mono (fun b hb => ⟨by have h1 : wr.heap.size ≤ b := hb.1; omega, by have h2 : b < w3.heap.size := hb.2; omega, hno b hb.2 (hnew b hb.1)⟩) (fun b j hb => hcell b (by have h1 : wr.heap.size ≤ b := hb.1; omega) hb.2 (hnew b hb.1) j), hok⟩
 ·have hk6 : Keeps w.heap.size (· ≠ g2) W0 w6 := by
   have hNw : w.heap.size ≤ N := by omega
   refine ⟨?_, fun b hb hne => ?_⟩
   ·have h3 : Below w.heap.size W0 w3 := hk.bel.trans (hb3.mono (by omega))
    exact ⟨(hg.os.trans hal.os).trans h3.os, (hg.tape.trans hal.tape).trans h3.tape, (hg.output.trans hal.output).trans h3.output, Nat.le_trans h3.size (by omega), fun b hb => (hblk b (by omega) (fun e => by have := (hlt b e).1; omega)).trans (h3.block b hb)⟩
   ·exact (hblk b (by omega) (fun e => by have := (hlt b e).1; omega)).trans ((hb3.block b (by omega)).trans (hk.z b hb hne))
  exact ⟨hk6.bel.setCell hg2 _, fun b hb hne => (hb7 b hne).trans (hk6.z b hb hne)⟩
def CopyC (w W0 : World) (N g2 : Nat) (vr : Value) (rows : List ClM) (ck : Int) (k : Nat) (wr : World) : Prop :=
 ∃ A c, ∃ L : List ClX, BoxIs wr g2 [vr, .int .i64 ck, .slice A L.length c] ∧ L.map Prod.fst = rows.take k ∧ OwnsCls wr N (.slice A L.length c) L ∧ (∀ x ∈ L, ClHas wr (fun b => N ≤ b ∧ b < wr.heap.size ∧ (Value.slice A L.length c).ownBlock ≠ some b) x) ∧ Keeps w.heap.size (· ≠ g2) W0 wr
theorem copyC_step {w W0 wr w3 w6 : World} {N g2 k : Nat} {vr : Value} {rows : List ClM} {ck : Int} {A A3 A6 : Option Addr} {c c3 c6 : Nat} {L : List ClX} {y : ClM} {o : Obj} (hN : N = W0.heap.size) (hg2 : w.heap.size ≤ g2) (hg2N : g2 < N)
 (hb2 : BoxIs wr g2 [vr, .int .i64 ck, .slice A L.length c]) (hL : L.map Prod.fst = rows.take k) (hown : OwnsCls wr N (.slice A L.length c) L) (hh : ∀ x ∈ L, ClHas wr (fun b => N ≤ b ∧ b < wr.heap.size ∧ (Value.slice A L.length c).ownBlock ≠ some b) x) (hk : Keeps w.heap.size (· ≠ g2) W0 wr) (hy : rows[k]? = some y)
 (hb3 : Below wr.heap.size wr w3) (hr : WrsAt w3 (fun b => wr.heap.size ≤ b ∧ b < w3.heap.size) A3 y.ws) (hn : y.ws.length ≤ c3) (hok : ClOk y) (hown6 : OwnsCls w6 N (.slice A6 (L.length + 1) c6) (L ++ [(y, A3, c3)])) (hg : (w3.alloc o).grownBy w6 (Value.slice A L.length c).ownBlock) (ho : (Value.slice A6 (L.length + 1) c6).ownBlock = (Value.slice A L.length c).ownBlock ∨ (Value.slice A6 (L.length + 1) c6).ownBlock = some (w3.heap.size + 1)) :
 CopyC w W0 N g2 vr rows ck (k + 1) (w6.setCell ⟨g2, 2, none⟩ (.slice A6 (L.length + 1) c6)) := by
 have hlt := World.ownsRow.lt hown
 have hal : Below w3.heap.size w3 (w3.alloc o) := below_alloc (Below.refl _ _) o
 have hsal : (w3.alloc o).heap.size = w3.heap.size + 1 := by simp
 have hs36 := hg.size
 have hswr : N ≤ wr.heap.size := by rw [hN]; exact hk.bel.size
 have hs3 := hb3.size
 have hblk : ∀ b, b < w3.heap.size → (Value.slice A L.length c).ownBlock ≠ some b → w6.heap[b]? = w3.heap[b]? := fun b h1 h2 => (hg.block b (by omega) (fun e => h2 e.symm)).trans (hal.block b h1)
 have hgo : (Value.slice A L.length c).ownBlock ≠ some g2 := fun e => by have := (hlt g2 e).1; omega
 have hs7 : (w6.setCell ⟨g2, 2, none⟩ (.slice A6 (L.length + 1) c6)).heap.size = w6.heap.size := by simp
 have hb7 : ∀ b, b ≠ g2 → (w6.setCell ⟨g2, 2, none⟩ (.slice A6 (L.length + 1) c6)).heap[b]? = w6.heap[b]? := fun b h => Below.heap_setCell _ _ _ _ h
 have hl1 : (L ++ [(y, A3, c3)]).length = L.length + 1 := by simp
 have hcell : ∀ b, N ≤ b → b < w3.heap.size → (Value.slice A L.length c).ownBlock ≠ some b → ∀ j, (w6.setCell ⟨g2, 2, none⟩ (.slice A6 (L.length + 1) c6)).cell? ⟨b, j, none⟩ = w3.cell? ⟨b, j, none⟩ := fun b h1 h2 h3 j => World.cell?_of_block (w := w3) (a := ⟨b, j, none⟩) ((hb7 b (by omega)).trans (hblk b h2 h3))
 have hno : ∀ b, b < w3.heap.size → (Value.slice A L.length c).ownBlock ≠ some b → (Value.slice A6 (L.length + 1) c6).ownBlock ≠ some b := fun b h1 h2 e => by
  rcases ho with ho | ho
  ·rw [ho] at e; exact h2 e
  ·rw [ho] at e; injection e with e; omega
 refine ⟨A6, c6, L ++ [(y, A3, c3)], ?_, ?_, ?_, fun x hx => ?_, ?_⟩
 ·rw [hl1]
  have h6 : BoxIs w6 g2 [vr, .int .i64 ck, .slice A L.length c] := hb2.blk ((hblk g2 (by omega) hgo).trans (hb3.block g2 (by omega)))
  exact h6.set 2 _
 ·rw [List.map_append, hL, take_next hy]; rfl
 ·rw [hl1]; exact hown6.blk fun g h1 h2 => hb7 g (by omega)
 ·rw [hl1]
  rcases List.mem_append.1 hx with hx | hx
  ·exact (hh x hx).mono (fun b hb => ⟨hb.1, by have h2 : b < wr.heap.size := hb.2.1; omega, hno b (by have h2 : b < wr.heap.size := hb.2.1; omega) hb.2.2⟩) (fun b j hb => (hcell b hb.1 (by have h2 : b < wr.heap.size := hb.2.1; omega) hb.2.2 j).trans (hb3.cell (p := ⟨b, j, none⟩) hb.2.1))
  ·rw [List.mem_singleton.1 hx]
   have hnew : ∀ b, wr.heap.size ≤ b → (Value.slice A L.length c).ownBlock ≠ some b := fun b h1 e => by have := (hlt b e).2; omega
   exact ⟨hn, SeqAt.wrs hr (fun b hb => ⟨by have h1 : wr.heap.size ≤ b := hb.1; omega, by have h2 : b < w3.heap.size := hb.2; omega, hno b hb.2 (hnew b hb.1)⟩) (fun b j hb => hcell b (by have h1 : wr.heap.size ≤ b := hb.1; omega) hb.2 (hnew b hb.1) j), hok⟩
 ·have hk6 : Keeps w.heap.size (· ≠ g2) W0 w6 := by
   have hNw : w.heap.size ≤ N := by omega
   refine ⟨?_, fun b hb hne => ?_⟩
   ·have h3 : Below w.heap.size W0 w3 := hk.bel.trans (hb3.mono (by omega))
    exact ⟨(hg.os.trans hal.os).trans h3.os, (hg.tape.trans hal.tape).trans h3.tape, (hg.output.trans hal.output).trans h3.output, Nat.le_trans h3.size (by omega), fun b hb => (hblk b (by omega) (fun e => by have := (hlt b e).1; omega)).trans (h3.block b hb)⟩
   ·exact (hblk b (by omega) (fun e => by have := (hlt b e).1; omega)).trans ((hb3.block b (by omega)).trans (hk.z b hb hne))
  exact ⟨hk6.bel.setCell hg2 _, fun b hb hne => (hb7 b hne).trans (hk6.z b hb hne)⟩
end Go.Proofs.YtambkjnhfejfaaaGreat
