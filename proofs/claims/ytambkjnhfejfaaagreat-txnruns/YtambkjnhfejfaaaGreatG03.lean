/-
  Contracts of functions of the program and words for memory, several texts in one: TFindPure, TCopyWalk, TInsWalk. Conditions: those stated with each.
-/
import Derived.Test.YtambkjnhfejfaaaGreatG02
import Derived.StillTailTactics
namespace Go.Proofs.YtambkjnhfejfaaaGreat
open Go.RowKit
def lowIx (ks : List ByteArray) (key : ByteArray) : Nat := (ks.takeWhile (fun k => ltS k key)).length
def Inc (ks : List ByteArray) : Prop := ks.Pairwise (fun a b => ltS a b = true)
theorem lowIx_le (ks : List ByteArray) (key : ByteArray) : lowIx ks key ≤ ks.length := (List.takeWhile_prefix _).length_le
theorem lowIx_eq {ks : List ByteArray} {key : ByteArray} {i : Nat} (hi : i ≤ ks.length) (h1 : ∀ j, j < i → ltS (ks.getD j default) key = true) (h2 : i < ks.length → ltS (ks.getD i default) key = false) : lowIx ks key = i := by
 induction ks generalizing i with
 | nil => simp [lowIx] at *; omega
 | cons k ks ih =>
  cases i with
  | zero =>
   have := h2 (by simp)
   simp [List.getD] at this
   simp [lowIx, this]
  | succ i =>
   have h0 := h1 0 (by omega)
   simp [List.getD] at h0
   have := ih (i := i) (by simpa using hi) (fun j hj => by have := h1 (j + 1) (by omega); simpa [List.getD] using this) (fun h => by have := h2 (by simpa using h); simpa [List.getD] using this)
   simp only [lowIx, List.takeWhile_cons, h0, if_true, List.length_cons] at this ⊢
   omega
theorem lowIx_lt {ks : List ByteArray} {key : ByteArray} {j : Nat} (h : j < lowIx ks key) : ltS (ks.getD j default) key = true := by
 induction ks generalizing j with
 | nil => simp [lowIx] at h
 | cons k ks ih =>
  simp only [lowIx, List.takeWhile_cons] at h
  split at h
  ·rename_i hk
   cases j with
   | zero => simpa [List.getD] using hk
   | succ j => have := ih (j := j) (by simpa [lowIx] using h); simpa [List.getD] using this
  ·simp at h
theorem lowIx_ge {ks : List ByteArray} {key : ByteArray} (h : lowIx ks key < ks.length) : ltS (ks.getD (lowIx ks key) default) key = false := by
 induction ks with
 | nil => simp at h
 | cons k ks ih =>
  by_cases hk : ltS k key = true
  ·have e : lowIx (k :: ks) key = lowIx ks key + 1 := by simp [lowIx, hk]
   rw [e] at h ⊢
   have := ih (by simpa using h)
   simpa [List.getD] using this
  ·have e : lowIx (k :: ks) key = 0 := by simp [lowIx, hk]
   rw [e]
   simpa [List.getD] using hk
theorem inc_lt {ks : List ByteArray} (h : Inc ks) {i j : Nat} (hij : i < j) (hj : j < ks.length) : ltS (ks.getD i default) (ks.getD j default) = true := by
 have := List.pairwise_iff_getElem.1 h i j (by omega) hj hij
 simpa [List.getD, hj, show i < ks.length by omega] using this
def hasK (ks : List ByteArray) (key : ByteArray) : Bool := decide (lowIx ks key < ks.length) && decide (ks.getD (lowIx ks key) default = key)
theorem hasK_iff {ks : List ByteArray} (h : Inc ks) {key : ByteArray} : hasK ks key = true ↔ key ∈ ks := by
 constructor
 ·intro h'
  simp only [hasK, Bool.and_eq_true, decide_eq_true_eq] at h'
  rw [← h'.2]
  simp [List.getD, h'.1]
 ·intro h'
  obtain ⟨i, hi, rfl⟩ := List.getElem_of_mem h'
  have e : lowIx ks ks[i] = i := lowIx_eq (by omega) (fun j hj => by
   have := inc_lt h hj hi
   simpa [List.getD, hi, show j < ks.length by omega] using this) (fun _ => by simp [List.getD, hi, ltS_irrefl])
  simp [hasK, e, hi, List.getD]
set_option maxHeartbeats 2000000 in
theorem copyWo_any (wo : WoM) (RA : Option Addr) (n rc : Nat) (CA : Option Addr) (m cc : Nat) (w : World) (hin : WoIn w RA n rc CA m cc wo) :
 Calls Tryz.prog 13 #[woV RA n rc wo.clock CA m cc] w (WoOut wo w) := by
 have hn := hin.hn
 have hm := hin.hm
 subst hn hm
 have hlr := hin.rows.1
 have hlc := hin.cls.1
 obtain ⟨Z, hZ, hmk⟩ := make_rows wo.rows.length hlr
 obtain ⟨Z', hzz, hZ', hmk'⟩ := make_cls wo.cls.length hlc
 clear hzz
 obtain ⟨W2, hW2⟩ : ∃ W2, W2 = (w.alloc (.cells #[.slice RA wo.rows.length rc, .int .i64 wo.clock, .slice CA wo.cls.length cc] 25)).alloc (.cells #[.slice none 0 0, .int .i64 0, .slice none 0 0] 25) := ⟨_, rfl⟩
 have hb2 : Below w.heap.size w W2 := by rw [hW2]; repeat (first | with_reducible exact Below.refl _ _ | assumption | with_reducible apply below_alloc | with_reducible apply below_drew | with_reducible apply below_drewN | (with_reducible apply below_next; rotate_left; assumption))
 have hs2 : W2.heap.size = w.heap.size + 2 := by rw [hW2]; simp
 have HW := Lib.hid hW2
 have HI := Lib.hid hin
 have HB2 := Lib.hid hb2
 have HS2 := Lib.hid hs2
 have HZ := Lib.hid hZ
 have HZ' := Lib.hid hZ'
 clear hW2 hin hb2 hs2 hZ hZ'
 go_enter Tryz.func13, Tryz.ntmps13
 go_wp2
 go_loopw [16] (fun i wr => ∃ k : Nat, k ≤ wo.rows.length ∧ i = .int .i64 k ∧ RowsDone (w.heap.size + 2) wo.rows k wr ∧ Below (w.heap.size + 2) W2 wr) (fun i _ => wo.rows.length - (intOf i).toNat)
 case atStart =>
  refine ⟨0, Nat.zero_le _, rfl, ⟨⟨Z, ?_, HZ.out⟩, fun i r hi => by omega⟩, ?_⟩
  ·have h := heap_alloc_new W2 (.cells Z 45)
   rw [HS2.out] at h
   rw [← HW.out]; exact h
  ·rw [← HW.out]; exact (Below.refl _ _).alloc (by rw [HS2.out]; exact Nat.le_refl _) _
 case round =>
  obtain ⟨k, hk, rfl, hd, hb⟩ := hrel
  have hbw : Below w.heap.size w wr := HB2.out.trans (hb.mono (by omega))
  by_cases hm : k < wo.rows.length
  ·obtain ⟨b, o, rfl, hbb, hr⟩ := (HI.out.upto hbw).rows.at_ (getD_some (d := default) hm)
   obtain ⟨r, hr0⟩ : ∃ r, r = wo.rows.getD k default := ⟨_, rfl⟩
   rw [← hr0] at hr
   have c0 := hr.ck
   have c1 := hr.cs
   have c2 := hr.cp
   have c3 := hr.cv
   obtain ⟨A, c, c4, hc, hri⟩ := hr.rowIn (fun _ h => h)
   have HR := Lib.hid hr0
   have HD := Lib.hid hd
   have HB := Lib.hid hb
   have HRI := Lib.hid hri
   have hok := Lib.hid hr.ok
   have hC := Lib.hid hc
   have j0 : (0 : Int) ≤ (k : Int) := by omega
   obtain ⟨key, ls, lp, val, recs⟩ := r
   dsimp only at c0 c1 c2 c3 c4
   clear hr0 hd hb hri hr hc hbw
   go_wp2_with fail
   refine (copy_any key lp val ls A recs.length c recs _ rfl (HRI.out.l.upto (below_alloc (Below.refl _ _) _))).mono ?_
   rintro e w1 ⟨A1, c1, rfl, hr1, hnew, hb1⟩
   have hwr1 : Below wr.heap.size wr w1 := below_next (below_alloc (Below.refl _ _) _) hb1
   have hd1 := HD.out.upto hwr1
   obtain ⟨v0, e0, f0⟩ : ∃ v, w1.cell? ⟨w.heap.size + 1 + 1, k * 5, none⟩ = some v ∧ w1.frozen? ⟨w.heap.size + 1 + 1, k * 5, none⟩ = false := hd1.cell hm 0 (by omega)
   obtain ⟨v1, e1, f1⟩ : ∃ v, w1.cell? ⟨w.heap.size + 1 + 1, k * 5 + 1, none⟩ = some v ∧ w1.frozen? ⟨w.heap.size + 1 + 1, k * 5 + 1, none⟩ = false := hd1.cell hm 1 (by omega)
   obtain ⟨v2, e2, f2⟩ : ∃ v, w1.cell? ⟨w.heap.size + 1 + 1, k * 5 + 2, none⟩ = some v ∧ w1.frozen? ⟨w.heap.size + 1 + 1, k * 5 + 2, none⟩ = false := hd1.cell hm 2 (by omega)
   obtain ⟨v3, e3, f3⟩ : ∃ v, w1.cell? ⟨w.heap.size + 1 + 1, k * 5 + 3, none⟩ = some v ∧ w1.frozen? ⟨w.heap.size + 1 + 1, k * 5 + 3, none⟩ = false := hd1.cell hm 3 (by omega)
   obtain ⟨v4, e4, f4⟩ : ∃ v, w1.cell? ⟨w.heap.size + 1 + 1, k * 5 + 4, none⟩ = some v ∧ w1.frozen? ⟨w.heap.size + 1 + 1, k * 5 + 4, none⟩ = false := hd1.cell hm 4 (by omega)
   have HD1 := Lib.hid hd1
   have HR1 := Lib.hid hr1
   have HN1 := Lib.hid hnew
   have HWR := Lib.hid hwr1
   have hC2 := Lib.hid (show recs.length ≤ c1 from hnew.2)
   clear hd1 hr1 hnew hb1 hwr1
   go_wp2
   go_roundw
   case rel =>
    refine ⟨k + 1, by omega, by go_num, ?_, ?_⟩
    ·refine HD1.out.step (r := ⟨key, ls, lp, val, recs⟩) (HR.out ▸ getD_some hm) HR1.out (fun ad h => ?_) hC2.out hok.out
     have := HN1.out.1 ad h
     have h2 := HD.out.lt
     have h3 : (wr.alloc (.cells #[.string key, .int .i64 ls, .string lp, .string val, .slice A recs.length c] 45)).heap.size = wr.heap.size + 1 := by simp
     omega
    ·refine below_set5 ?_ (Nat.le_refl _) _ _ _ _ _ _
     exact HB.out.trans (HWR.out.mono (by have := HD.out.lt; omega))
   case measure => simp [intOf]; omega
  ·have hke : k = wo.rows.length := by omega
   subst hke
   have HD := Lib.hid hd
   have HB := Lib.hid hb
   have HBW := Lib.hid hbw
   have g1 : wr.cell? ⟨w.heap.size, 1, none⟩ = some (.int .i64 wo.clock) := by rw [hb.cell (p := ⟨w.heap.size, 1, none⟩) (by show w.heap.size < w.heap.size + 2; omega), HW.out]; simp
   have g2 : wr.cell? ⟨w.heap.size, 2, none⟩ = some (.slice CA wo.cls.length cc) := by rw [hb.cell (p := ⟨w.heap.size, 2, none⟩) (by show w.heap.size < w.heap.size + 2; omega), HW.out]; simp
   have hsw : w.heap.size + 2 < wr.heap.size := hd.lt
   have hsw1 : w.heap.size + 1 < wr.heap.size := by omega
   have hsw0 : w.heap.size < wr.heap.size := by omega
   clear hd hb hbw
   obtain ⟨w3, rfl⟩ : ∃ w3, w3 = wr := ⟨_, rfl⟩
   go_wp2
   go_loopw [34] (fun i wr => ∃ (k : Nat) (wb : Nat → Nat), k ≤ wo.cls.length ∧ i = .int .i64 k ∧ ClsDone w3.heap.size wo.cls k wb wr ∧ Below w3.heap.size w3 wr) (fun i _ => wo.cls.length - (intOf i).toNat)
   case atStart =>
    refine ⟨0, fun _ => 0, Nat.zero_le _, rfl, ⟨⟨Z', heap_alloc_new w3 (.cells Z' 49), HZ'.out⟩, fun i r hi => by omega, fun i hi => by omega, fun i j _ hj => by omega, fun i o hi => by omega, fun i c hi => by omega⟩, below_alloc (Below.refl _ _) _⟩
   case round =>
    obtain ⟨k, wb, hk, rfl, hd, hb⟩ := hrel
    have hbw : Below w.heap.size w wr := below_next HBW.out hb
    by_cases hm : k < wo.cls.length
    ·obtain ⟨b, o, rfl, hbb, hr⟩ := (HI.out.upto hbw).cls.at_ (getD_some (d := default) hm)
     obtain ⟨r, hr0⟩ : ∃ r, r = wo.cls.getD k default := ⟨_, rfl⟩
     rw [← hr0] at hr
     have c0 := hr.cp
     have c1 := hr.cs
     have c2 := hr.cm
     obtain ⟨A, c, c3, hc, hri⟩ := hr.cw
     have c4 := hr.ca
     have HR := Lib.hid hr0
     have HD := Lib.hid hd
     have HB := Lib.hid hb
     have HRI := Lib.hid hri
     have hok := Lib.hid hr.ok
     have hC := Lib.hid hc
     have j0 : (0 : Int) ≤ (k : Int) := by omega
     obtain ⟨ph, st, cm, ws, at_⟩ := r
     dsimp only at c0 c1 c2 c3 c4
     clear hr0 hd hb hri hr hc hbw
     go_wp2_with fail
     have hal : Below wr.heap.size wr (wr.alloc (.cells #[.int .i64 ph, .int .i64 st, .int .i64 cm, .slice A ws.length c, .int .i64 at_] 49)) := below_alloc (Below.refl _ _) _
     refine (copyClient_any ⟨ph, st, cm, ws, at_⟩ A ws.length c _ rfl (SeqAt.wrs HRI.out (below_mem hal).1 (below_mem hal).2)).mono ?_
     rintro e w1 ⟨rfl, hr1, hlt1, hf1, hb1⟩
     dsimp only at hr1
     have hwr1 : Below wr.heap.size wr w1 := below_next hal hb1
     have hsa : (wr.alloc (.cells #[.int .i64 ph, .int .i64 st, .int .i64 cm, .slice A ws.length c, .int .i64 at_] 49)).heap.size = wr.heap.size + 1 := by simp
     rw [hsa] at hr1 hlt1
     have hf1' : ∀ o, w1.frozen? ⟨wr.heap.size + 1 + 2, o, none⟩ = false := fun o => by have := hf1 o; rwa [hsa] at this
     have hd1 := HD.out.upto hwr1
     obtain ⟨v0, e0, f0⟩ : ∃ v, w1.cell? ⟨w3.heap.size, k * 5, none⟩ = some v ∧ w1.frozen? ⟨w3.heap.size, k * 5, none⟩ = false := hd1.cell hm 0 (by omega)
     obtain ⟨v1, e1, f1⟩ : ∃ v, w1.cell? ⟨w3.heap.size, k * 5 + 1, none⟩ = some v ∧ w1.frozen? ⟨w3.heap.size, k * 5 + 1, none⟩ = false := hd1.cell hm 1 (by omega)
     obtain ⟨v2, e2, f2⟩ : ∃ v, w1.cell? ⟨w3.heap.size, k * 5 + 2, none⟩ = some v ∧ w1.frozen? ⟨w3.heap.size, k * 5 + 2, none⟩ = false := hd1.cell hm 2 (by omega)
     obtain ⟨v3, e3, f3⟩ : ∃ v, w1.cell? ⟨w3.heap.size, k * 5 + 3, none⟩ = some v ∧ w1.frozen? ⟨w3.heap.size, k * 5 + 3, none⟩ = false := hd1.cell hm 3 (by omega)
     obtain ⟨v4, e4, f4⟩ : ∃ v, w1.cell? ⟨w3.heap.size, k * 5 + 4, none⟩ = some v ∧ w1.frozen? ⟨w3.heap.size, k * 5 + 4, none⟩ = false := hd1.cell hm 4 (by omega)
     have HD1 := Lib.hid hd1
     have HR1 := Lib.hid hr1
     have HF1 := Lib.hid hf1'
     have HLT := Lib.hid hlt1
     have HWR := Lib.hid hwr1
     clear hd1 hr1 hf1 hf1' hlt1 hsa hb1 hwr1 hal
     go_wp2
     go_roundw
     case rel =>
      refine ⟨k + 1, fun i => if i = k then wr.heap.size + 1 + 2 else wb i, by omega, by go_num, ?_, ?_⟩
      ·refine HD1.out.step (b := wr.heap.size + 1 + 2) (c := ⟨ph, st, cm, ws, at_⟩) (HR.out ▸ getD_some hm) HR1.out ?_ HLT.out ?_ HF1.out hok.out
       ·have := HD.out.lt
        omega
       ·intro i hi
        have := (HD.out.wB i hi).2
        omega
      ·refine below_set5 ?_ (Nat.le_refl _) _ _ _ _ _ _
       exact HB.out.trans (HWR.out.mono (by have := HB.out.size; omega))
     case measure => simp [intOf]; omega
    ·have hke : k = wo.cls.length := by omega
     subst hke
     have hz : Below (w.heap.size + 2) W2 wr := HB.out.trans (hb.mono (by omega))
     have q1 : wr.cell? ⟨w.heap.size, 1, none⟩ = some (.int .i64 wo.clock) := (hb.cell (p := ⟨w.heap.size, 1, none⟩) hsw0).trans g1
     have z0 : wr.cell? ⟨w.heap.size + 1, 0, none⟩ = some (.slice none 0 0) := by rw [hz.cell (p := ⟨w.heap.size + 1, 0, none⟩) (by show w.heap.size + 1 < w.heap.size + 2; omega), HW.out]; simp
     have z1 : wr.cell? ⟨w.heap.size + 1, 1, none⟩ = some (.int .i64 0) := by rw [hz.cell (p := ⟨w.heap.size + 1, 1, none⟩) (by show w.heap.size + 1 < w.heap.size + 2; omega), HW.out]; simp
     have z2 : wr.cell? ⟨w.heap.size + 1, 2, none⟩ = some (.slice none 0 0) := by rw [hz.cell (p := ⟨w.heap.size + 1, 2, none⟩) (by show w.heap.size + 1 < w.heap.size + 2; omega), HW.out]; simp
     have y : ∀ o, wr.frozen? ⟨w.heap.size + 1, o, none⟩ = false := by
      intro o
      rw [hz.frozen (p := ⟨w.heap.size + 1, o, none⟩) (by show w.heap.size + 1 < w.heap.size + 2; omega), HW.out]
      have := World.frozen?_alloc_new (w.alloc (.cells #[.slice RA wo.rows.length rc, .int .i64 wo.clock, .slice CA wo.cls.length cc] 25)) #[.slice none 0 0, .int .i64 0, .slice none 0 0] 25 o
      rwa [show (w.alloc (.cells #[.slice RA wo.rows.length rc, .int .i64 wo.clock, .slice CA wo.cls.length cc] 25)).heap.size = w.heap.size + 1 from by simp] at this
     have y0 := y 0
     have y1 := y 1
     have y2 := y 2
     have HD' := Lib.hid hd
     have HB' := Lib.hid hb
     clear hd hb hbw hz y
     go_wp2
     have hs := set3_same wr (w.heap.size + 1) (.slice (some ⟨w.heap.size + 1 + 1, 0, none⟩) wo.rows.length wo.rows.length) (.int .i64 wo.clock) (.slice (some ⟨w3.heap.size, 0, none⟩) wo.cls.length wo.cls.length)
     have hg : ∀ g, w.heap.size + 1 < g → (set3 wr (w.heap.size + 1) (.slice (some ⟨w.heap.size + 1 + 1, 0, none⟩) wo.rows.length wo.rows.length) (.int .i64 wo.clock) (.slice (some ⟨w3.heap.size, 0, none⟩) wo.cls.length wo.cls.length)).heap[g]? = wr.heap[g]? := fun g hg => set3_heap _ _ _ _ _ (by omega)
     refine bodyPost_ret (v := woV (some ⟨w.heap.size + 1 + 1, 0, none⟩) wo.rows.length wo.rows.length wo.clock (some ⟨w3.heap.size, 0, none⟩) wo.cls.length wo.cls.length) (by simp [results, Tryz.results13, go_sem, z0, z1, z2]) rfl ⟨w.heap.size + 1 + 1, w3.heap.size, wb, rfl, ?_, ?_, fun i c hc => ?_⟩
     ·refine core_of ((HD.out.upto HB'.out).same hs (fun p e => by show p.block < _; rw [e]; omega) (hg _ (by omega))) (HD'.out.same hs (fun p e => by rw [e]; exact hsw1) (hg _ hsw1)) (by omega) (by omega) (fun i r hr => ?_) hlr hlc HI.out.ck
      refine (HD.out.rows i r (List.getElem?_eq_some_iff.1 hr).1 hr).mono (fun b hb => hb) (fun b k hb => ?_) (fun k _ _ => ?_)
      ·rw [hs.cell _ (fun e => by have : b = w.heap.size + 1 := e; omega)]
       exact HB'.out.cell (p := ⟨b, k, none⟩) hb.2
      ·rw [hs.cell _ (fun e => by have : w.heap.size + 2 = w.heap.size + 1 := e; omega)]
       exact HB'.out.cell (p := ⟨w.heap.size + 2, k, none⟩) hsw
     ·have hbw : Below w.heap.size w wr := below_next HBW.out HB'.out
      repeat (refine below_set ?_ (by simp) _)
      exact hbw
     ·exact (hs.cell _ (fun e => by have : w3.heap.size = w.heap.size + 1 := e; omega)).trans (HD'.out.tight i c (List.getElem?_eq_some_iff.1 hc).1 hc)
def InsOut (sz : Nat) (cs vs : List Value) (n i : Nat) (w : World) (e : Ending) (w' : World) : Prop :=
 ∃ g c, e = .returned (.slice (some ⟨g, 0, none⟩) (n + 1) c) ∧ n + 1 ≤ c ∧ w.heap.size ≤ g ∧ g < w'.heap.size ∧ CellsAt w' g 0 (cs.take (i * sz) ++ vs ++ cs.drop (i * sz)) ∧ (∀ o, w'.frozen? ⟨g, o, none⟩ = false) ∧ Below w.heap.size w w'
theorem int_under : Tryz.prog.underlying 3 = some (.int .i64) := Tryz.underlying3
set_option maxRecDepth 100000 in
set_option maxHeartbeats 2000000 in
theorem insRow_mid (b bv n i : Nat) (cs vs : List Value) (w : World) (hcl : cs.length = n * 5) (hvl : vs.length = 5) (hc : CellsAt w b 0 cs) (hv : CellsAt w bv 0 vs) (hbw : b < w.heap.size) (hbvw : bv < w.heap.size) (hc1 : ∀ v ∈ cs, v.oneCell' = true) (hv1 : ∀ v ∈ vs, v.oneCell' = true) (hi : i < n) (hn : n ≤ 1000) :
 Calls Tryz.prog 94 #[.slice (some ⟨b, 0, none⟩) n n, .int .i64 i, .slice (some ⟨bv, 0, none⟩) 1 1] w (InsOut 5 cs vs n i w) := by
 obtain ⟨i0, hi0, hz0, hz1, hz2⟩ := info_parts row_info
 obtain ⟨c, W2, W3, W4, hr⟩ := ins_runs (t := 22) (ti := 3) Tryz.underlying22 int_under hi0 hz0 hz1 hz2 rfl (by omega) (by omega) w b bv n i cs vs hcl hvl hc hv hbw hbvw hc1 hv1 hi hn
 have R1 := Lib.hid hr.r1
 have r2 := hr.r2
 have r3 := hr.r3
 have r3' := hr.r3
 rw [show n + 1 - (i + 1) = n - i from by omega] at r3'
 have hcap := hr.cap
 have HR := Lib.hid hr
 have e1 : (((i : Nat) : Int) == (n : Int)) = false := by simp; omega
 have e0 : (0 : Int) ≤ (i : Int) := by omega
 have e2 : (i : Int) < (n : Int) := by omega
 have e3 : ¬ i = n := by omega
 have e4 : ¬ i = c := by omega
 have e5 : ¬ i + 1 = c := by omega
 have e6 : i ≤ c := by omega
 have e7 : i + 1 ≤ n + 1 := by omega
 have e8 : i ≤ n + 1 := by omega
 clear hr hc hv hc1 hv1 hz0 hz1 hz2 hi0
 go_enter Tryz.func94, Tryz.ntmps94
 go_wp2_with (at_builtin; refine wpList_append_to rfl (.tmp 34) (.tmp 39) 22 3 rfl _ _ _ rfl rfl R1.out ?_)
 have w1 : IntKind.i64.wrap ((i : Int) + 1) = (i : Int) + 1 := IntWalk.i64_in _ (by omega)
 have w2 : (0 : Int) ≤ (i : Int) + 1 := by omega
 have w3 : ((i : Int) + 1).toNat = i + 1 := by omega
 have w4 : (i : Int) + 1 ≤ (n : Int) + 1 := by omega
 have w5 : (i : Int) ≤ (n : Int) := by omega
 go_still_tail 8, (by kernel_rfl)
 change wpList _ _ _ _ _ W3.drew
 go_wp2
 go_ret
 obtain ⟨cur, rest, hg, hl⟩ := HR.out.blk
 exact ⟨w.heap.size, c, rfl, hcap, Nat.le_refl _, (Array.getElem?_eq_some_iff.1 hg).1, cellsAt_block hg hl, fun o => Joins.unfrozen_of_block hg o, HR.out.bel⟩
set_option maxHeartbeats 2000000 in
theorem insRow_end (b bv n : Nat) (cs vs : List Value) (w : World) (hcl : cs.length = n * 5) (hvl : vs.length = 5) (hc : CellsAt w b 0 cs) (hv : CellsAt w bv 0 vs) (hn : n ≤ 1000) :
 Calls Tryz.prog 94 #[.slice (some ⟨b, 0, none⟩) n n, .int .i64 n, .slice (some ⟨bv, 0, none⟩) 1 1] w (InsOut 5 cs vs n n w) := by
 obtain ⟨i0, hi0, hz0, hz1, hz2⟩ := info_parts row_info
 have hr := run_append_grow (P := Tryz.prog) w 22 22 45 i0 _ Tryz.underlying22 hi0 hz0 ⟨b, 0, none⟩ n n cs (by rw [hz1]; exact hcl) hc.add ⟨bv, 0, none⟩ 1 1 vs (by rw [hz1, hvl]) hv.add (by omega) (by omega) (growslice_fits (by omega) (by rw [hz2]; omega))
 have hge := grownCap_ge w (n + 1) n 45
 generalize grownCap w (n + 1) n 45 = c at hr hge
 generalize hcur : (cs.toArray ++ vs.toArray ++ Builtin.zeroCells (Value.cells _) (c - (n + 1))) = cur at hr
 have hl : ∃ rest, cur.toList = (cs ++ vs) ++ rest := ⟨_, by rw [← hcur, Array.toList_append, Array.toList_append]⟩
 have hg2 : (w.drew.alloc (.cells cur 45)).heap[w.heap.size]? = some (.cells cur 45 (0, 0)) := heap_alloc_new w.drew _
 have hb2 : Below w.heap.size w (w.drew.alloc (.cells cur 45)) := below_alloc (below_drew (Below.refl _ _)) _
 clear hcur
 generalize w.drew.alloc (.cells cur 45) = W2 at hr hg2 hb2
 have HL := Lib.hid hl
 have HG := Lib.hid hg2
 have HB := Lib.hid hb2
 have HC := Lib.hid hcl
 have e1 : (((n : Nat) : Int) == (n : Int)) = true := by simp
 have e0 : (0 : Int) ≤ (n : Int) := by omega
 have HRUN := Lib.hid hr
 clear hl hg2 hb2 hc hv hcl hvl hz0 hz1 hz2 hi0 hr
 go_enter Tryz.func94, Tryz.ntmps94
 go_wp2_with (at_builtin; refine wpList_append_to rfl (.tmp 23) (.tmp 24) 22 22 rfl _ _ _ rfl rfl HRUN.out ?_)
 go_ret
 obtain ⟨rest, hl⟩ := HL.out
 refine ⟨w.heap.size, c, rfl, hge, Nat.le_refl _, (Array.getElem?_eq_some_iff.1 HG.out).1, ?_, fun o => Joins.unfrozen_of_block HG.out o, HB.out⟩
 have e : cs.take (n * 5) ++ vs ++ cs.drop (n * 5) = cs ++ vs := by rw [List.take_of_length_le (by rw [HC.out]; omega), List.drop_eq_nil_of_le (by rw [HC.out]; omega), List.append_nil]
 rw [e]
 exact cellsAt_block HG.out hl
theorem insRow_any (b bv n i : Nat) (cs vs : List Value) (w : World) (hcl : cs.length = n * 5) (hvl : vs.length = 5) (hc : CellsAt w b 0 cs) (hv : CellsAt w bv 0 vs) (hbw : b < w.heap.size) (hbvw : bv < w.heap.size) (hc1 : ∀ v ∈ cs, v.oneCell' = true) (hv1 : ∀ v ∈ vs, v.oneCell' = true) (hi : i ≤ n) (hn : n ≤ 1000) :
 Calls Tryz.prog 94 #[.slice (some ⟨b, 0, none⟩) n n, .int .i64 i, .slice (some ⟨bv, 0, none⟩) 1 1] w (InsOut 5 cs vs n i w) := by
 rcases Nat.lt_or_ge i n with h | h
 ·exact insRow_mid b bv n i cs vs w hcl hvl hc hv hbw hbvw hc1 hv1 h hn
 ·obtain rfl : i = n := by omega
  exact insRow_end b bv i cs vs w hcl hvl hc hv hn
set_option maxRecDepth 100000 in
set_option maxHeartbeats 2000000 in
theorem insWr_mid (b bv n i : Nat) (cs vs : List Value) (w : World) (hcl : cs.length = n * 2) (hvl : vs.length = 2) (hc : CellsAt w b 0 cs) (hv : CellsAt w bv 0 vs) (hbw : b < w.heap.size) (hbvw : bv < w.heap.size) (hc1 : ∀ v ∈ cs, v.oneCell' = true) (hv1 : ∀ v ∈ vs, v.oneCell' = true) (hi : i < n) (hn : n ≤ 1000) :
 Calls Tryz.prog 51 #[.slice (some ⟨b, 0, none⟩) n n, .int .i64 i, .slice (some ⟨bv, 0, none⟩) 1 1] w (InsOut 2 cs vs n i w) := by
 obtain ⟨i0, hi0, hz0, hz1, hz2⟩ := info_parts wr_info
 obtain ⟨c, W2, W3, W4, hr⟩ := ins_runs (t := 47) (ti := 3) Tryz.underlying47 int_under hi0 hz0 hz1 hz2 rfl (by omega) (by omega) w b bv n i cs vs hcl hvl hc hv hbw hbvw hc1 hv1 hi hn
 have R1 := Lib.hid hr.r1
 have r2 := hr.r2
 have r3 := hr.r3
 have r3' := hr.r3
 rw [show n + 1 - (i + 1) = n - i from by omega] at r3'
 have hcap := hr.cap
 have HR := Lib.hid hr
 have e1 : (((i : Nat) : Int) == (n : Int)) = false := by simp; omega
 have e0 : (0 : Int) ≤ (i : Int) := by omega
 have e2 : (i : Int) < (n : Int) := by omega
 have e3 : ¬ i = n := by omega
 have e4 : ¬ i = c := by omega
 have e5 : ¬ i + 1 = c := by omega
 have e6 : i ≤ c := by omega
 have e7 : i + 1 ≤ n + 1 := by omega
 have e8 : i ≤ n + 1 := by omega
 clear hr hc hv hc1 hv1 hz0 hz1 hz2 hi0
 go_enter Tryz.func51, Tryz.ntmps51
 go_wp2_with (at_builtin; refine wpList_append_to rfl (.tmp 34) (.tmp 39) 47 3 rfl _ _ _ rfl rfl R1.out ?_)
 have w1 : IntKind.i64.wrap ((i : Int) + 1) = (i : Int) + 1 := IntWalk.i64_in _ (by omega)
 have w2 : (0 : Int) ≤ (i : Int) + 1 := by omega
 have w3 : ((i : Int) + 1).toNat = i + 1 := by omega
 have w4 : (i : Int) + 1 ≤ (n : Int) + 1 := by omega
 have w5 : (i : Int) ≤ (n : Int) := by omega
 go_still_tail 8, (by kernel_rfl)
 change wpList _ _ _ _ _ W3.drew
 go_wp2
 go_ret
 obtain ⟨cur, rest, hg, hl⟩ := HR.out.blk
 exact ⟨w.heap.size, c, rfl, hcap, Nat.le_refl _, (Array.getElem?_eq_some_iff.1 hg).1, cellsAt_block hg hl, fun o => Joins.unfrozen_of_block hg o, HR.out.bel⟩
set_option maxHeartbeats 2000000 in
theorem insWr_end (b bv n : Nat) (cs vs : List Value) (w : World) (hcl : cs.length = n * 2) (hvl : vs.length = 2) (hc : CellsAt w b 0 cs) (hv : CellsAt w bv 0 vs) (hn : n ≤ 1000) :
 Calls Tryz.prog 51 #[.slice (some ⟨b, 0, none⟩) n n, .int .i64 n, .slice (some ⟨bv, 0, none⟩) 1 1] w (InsOut 2 cs vs n n w) := by
 obtain ⟨i0, hi0, hz0, hz1, hz2⟩ := info_parts wr_info
 have hr := run_append_grow (P := Tryz.prog) w 47 47 58 i0 _ Tryz.underlying47 hi0 hz0 ⟨b, 0, none⟩ n n cs (by rw [hz1]; exact hcl) hc.add ⟨bv, 0, none⟩ 1 1 vs (by rw [hz1, hvl]) hv.add (by omega) (by omega) (growslice_fits (by omega) (by rw [hz2]; omega))
 have hge := grownCap_ge w (n + 1) n 58
 generalize grownCap w (n + 1) n 58 = c at hr hge
 generalize hcur : (cs.toArray ++ vs.toArray ++ Builtin.zeroCells (Value.cells _) (c - (n + 1))) = cur at hr
 have hl : ∃ rest, cur.toList = (cs ++ vs) ++ rest := ⟨_, by rw [← hcur, Array.toList_append, Array.toList_append]⟩
 have hg2 : (w.drew.alloc (.cells cur 58)).heap[w.heap.size]? = some (.cells cur 58 (0, 0)) := heap_alloc_new w.drew _
 have hb2 : Below w.heap.size w (w.drew.alloc (.cells cur 58)) := below_alloc (below_drew (Below.refl _ _)) _
 clear hcur
 generalize w.drew.alloc (.cells cur 58) = W2 at hr hg2 hb2
 have HL := Lib.hid hl
 have HG := Lib.hid hg2
 have HB := Lib.hid hb2
 have HC := Lib.hid hcl
 have e1 : (((n : Nat) : Int) == (n : Int)) = true := by simp
 have e0 : (0 : Int) ≤ (n : Int) := by omega
 have HRUN := Lib.hid hr
 clear hl hg2 hb2 hc hv hcl hvl hz0 hz1 hz2 hi0 hr
 go_enter Tryz.func51, Tryz.ntmps51
 go_wp2_with (at_builtin; refine wpList_append_to rfl (.tmp 23) (.tmp 24) 47 47 rfl _ _ _ rfl rfl HRUN.out ?_)
 go_ret
 obtain ⟨rest, hl⟩ := HL.out
 refine ⟨w.heap.size, c, rfl, hge, Nat.le_refl _, (Array.getElem?_eq_some_iff.1 HG.out).1, ?_, fun o => Joins.unfrozen_of_block HG.out o, HB.out⟩
 have e : cs.take (n * 2) ++ vs ++ cs.drop (n * 2) = cs ++ vs := by rw [List.take_of_length_le (by rw [HC.out]; omega), List.drop_eq_nil_of_le (by rw [HC.out]; omega), List.append_nil]
 rw [e]
 exact cellsAt_block HG.out hl
theorem insWr_any (b bv n i : Nat) (cs vs : List Value) (w : World) (hcl : cs.length = n * 2) (hvl : vs.length = 2) (hc : CellsAt w b 0 cs) (hv : CellsAt w bv 0 vs) (hbw : b < w.heap.size) (hbvw : bv < w.heap.size) (hc1 : ∀ v ∈ cs, v.oneCell' = true) (hv1 : ∀ v ∈ vs, v.oneCell' = true) (hi : i ≤ n) (hn : n ≤ 1000) :
 Calls Tryz.prog 51 #[.slice (some ⟨b, 0, none⟩) n n, .int .i64 i, .slice (some ⟨bv, 0, none⟩) 1 1] w (InsOut 2 cs vs n i w) := by
 rcases Nat.lt_or_ge i n with h | h
 ·exact insWr_mid b bv n i cs vs w hcl hvl hc hv hbw hbvw hc1 hv1 h hn
 ·obtain rfl : i = n := by omega
  exact insWr_end b bv i cs vs w hcl hvl hc hv hn
end Go.Proofs.YtambkjnhfejfaaaGreat
