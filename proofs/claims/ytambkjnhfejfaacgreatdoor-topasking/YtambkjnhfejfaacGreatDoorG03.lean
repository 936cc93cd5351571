/-
  Contracts of functions of the program and words for memory, several texts in one: TCopyWalk. Conditions: those stated with each.
-/
import Derived.Test.YtambkjnhfejfaacGreatDoorG02
namespace Go.Proofs.YtambkjnhfejfaacGreatDoor
open Go.RowKit

set_option maxHeartbeats 2000000 in
theorem copyWo_any (wo : WoM) (RA : Option Addr) (n rc : Nat) (CA : Option Addr) (m cc : Nat) (w : World) (hin : WoIn w RA n rc CA m cc wo) :
    Calls Tryz.prog 19 #[woV RA n rc wo.clock CA m cc] w (WoOut wo w) := by
  have hn := hin.hn
  have hm := hin.hm
  subst hn hm
  have hlr := hin.rows.1
  have hlc := hin.cls.1
  obtain ⟨Z, hZ, hmk⟩ := make_rows wo.rows.length hlr
  obtain ⟨Z', hzz, hZ', hmk'⟩ := make_cls wo.cls.length hlc
  clear hzz
  obtain ⟨W2, hW2⟩ : ∃ W2, W2 = (w.alloc (.cells #[.slice RA wo.rows.length rc, .int .i64 wo.clock, .slice CA wo.cls.length cc] 29)).alloc (.cells #[.slice none 0 0, .int .i64 0, .slice none 0 0] 29) := ⟨_, rfl⟩
  have hb2 : Below w.heap.size w W2 := by rw [hW2]; repeat (first | with_reducible exact Below.refl _ _ | assumption | with_reducible apply below_alloc | with_reducible apply below_drew | with_reducible apply below_drewN | (with_reducible apply below_next; rotate_left; assumption))
  have hs2 : W2.heap.size = w.heap.size + 2 := by rw [hW2]; simp
  have HW := Lib.hid hW2
  have HI := Lib.hid hin
  have HB2 := Lib.hid hb2
  have HS2 := Lib.hid hs2
  have HZ := Lib.hid hZ
  have HZ' := Lib.hid hZ'
  clear hW2 hin hb2 hs2 hZ hZ'
  go_enter Tryz.func19, Tryz.ntmps19
  go_wp2
  go_loopw [16] (fun i wr => ∃ k : Nat, k ≤ wo.rows.length ∧ i = .int .i64 k ∧ RowsDone (w.heap.size + 2) wo.rows k wr ∧ Below (w.heap.size + 2) W2 wr) (fun i _ => wo.rows.length - (intOf i).toNat)
  case atStart =>
    refine ⟨0, Nat.zero_le _, rfl, ⟨⟨Z, ?_, HZ.out⟩, fun i r hi => by omega⟩, ?_⟩
    · have h := heap_alloc_new W2 (.cells Z 45)
      rw [HS2.out] at h
      rw [← HW.out]; exact h
    · rw [← HW.out]; exact (Below.refl _ _).alloc (by rw [HS2.out]; exact Nat.le_refl _) _
  case round =>
    obtain ⟨k, hk, rfl, hd, hb⟩ := hrel
    have hbw : Below w.heap.size w wr := HB2.out.trans (hb.mono (by omega))
    by_cases hm : k < wo.rows.length
    · obtain ⟨b, o, rfl, hbb, hr⟩ := (HI.out.upto hbw).rows.at_ (getD_some (d := default) hm)
      obtain ⟨r, hr0⟩ : ∃ r, r = wo.rows.getD k default := ⟨_, rfl⟩
      rw [← hr0] at hr
      have c0 := hr.ck
      have c1 := hr.cs
      have c2 := hr.cp
      have c3 := hr.cv
      obtain ⟨A, c, c4, hc, hri⟩ := hr.rowIn (fun _ h => h)
      have HR := Lib.hid hr0
      have HD := Lib.hid hd
      have HB := Lib.hid hb
      have HRI := Lib.hid hri
      have hok := Lib.hid hr.ok
      have hC := Lib.hid hc
      have j0 : (0 : Int) ≤ (k : Int) := by omega
      obtain ⟨key, ls, lp, val, recs⟩ := r
      dsimp only at c0 c1 c2 c3 c4
      clear hr0 hd hb hri hr hc hbw
      go_wp2_with fail
      refine (copy_any key lp val ls A recs.length c recs _ rfl (HRI.out.l.upto (below_alloc (Below.refl _ _) _))).mono ?_
      rintro e w1 ⟨A1, c1, rfl, hr1, hnew, hb1⟩
      have hwr1 : Below wr.heap.size wr w1 := below_next (below_alloc (Below.refl _ _) _) hb1
      have hd1 := HD.out.upto hwr1
      obtain ⟨v0, e0, f0⟩ : ∃ v, w1.cell? ⟨w.heap.size + 1 + 1, k * 5, none⟩ = some v ∧ w1.frozen? ⟨w.heap.size + 1 + 1, k * 5, none⟩ = false := hd1.cell hm 0 (by omega)
      obtain ⟨v1, e1, f1⟩ : ∃ v, w1.cell? ⟨w.heap.size + 1 + 1, k * 5 + 1, none⟩ = some v ∧ w1.frozen? ⟨w.heap.size + 1 + 1, k * 5 + 1, none⟩ = false := hd1.cell hm 1 (by omega)
      obtain ⟨v2, e2, f2⟩ : ∃ v, w1.cell? ⟨w.heap.size + 1 + 1, k * 5 + 2, none⟩ = some v ∧ w1.frozen? ⟨w.heap.size + 1 + 1, k * 5 + 2, none⟩ = false := hd1.cell hm 2 (by omega)
      obtain ⟨v3, e3, f3⟩ : ∃ v, w1.cell? ⟨w.heap.size + 1 + 1, k * 5 + 3, none⟩ = some v ∧ w1.frozen? ⟨w.heap.size + 1 + 1, k * 5 + 3, none⟩ = false := hd1.cell hm 3 (by omega)
      obtain ⟨v4, e4, f4⟩ : ∃ v, w1.cell? ⟨w.heap.size + 1 + 1, k * 5 + 4, none⟩ = some v ∧ w1.frozen? ⟨w.heap.size + 1 + 1, k * 5 + 4, none⟩ = false := hd1.cell hm 4 (by omega)
      have HD1 := Lib.hid hd1
      have HR1 := Lib.hid hr1
      have HN1 := Lib.hid hnew
      have HWR := Lib.hid hwr1
      have hC2 := Lib.hid (show recs.length ≤ c1 from hnew.2)
      clear hd1 hr1 hnew hb1 hwr1
      go_wp2
      go_roundw
      case rel =>
        refine ⟨k + 1, by omega, by go_num, ?_, ?_⟩
        · refine HD1.out.step (r := ⟨key, ls, lp, val, recs⟩) (HR.out ▸ getD_some hm) HR1.out (fun ad h => ?_) hC2.out hok.out
          have := HN1.out.1 ad h
          have h2 := HD.out.lt
          have h3 : (wr.alloc (.cells #[.string key, .int .i64 ls, .string lp, .string val, .slice A recs.length c] 45)).heap.size = wr.heap.size + 1 := by simp
          omega
        · refine below_set5 ?_ (Nat.le_refl _) _ _ _ _ _ _
          exact HB.out.trans (HWR.out.mono (by have := HD.out.lt; omega))
      case measure => simp [intOf]; omega
    · have hke : k = wo.rows.length := by omega
      subst hke
      have HD := Lib.hid hd
      have HB := Lib.hid hb
      have HBW := Lib.hid hbw
      have g1 : wr.cell? ⟨w.heap.size, 1, none⟩ = some (.int .i64 wo.clock) := by rw [hb.cell (p := ⟨w.heap.size, 1, none⟩) (by show w.heap.size < w.heap.size + 2; omega), HW.out]; simp
      have g2 : wr.cell? ⟨w.heap.size, 2, none⟩ = some (.slice CA wo.cls.length cc) := by rw [hb.cell (p := ⟨w.heap.size, 2, none⟩) (by show w.heap.size < w.heap.size + 2; omega), HW.out]; simp
      have hsw : w.heap.size + 2 < wr.heap.size := hd.lt
      have hsw1 : w.heap.size + 1 < wr.heap.size := by omega
      have hsw0 : w.heap.size < wr.heap.size := by omega
      clear hd hb hbw
      obtain ⟨w3, rfl⟩ : ∃ w3, w3 = wr := ⟨_, rfl⟩
      go_wp2
      go_loopw [34] (fun i wr => ∃ (k : Nat) (wb : Nat → Nat), k ≤ wo.cls.length ∧ i = .int .i64 k ∧ ClsDone w3.heap.size wo.cls k wb wr ∧ Below w3.heap.size w3 wr) (fun i _ => wo.cls.length - (intOf i).toNat)
      case atStart =>
        refine ⟨0, fun _ => 0, Nat.zero_le _, rfl, ⟨⟨Z', heap_alloc_new w3 (.cells Z' 75), HZ'.out⟩, fun i r hi => by omega, fun i hi => by omega, fun i j _ hj => by omega, fun i o hi => by omega, fun i c hi => by omega⟩, below_alloc (Below.refl _ _) _⟩
      case round =>
        obtain ⟨k, wb, hk, rfl, hd, hb⟩ := hrel
        have hbw : Below w.heap.size w wr := below_next HBW.out hb
        by_cases hm : k < wo.cls.length
        · obtain ⟨b, o, rfl, hbb, hr⟩ := (HI.out.upto hbw).cls.at_ (getD_some (d := default) hm)
          obtain ⟨r, hr0⟩ : ∃ r, r = wo.cls.getD k default := ⟨_, rfl⟩
          rw [← hr0] at hr
          have c0 := hr.cp
          have c1 := hr.cs
          have c2 := hr.cm
          obtain ⟨A, c, c3, hc, hri⟩ := hr.cw
          have c4 := hr.ca
          have HR := Lib.hid hr0
          have HD := Lib.hid hd
          have HB := Lib.hid hb
          have HRI := Lib.hid hri
          have hok := Lib.hid hr.ok
          have hC := Lib.hid hc
          have j0 : (0 : Int) ≤ (k : Int) := by omega
          obtain ⟨ph, st, cm, ws, at_⟩ := r
          dsimp only at c0 c1 c2 c3 c4
          clear hr0 hd hb hri hr hc hbw
          go_wp2_with fail
          have hal : Below wr.heap.size wr (wr.alloc (.cells #[.int .i64 ph, .int .i64 st, .int .i64 cm, .slice A ws.length c, .int .i64 at_] 75)) := below_alloc (Below.refl _ _) _
          refine (copyClient_any ⟨ph, st, cm, ws, at_⟩ A ws.length c _ rfl (SeqAt.wrs HRI.out (below_mem hal).1 (below_mem hal).2)).mono ?_
          rintro e w1 ⟨rfl, hr1, hlt1, hf1, hb1⟩
          dsimp only at hr1
          have hwr1 : Below wr.heap.size wr w1 := below_next hal hb1
          have hsa : (wr.alloc (.cells #[.int .i64 ph, .int .i64 st, .int .i64 cm, .slice A ws.length c, .int .i64 at_] 75)).heap.size = wr.heap.size + 1 := by simp
          rw [hsa] at hr1 hlt1
          have hf1' : ∀ o, w1.frozen? ⟨wr.heap.size + 1 + 2, o, none⟩ = false := fun o => by have := hf1 o; rwa [hsa] at this
          have hd1 := HD.out.upto hwr1
          obtain ⟨v0, e0, f0⟩ : ∃ v, w1.cell? ⟨w3.heap.size, k * 5, none⟩ = some v ∧ w1.frozen? ⟨w3.heap.size, k * 5, none⟩ = false := hd1.cell hm 0 (by omega)
          obtain ⟨v1, e1, f1⟩ : ∃ v, w1.cell? ⟨w3.heap.size, k * 5 + 1, none⟩ = some v ∧ w1.frozen? ⟨w3.heap.size, k * 5 + 1, none⟩ = false := hd1.cell hm 1 (by omega)
          obtain ⟨v2, e2, f2⟩ : ∃ v, w1.cell? ⟨w3.heap.size, k * 5 + 2, none⟩ = some v ∧ w1.frozen? ⟨w3.heap.size, k * 5 + 2, none⟩ = false := hd1.cell hm 2 (by omega)
          obtain ⟨v3, e3, f3⟩ : ∃ v, w1.cell? ⟨w3.heap.size, k * 5 + 3, none⟩ = some v ∧ w1.frozen? ⟨w3.heap.size, k * 5 + 3, none⟩ = false := hd1.cell hm 3 (by omega)
          obtain ⟨v4, e4, f4⟩ : ∃ v, w1.cell? ⟨w3.heap.size, k * 5 + 4, none⟩ = some v ∧ w1.frozen? ⟨w3.heap.size, k * 5 + 4, none⟩ = false := hd1.cell hm 4 (by omega)
          have HD1 := Lib.hid hd1
          have HR1 := Lib.hid hr1
          have HF1 := Lib.hid hf1'
          have HLT := Lib.hid hlt1
          have HWR := Lib.hid hwr1
          clear hd1 hr1 hf1 hf1' hlt1 hsa hb1 hwr1 hal
          go_wp2
          go_roundw
          case rel =>
            refine ⟨k + 1, fun i => if i = k then wr.heap.size + 1 + 2 else wb i, by omega, by go_num, ?_, ?_⟩
            · refine HD1.out.step (b := wr.heap.size + 1 + 2) (c := ⟨ph, st, cm, ws, at_⟩) (HR.out ▸ getD_some hm) HR1.out ?_ HLT.out ?_ HF1.out hok.out
              · have := HD.out.lt
                omega
              · intro i hi
                have := (HD.out.wB i hi).2
                omega
            · refine below_set5 ?_ (Nat.le_refl _) _ _ _ _ _ _
              exact HB.out.trans (HWR.out.mono (by have := HB.out.size; omega))
          case measure => simp [intOf]; omega
        · have hke : k = wo.cls.length := by omega
          subst hke
          have hz : Below (w.heap.size + 2) W2 wr := HB.out.trans (hb.mono (by omega))
          have q1 : wr.cell? ⟨w.heap.size, 1, none⟩ = some (.int .i64 wo.clock) := (hb.cell (p := ⟨w.heap.size, 1, none⟩) hsw0).trans g1
          have z0 : wr.cell? ⟨w.heap.size + 1, 0, none⟩ = some (.slice none 0 0) := by rw [hz.cell (p := ⟨w.heap.size + 1, 0, none⟩) (by show w.heap.size + 1 < w.heap.size + 2; omega), HW.out]; simp
          have z1 : wr.cell? ⟨w.heap.size + 1, 1, none⟩ = some (.int .i64 0) := by rw [hz.cell (p := ⟨w.heap.size + 1, 1, none⟩) (by show w.heap.size + 1 < w.heap.size + 2; omega), HW.out]; simp
          have z2 : wr.cell? ⟨w.heap.size + 1, 2, none⟩ = some (.slice none 0 0) := by rw [hz.cell (p := ⟨w.heap.size + 1, 2, none⟩) (by show w.heap.size + 1 < w.heap.size + 2; omega), HW.out]; simp
          have y : ∀ o, wr.frozen? ⟨w.heap.size + 1, o, none⟩ = false := by
            intro o
            rw [hz.frozen (p := ⟨w.heap.size + 1, o, none⟩) (by show w.heap.size + 1 < w.heap.size + 2; omega), HW.out]
            have := World.frozen?_alloc_new (w.alloc (.cells #[.slice RA wo.rows.length rc, .int .i64 wo.clock, .slice CA wo.cls.length cc] 29)) #[.slice none 0 0, .int .i64 0, .slice none 0 0] 29 o
            rwa [show (w.alloc (.cells #[.slice RA wo.rows.length rc, .int .i64 wo.clock, .slice CA wo.cls.length cc] 29)).heap.size = w.heap.size + 1 from by simp] at this
          have y0 := y 0
          have y1 := y 1
          have y2 := y 2
          have HD' := Lib.hid hd
          have HB' := Lib.hid hb
          clear hd hb hbw hz y
          go_wp2
          have hs := set3_same wr (w.heap.size + 1) (.slice (some ⟨w.heap.size + 1 + 1, 0, none⟩) wo.rows.length wo.rows.length) (.int .i64 wo.clock) (.slice (some ⟨w3.heap.size, 0, none⟩) wo.cls.length wo.cls.length)
          have hg : ∀ g, w.heap.size + 1 < g → (set3 wr (w.heap.size + 1) (.slice (some ⟨w.heap.size + 1 + 1, 0, none⟩) wo.rows.length wo.rows.length) (.int .i64 wo.clock) (.slice (some ⟨w3.heap.size, 0, none⟩) wo.cls.length wo.cls.length)).heap[g]? = wr.heap[g]? := fun g hg => set3_heap _ _ _ _ _ (by omega)
          refine bodyPost_ret (v := woV (some ⟨w.heap.size + 1 + 1, 0, none⟩) wo.rows.length wo.rows.length wo.clock (some ⟨w3.heap.size, 0, none⟩) wo.cls.length wo.cls.length) (by simp [results, Tryz.results19, go_sem, z0, z1, z2]) rfl ⟨w.heap.size + 1 + 1, w3.heap.size, wb, rfl, ?_, ?_, fun i c hc => ?_⟩
          · refine core_of ((HD.out.upto HB'.out).same hs (fun p e => by show p.block < _; rw [e]; omega) (hg _ (by omega))) (HD'.out.same hs (fun p e => by rw [e]; exact hsw1) (hg _ hsw1)) (by omega) (by omega) (fun i r hr => ?_) hlr hlc HI.out.ck
            refine (HD.out.rows i r (List.getElem?_eq_some_iff.1 hr).1 hr).mono (fun b hb => hb) (fun b k hb => ?_) (fun k _ _ => ?_)
            · rw [hs.cell _ (fun e => by have : b = w.heap.size + 1 := e; omega)]
              exact HB'.out.cell (p := ⟨b, k, none⟩) hb.2
            · rw [hs.cell _ (fun e => by have : w.heap.size + 2 = w.heap.size + 1 := e; omega)]
              exact HB'.out.cell (p := ⟨w.heap.size + 2, k, none⟩) hsw
          · have hbw : Below w.heap.size w wr := below_next HBW.out HB'.out
            repeat (refine below_set ?_ (by simp) _)
            exact hbw
          · exact (hs.cell _ (fun e => by have : w3.heap.size = w.heap.size + 1 := e; omega)).trans (HD'.out.tight i c (List.getElem?_eq_some_iff.1 hc).1 hc)
end Go.Proofs.YtambkjnhfejfaacGreatDoor
