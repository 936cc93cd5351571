/-
  Contracts of functions of the program and words for memory, several texts in one: TSame. Conditions: those stated with each.
-/
import Derived.Test.YtambkjnhfejfaaaGreatG02
import Derived.StillTailTactics
namespace Go.Proofs.YtambkjnhfejfaaaGreat
open Go.RowKit
set_option maxHeartbeats 2000000 in
theorem sameClient_true (c : ClM) (A A' : Option Addr) (n k n' k' : Nat) (w : World) (hn : n = c.ws.length) (hn' : n' = c.ws.length) (hl : WrsAt w (· < w.heap.size) A c.ws) (hl' : WrsAt w (· < w.heap.size) A' c.ws) :
 Calls Tryz.prog 25 #[clV c A n k, clV c A' n' k'] w fun e w' => e = .returned (.bool true) ∧ Below w.heap.size w w' := by
 subst hn hn'
 obtain ⟨ph, st, cm, l, at_⟩ := c
 dsimp only at hl hl' ⊢
 have hlen := hl.1
 have HL := Lib.hid hl
 have HL' := Lib.hid hl'
 clear hl hl'
 go_enter Tryz.func25, Tryz.ntmps25
 go_wp2
 go_loopw [5] (fun i wr => ∃ (k0 q : Nat), k0 ≤ l.length ∧ i = .int .i64 k0 ∧ wr = ((w.alloc (.cells #[.int .i64 ph, .int .i64 st, .int .i64 cm, .slice A l.length k, .int .i64 at_] 49)).alloc (.cells #[.int .i64 ph, .int .i64 st, .int .i64 cm, .slice A' l.length k', .int .i64 at_] 49)).drewN q) (fun i _ => l.length - (intOf i).toNat)
 case atStart => exact ⟨0, 0, Nat.zero_le _, rfl, rfl⟩
 case round =>
  obtain ⟨j, q, hk, rfl, rfl⟩ := hrel
  by_cases hm : j < l.length
  ·obtain ⟨b, o, rfl, hbb, hr⟩ := SeqAt.at_ HL.out (getD_some (d := default) hm)
   obtain ⟨b', o', rfl, hbb', hr'⟩ := SeqAt.at_ HL'.out (getD_some (d := default) hm)
   obtain ⟨r, hr0⟩ : ∃ r, r = l.getD j default := ⟨_, rfl⟩
   rw [← hr0] at hr hr'
   obtain ⟨c0, c1, _⟩ := hr
   obtain ⟨d0, d1, _⟩ := hr'
   clear hr0
   obtain ⟨rk, rv⟩ := r
   have j0 : (0 : Int) ≤ (j : Int) := by omega
   have hbn : b < w.heap.size + 1 := by omega
   have hbn' : b' < w.heap.size + 1 := by omega
   go_wp2
   go_quiet (fail)
   go_wp2
   go_roundw
   case rel => exact ⟨j + 1, _, by omega, by go_num, rfl⟩
   case measure => simp [intOf]; omega
  ·go_wp2
   go_ret
   exact ⟨rfl, by repeat (first | with_reducible exact Below.refl _ _ | assumption | with_reducible apply below_alloc | with_reducible apply below_drew | with_reducible apply below_drewN | (with_reducible apply below_next; rotate_left; assumption))⟩
set_option maxRecDepth 100000 in
set_option maxHeartbeats 2000000 in
theorem sameWorld_true (wo : WoM) (RA : Option Addr) (n rc : Nat) (CA : Option Addr) (m cc : Nat) (RA' : Option Addr) (n' rc' : Nat) (CA' : Option Addr) (m' cc' : Nat) (w : World) (hi : WoIn w RA n rc CA m cc wo) (hi' : WoIn w RA' n' rc' CA' m' cc' wo) :
 Calls Tryz.prog 8 #[woV RA n rc wo.clock CA m cc, woV RA' n' rc' wo.clock CA' m' cc'] w fun e w' => e = .returned (.bool true) ∧ Below w.heap.size w w' := by
 have e1 := hi.hn
 have e2 := hi.hm
 have e3 := hi'.hn
 have e4 := hi'.hm
 subst e1 e2 e3 e4
 have hlr := hi.rows.1
 have hlc := hi.cls.1
 have HI := Lib.hid hi
 have HI' := Lib.hid hi'
 obtain ⟨W2, hW2⟩ : ∃ W2, W2 = (w.alloc (.cells #[.slice RA wo.rows.length rc, .int .i64 wo.clock, .slice CA wo.cls.length cc] 25)).alloc (.cells #[.slice RA' wo.rows.length rc', .int .i64 wo.clock, .slice CA' wo.cls.length cc'] 25) := ⟨_, rfl⟩
 have hb2 : Below w.heap.size w W2 := by rw [hW2]; repeat (first | with_reducible exact Below.refl _ _ | assumption | with_reducible apply below_alloc | with_reducible apply below_drew | with_reducible apply below_drewN | (with_reducible apply below_next; rotate_left; assumption))
 have hs2 : W2.heap.size = w.heap.size + 2 := by rw [hW2]; simp
 have k0 : W2.cell? ⟨w.heap.size, 0, none⟩ = some (.slice RA wo.rows.length rc) := by rw [hW2]; simp
 have k2 : W2.cell? ⟨w.heap.size, 2, none⟩ = some (.slice CA wo.cls.length cc) := by rw [hW2]; simp
 have l0 : W2.cell? ⟨w.heap.size + 1, 0, none⟩ = some (.slice RA' wo.rows.length rc') := by rw [hW2]; simp
 have l2 : W2.cell? ⟨w.heap.size + 1, 2, none⟩ = some (.slice CA' wo.cls.length cc') := by rw [hW2]; simp
 have HW := Lib.hid hW2
 have HB2 := Lib.hid hb2
 have HS2 := Lib.hid hs2
 have K0 := Lib.hid k0
 have K2 := Lib.hid k2
 have L0 := Lib.hid l0
 have L2 := Lib.hid l2
 clear hi hi' hW2 hb2 hs2 k0 k2 l0 l2
 go_enter Tryz.func8, Tryz.ntmps8
 go_wp2
 rw [← HW.out]
 go_loopw [5] (fun i wr => ∃ (k : Nat), k ≤ wo.rows.length ∧ i = .int .i64 k ∧ Below W2.heap.size W2 wr) (fun i _ => wo.rows.length - (intOf i).toNat)
 case atStart => exact ⟨0, Nat.zero_le _, rfl, Below.refl _ _⟩
 case round =>
  obtain ⟨k, hk, rfl, hb⟩ := hrel
  have hbw : Below w.heap.size w wr := below_next HB2.out hb
  have g0 : wr.cell? ⟨w.heap.size, 0, none⟩ = some (.slice RA wo.rows.length rc) := (hb.cell (p := ⟨w.heap.size, 0, none⟩) (by rw [HS2.out]; show w.heap.size < _; omega)).trans K0.out
  have g2 : wr.cell? ⟨w.heap.size, 2, none⟩ = some (.slice CA wo.cls.length cc) := (hb.cell (p := ⟨w.heap.size, 2, none⟩) (by rw [HS2.out]; show w.heap.size < _; omega)).trans K2.out
  have q0 : wr.cell? ⟨w.heap.size + 1, 0, none⟩ = some (.slice RA' wo.rows.length rc') := (hb.cell (p := ⟨w.heap.size + 1, 0, none⟩) (by rw [HS2.out]; show w.heap.size + 1 < _; omega)).trans L0.out
  have q2 : wr.cell? ⟨w.heap.size + 1, 2, none⟩ = some (.slice CA' wo.cls.length cc') := (hb.cell (p := ⟨w.heap.size + 1, 2, none⟩) (by rw [HS2.out]; show w.heap.size + 1 < _; omega)).trans L2.out
  by_cases hm : k < wo.rows.length
  ·obtain ⟨b, o, rfl, hbb, hr⟩ := (HI.out.upto hbw).rows.at_ (getD_some (d := default) hm)
   obtain ⟨b', o', rfl, hbb', hr'⟩ := (HI'.out.upto hbw).rows.at_ (getD_some (d := default) hm)
   obtain ⟨r, hr0⟩ : ∃ r, r = wo.rows.getD k default := ⟨_, rfl⟩
   rw [← hr0] at hr hr'
   have c0 := hr.ck
   have c1 := hr.cs
   have c2 := hr.cp
   have c3 := hr.cv
   obtain ⟨A, c, c4, _, hri⟩ := hr.rowIn (fun _ h => h)
   have d0 := hr'.ck
   have d1 := hr'.cs
   have d2 := hr'.cp
   have d3 := hr'.cv
   obtain ⟨A', c', d4, _, hri'⟩ := hr'.rowIn (fun _ h => h)
   have HRI := Lib.hid hri
   have HRI' := Lib.hid hri'
   have HB := Lib.hid hb
   have j0 : (0 : Int) ≤ (k : Int) := by omega
   obtain ⟨key, ls, lp, val, recs⟩ := r
   dsimp only at c0 c1 c2 c3 c4 d0 d1 d2 d3 d4
   clear hr0 hb hri hri' hr hr' hbw
   go_wp2
   go_still_tail 10, (by kernel_rfl)
   go_wp2_with fail
   refine (sameRow_true key lp val ls A A' recs.length c recs.length c' recs _ rfl rfl HRI.out.l.drew HRI'.out.l.drew).mono ?_
   rintro e w1 ⟨rfl, hb1⟩
   have HB1 := Lib.hid (show Below wr.heap.size wr w1 from (Below.drew (Below.refl _ _)).trans hb1)
   clear hb1
   go_wp2
   go_roundw
   case rel => exact ⟨k + 1, by omega, by go_num, below_next HB.out HB1.out⟩
   case measure => simp [intOf]; omega
  ·have HB := Lib.hid hb
   clear hb hbw
   go_wp2
   obtain ⟨w3, rfl⟩ : ∃ w3, w3 = wr := ⟨_, rfl⟩
   go_loopw [6] (fun i wr => ∃ (k : Nat), k ≤ wo.cls.length ∧ i = .int .i64 k ∧ Below W2.heap.size W2 wr) (fun i _ => wo.cls.length - (intOf i).toNat)
   case atStart => exact ⟨0, Nat.zero_le _, rfl, HB.out⟩
   case round =>
    clear g2 q2 g0 q0
    obtain ⟨k, hk, rfl, hb⟩ := hrel
    have hbw : Below w.heap.size w wr := below_next HB2.out hb
    have g2 : wr.cell? ⟨w.heap.size, 2, none⟩ = some (.slice CA wo.cls.length cc) := (hb.cell (p := ⟨w.heap.size, 2, none⟩) (by rw [HS2.out]; show w.heap.size < _; omega)).trans K2.out
    have q2 : wr.cell? ⟨w.heap.size + 1, 2, none⟩ = some (.slice CA' wo.cls.length cc') := (hb.cell (p := ⟨w.heap.size + 1, 2, none⟩) (by rw [HS2.out]; show w.heap.size + 1 < _; omega)).trans L2.out
    by_cases hm : k < wo.cls.length
    ·obtain ⟨b, o, rfl, hbb, hr⟩ := (HI.out.upto hbw).cls.at_ (getD_some (d := default) hm)
     obtain ⟨b', o', rfl, hbb', hr'⟩ := (HI'.out.upto hbw).cls.at_ (getD_some (d := default) hm)
     obtain ⟨r, hr0⟩ : ∃ r, r = wo.cls.getD k default := ⟨_, rfl⟩
     rw [← hr0] at hr hr'
     have c0 := hr.cp
     have c1 := hr.cs
     have c2 := hr.cm
     obtain ⟨A, c, c3, _, hri⟩ := hr.cw
     have c4 := hr.ca
     have d0 := hr'.cp
     have d1 := hr'.cs
     have d2 := hr'.cm
     obtain ⟨A', c', d3, _, hri'⟩ := hr'.cw
     have d4 := hr'.ca
     have HRI := Lib.hid hri
     have HRI' := Lib.hid hri'
     have HB' := Lib.hid hb
     have j0 : (0 : Int) ≤ (k : Int) := by omega
     obtain ⟨ph, st, cm, ws, at_⟩ := r
     dsimp only at c0 c1 c2 c3 c4 d0 d1 d2 d3 d4
     clear hr0 hb hri hri' hr hr' hbw
     go_wp2
     go_still_tail 10, (by kernel_rfl)
     go_wp2_with fail
     refine (sameClient_true ⟨ph, st, cm, ws, at_⟩ A A' ws.length c ws.length c' wr.drew rfl rfl (SeqAt.wrs HRI.out (fun _ h => h) (fun _ _ _ => rfl)) (SeqAt.wrs HRI'.out (fun _ h => h) (fun _ _ _ => rfl))).mono ?_
     rintro e w1 ⟨rfl, hb1⟩
     have HB1 := Lib.hid (show Below wr.heap.size wr w1 from (Below.drew (Below.refl _ _)).trans hb1)
     clear hb1
     go_wp2
     go_roundw
     case rel => exact ⟨k + 1, by omega, by go_num, below_next HB'.out HB1.out⟩
     case measure => simp [intOf]; omega
    ·have HBW := Lib.hid hbw
     clear hb hbw
     go_wp2
     go_ret
     exact ⟨rfl, HBW.out⟩
end Go.Proofs.YtambkjnhfejfaaaGreat
