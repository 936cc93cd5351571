/-
  Contracts of functions of the program and words for memory, several texts in one: TCheck, TOpenAct. Conditions: those stated with each.
-/
import Derived.Test.YtambkjnhfejfaaaGreatG11
namespace Go.Proofs.YtambkjnhfejfaaaGreat
open Go.RowKit
def checkE (wo : WoM) : Int := if wo.ok then 0 else 6
theorem box3S {W0 w' : World} {g : Nat} {v0 v1 v2 : Value} (h0 : W0.cell? ⟨g, 0, none⟩ = some v0) (h1 : W0.cell? ⟨g, 1, none⟩ = some v1) (h2 : W0.cell? ⟨g, 2, none⟩ = some v2) (hb : Below W0.heap.size W0 w') :
 w'.cell? ⟨g, 0, none⟩ = some v0 ∧ w'.cell? ⟨g, 1, none⟩ = some v1 ∧ w'.cell? ⟨g, 2, none⟩ = some v2 := by
 have hg : g < W0.heap.size := World.block_lt_of_cell? W0 _ h0
 exact ⟨(hb.cell (p := ⟨g, 0, none⟩) hg).trans h0, (hb.cell (p := ⟨g, 1, none⟩) hg).trans h1, (hb.cell (p := ⟨g, 2, none⟩) hg).trans h2⟩
theorem box3_new (w : World) (v0 v1 v2 : Value) (t : TypeId) : ∃ W0, W0 = w.alloc (.cells #[v0, v1, v2] t) ∧ W0.cell? ⟨w.heap.size, 0, none⟩ = some v0 ∧ W0.cell? ⟨w.heap.size, 1, none⟩ = some v1 ∧ W0.cell? ⟨w.heap.size, 2, none⟩ = some v2 ∧
 Below w.heap.size w W0 ∧ W0.heap.size = w.heap.size + 1 :=
 ⟨_, rfl, by simp, by simp, by simp, below_alloc (Below.refl _ _) _, by simp⟩
set_option maxHeartbeats 2000000 in
theorem checkWo_any (wo : WoM) (RA : Option Addr) (n rc : Nat) (CA : Option Addr) (m cc : Nat) (w : World) (hin : WoIn w RA n rc CA m cc wo) :
 Calls Tryz.prog 26 #[woV RA n rc wo.clock CA m cc] w fun e w' => e = .returned (.int .i64 (checkE wo)) ∧ Below w.heap.size w w' := by
 obtain ⟨rows, clock, cls⟩ := wo
 obtain ⟨W0, hW, k0, k1, k2, hbW, hsW⟩ := box3_new w (.slice RA n rc) (.int .i64 clock) (.slice CA m cc) 25
 have HW := Lib.hid hW
 have HBW := Lib.hid hbW
 have HI := Lib.hid (hin.upto hbW)
 clear hW hbW hsW hin
 dsimp only
 by_cases t1 : 0 ≤ clock
 ·by_cases t2 : clock ≤ 1099511627376
  ·by_cases t3 : rowsB clock rows = true
   ·by_cases t4 : clsB clock cls = true
    ·go_enter Tryz.func26, Tryz.ntmps26
     go_wp2_with fail
     rw [← HW.out]
     refine (validRows_any rows clock RA n rc W0 HI.out.hn HI.out.rows).mono ?_
     rw [t3]
     rintro e w1 ⟨rfl, hb1⟩
     obtain ⟨g0, g1, g2⟩ := box3S k0 k1 k2 hb1
     go_wp2_with fail
     refine (validClients_any cls clock CA m cc w1 HI.out.hm (HI.out.upto hb1).cls).mono ?_
     rw [t4]
     rintro e w2 ⟨rfl, hb2⟩
     go_wp2
     go_ret
     exact ⟨ret_int (by simp [checkE, WoM.ok, t1, t2, t3, t4]), below_next (below_next HBW.out hb1) hb2⟩
    ·have t4 : clsB clock cls = false := by simpa using t4
     go_enter Tryz.func26, Tryz.ntmps26
     go_wp2_with fail
     rw [← HW.out]
     refine (validRows_any rows clock RA n rc W0 HI.out.hn HI.out.rows).mono ?_
     rw [t3]
     rintro e w1 ⟨rfl, hb1⟩
     obtain ⟨g0, g1, g2⟩ := box3S k0 k1 k2 hb1
     go_wp2_with fail
     refine (validClients_any cls clock CA m cc w1 HI.out.hm (HI.out.upto hb1).cls).mono ?_
     rw [t4]
     rintro e w2 ⟨rfl, hb2⟩
     go_wp2
     go_ret
     exact ⟨ret_int (by simp [checkE, WoM.ok, t4]), below_next (below_next HBW.out hb1) hb2⟩
   ·have t3 : rowsB clock rows = false := by simpa using t3
    go_enter Tryz.func26, Tryz.ntmps26
    go_wp2_with fail
    rw [← HW.out]
    refine (validRows_any rows clock RA n rc W0 HI.out.hn HI.out.rows).mono ?_
    rw [t3]
    rintro e w1 ⟨rfl, hb1⟩
    go_wp2
    go_ret
    exact ⟨ret_int (by simp [checkE, WoM.ok, t3]), below_next HBW.out hb1⟩
  ·have d2 : 1099511627376 < clock := by omega
   go_enter Tryz.func26, Tryz.ntmps26
   go_wp2
   rw [← HW.out]
   go_ret
   exact ⟨ret_int (by simp [checkE, WoM.ok]; omega), HBW.out⟩
 ·have d1 : clock < 0 := by omega
  go_enter Tryz.func26, Tryz.ntmps26
  go_wp2
  rw [← HW.out]
  go_ret
  exact ⟨ret_int (by simp [checkE, WoM.ok]; omega), HBW.out⟩
def actE (wo : WoM) (a : ActM) : Int := if wo.ok = false then 6 else if a.kind < 1 ∨ 6 < a.kind then 3 else if a.c < 0 ∨ (wo.cls.length : Int) ≤ a.c then 2 else if wo.clock = 1099511627376 then 1 else 0
abbrev actV (a : ActM) : Value := .agg #[.int .i64 a.kind, .int .i64 a.c, .string a.key, .string a.val]
set_option maxHeartbeats 2000000 in
theorem actError_any (wo : WoM) (a : ActM) (RA : Option Addr) (n rc : Nat) (CA : Option Addr) (m cc : Nat) (w : World) (hin : WoIn w RA n rc CA m cc wo) :
 Calls Tryz.prog 12 #[woV RA n rc wo.clock CA m cc, actV a] w fun e w' => e = .returned (.int .i64 (actE wo a)) ∧ Below w.heap.size w w' := by
 obtain ⟨kind, c, key, val⟩ := a
 have hm := hin.hm
 have hlc := hin.cls.1
 subst hm
 obtain ⟨W0, hW⟩ : ∃ W0, W0 = (w.alloc (.cells #[.slice RA n rc, .int .i64 wo.clock, .slice CA wo.cls.length cc] 25)).alloc (.cells #[.int .i64 kind, .int .i64 c, .string key, .string val] 27) := ⟨_, rfl⟩
 have hbW : Below w.heap.size w W0 := by rw [hW]; repeat (first | with_reducible exact Below.refl _ _ | assumption | with_reducible apply below_alloc | with_reducible apply below_drew | with_reducible apply below_drewN | (with_reducible apply below_next; rotate_left; assumption))
 have k0 : W0.cell? ⟨w.heap.size, 0, none⟩ = some (.slice RA n rc) := by rw [hW]; simp
 have k1 : W0.cell? ⟨w.heap.size, 1, none⟩ = some (.int .i64 wo.clock) := by rw [hW]; simp
 have k2 : W0.cell? ⟨w.heap.size, 2, none⟩ = some (.slice CA wo.cls.length cc) := by rw [hW]; simp
 have l0 : W0.cell? ⟨w.heap.size + 1, 0, none⟩ = some (.int .i64 kind) := by rw [hW]; simp
 have l1 : W0.cell? ⟨w.heap.size + 1, 1, none⟩ = some (.int .i64 c) := by rw [hW]; simp
 have HW := Lib.hid hW
 have HBW := Lib.hid hbW
 have HI := Lib.hid (hin.upto hbW)
 have hs1 : w.heap.size + 1 < W0.heap.size := by rw [hW]; simp
 clear hW hbW hin
 by_cases t0 : wo.ok = true
 ·have HC := Lib.hid (show checkE wo = 0 by simp [checkE, t0])
  by_cases t1 : 1 ≤ kind
  ·by_cases t2 : kind ≤ 6
   ·by_cases t3 : 0 ≤ c
    ·by_cases t4 : c < (wo.cls.length : Int)
     ·by_cases t5 : wo.clock = 1099511627376
      all_goals
       try (have t5' : (wo.clock == 1099511627376) = true := by simpa using t5)
       try (have t5' : (wo.clock == 1099511627376) = false := by simpa using t5)
       have H5 := Lib.hid t5
       clear t5
       go_enter Tryz.func12, Tryz.ntmps12
       go_wp2_with fail
       rw [← HW.out]
       refine (checkWo_any wo RA n rc CA wo.cls.length cc W0 HI.out).mono ?_
       rw [HC.out]
       rintro e w1 ⟨rfl, hb1⟩
       obtain ⟨g0, g1, g2⟩ := box3S k0 k1 k2 hb1
       have g3 := (hb1.cell (p := ⟨w.heap.size + 1, 0, none⟩) hs1).trans l0
       have g4 := (hb1.cell (p := ⟨w.heap.size + 1, 1, none⟩) hs1).trans l1
       go_wp2
       go_ret
       exact ⟨ret_int (by simp [actE, t0, H5.out]; omega), below_next HBW.out hb1⟩
     ·go_enter Tryz.func12, Tryz.ntmps12
      go_wp2_with fail
      rw [← HW.out]
      refine (checkWo_any wo RA n rc CA wo.cls.length cc W0 HI.out).mono ?_
      rw [HC.out]
      rintro e w1 ⟨rfl, hb1⟩
      obtain ⟨g0, g1, g2⟩ := box3S k0 k1 k2 hb1
      have g3 := (hb1.cell (p := ⟨w.heap.size + 1, 0, none⟩) hs1).trans l0
      have g4 := (hb1.cell (p := ⟨w.heap.size + 1, 1, none⟩) hs1).trans l1
      go_wp2
      go_ret
      exact ⟨ret_int (by simp [actE, t0]; omega), below_next HBW.out hb1⟩
    ·go_enter Tryz.func12, Tryz.ntmps12
     go_wp2_with fail
     rw [← HW.out]
     refine (checkWo_any wo RA n rc CA wo.cls.length cc W0 HI.out).mono ?_
     rw [HC.out]
     rintro e w1 ⟨rfl, hb1⟩
     obtain ⟨g0, g1, g2⟩ := box3S k0 k1 k2 hb1
     have g3 := (hb1.cell (p := ⟨w.heap.size + 1, 0, none⟩) hs1).trans l0
     have g4 := (hb1.cell (p := ⟨w.heap.size + 1, 1, none⟩) hs1).trans l1
     go_wp2
     go_ret
     exact ⟨ret_int (by simp [actE, t0]; omega), below_next HBW.out hb1⟩
   ·go_enter Tryz.func12, Tryz.ntmps12
    go_wp2_with fail
    rw [← HW.out]
    refine (checkWo_any wo RA n rc CA wo.cls.length cc W0 HI.out).mono ?_
    rw [HC.out]
    rintro e w1 ⟨rfl, hb1⟩
    have g3 := (hb1.cell (p := ⟨w.heap.size + 1, 0, none⟩) hs1).trans l0
    go_wp2
    go_ret
    exact ⟨ret_int (by simp [actE, t0]; omega), below_next HBW.out hb1⟩
  ·go_enter Tryz.func12, Tryz.ntmps12
   go_wp2_with fail
   rw [← HW.out]
   refine (checkWo_any wo RA n rc CA wo.cls.length cc W0 HI.out).mono ?_
   rw [HC.out]
   rintro e w1 ⟨rfl, hb1⟩
   have g3 := (hb1.cell (p := ⟨w.heap.size + 1, 0, none⟩) hs1).trans l0
   go_wp2
   go_ret
   exact ⟨ret_int (by simp [actE, t0]; omega), below_next HBW.out hb1⟩
 ·have t0 : wo.ok = false := by simpa using t0
  have HC := Lib.hid (show checkE wo = 6 by simp [checkE, t0])
  go_enter Tryz.func12, Tryz.ntmps12
  go_wp2_with fail
  rw [← HW.out]
  refine (checkWo_any wo RA n rc CA wo.cls.length cc W0 HI.out).mono ?_
  rw [HC.out]
  rintro e w1 ⟨rfl, hb1⟩
  go_wp2
  go_ret
  exact ⟨ret_int (by simp [actE, t0]), below_next HBW.out hb1⟩
end Go.Proofs.YtambkjnhfejfaaaGreat
namespace Go.Proofs.YtambkjnhfejfaaaGreat
open Go.ChangeShapes Go.WideShapes Go.ChangeAt Go.RowKit Go.Deep
theorem cells_act : Tryz.prog.cellsOf 27 = 4 := by kernel_rfl
section
variable {H : Type} {enc : TypeId × Value → H} {W : World}
set_option maxRecDepth 100000 in
theorem open_act {r0 : Reach} {base : Nat} {v : Value} {d : DataW H} {p : List MemPlace} (hv : Value.okWide Tryz.prog W r0 base 27 v) (h : DataW.Trod enc Tryz.prog W 0 (fun _ => true) true 27 v d p) :
 ∃ a : ActM, v = actV a ∧ a.key.size ≤ maxLen ∧ a.val.size ≤ maxLen := by
 obtain ⟨cs, rfl, hsz⟩ := okWide_struct Tryz.underlying27 hv
 obtain ⟨lst⟩ := cs
 match lst, hsz.trans cells_act with
 | [v0, v1, v2, v3], _ =>
  obtain ⟨fuel, hf⟩ := h
  obtain ⟨ys, n', _, hx, hlen, hyl, hg⟩ := DataW.trod_struct Tryz.underlying27 hf
  have f0 : DataW.trod enc Tryz.prog W 0 (fun _ => true) true n' 3 (([v0, v1, v2, v3].drop 0).take (Tryz.prog.cellsOf 3)) = ys[0]? := hg 0 _ rfl
  have f1 : DataW.trod enc Tryz.prog W 0 (fun _ => true) true n' 3 (([v0, v1, v2, v3].drop 1).take (Tryz.prog.cellsOf 3)) = ys[1]? := hg 1 _ rfl
  have f2 : DataW.trod enc Tryz.prog W 0 (fun _ => true) true n' 9 (([v0, v1, v2, v3].drop 2).take (Tryz.prog.cellsOf 9)) = ys[2]? := hg 2 _ rfl
  have f3 : DataW.trod enc Tryz.prog W 0 (fun _ => true) true n' 9 (([v0, v1, v2, v3].drop 3).take (Tryz.prog.cellsOf 9)) = ys[3]? := hg 3 _ rfl
  rw [cells_int] at f0 f1
  rw [cells_string] at f2 f3
  match ys, hyl with
  | [y0, y1, y2, y3], _ =>
   simp only [List.drop_zero, List.take_succ_cons, List.take_zero, List.drop_succ_cons, List.getElem?_cons_zero, List.getElem?_cons_succ] at f0 f1 f2 f3
   obtain ⟨p, e0, _, w0⟩ := DataW.trod_int Tryz.underlying3 f0
   obtain ⟨s, e1, _, w1⟩ := DataW.trod_int Tryz.underlying3 f1
   obtain ⟨m, e2, _, w2⟩ := DataW.trod_string Tryz.underlying9 f2
   obtain ⟨a, e3, _, w3⟩ := DataW.trod_string Tryz.underlying9 f3
   simp only [List.cons.injEq, and_true] at e0 e1 e2 e3
   subst e0 e1 e2 e3
   exact ⟨⟨p, s, m, a⟩, rfl, w2, w3⟩
end
end Go.Proofs.YtambkjnhfejfaaaGreat
