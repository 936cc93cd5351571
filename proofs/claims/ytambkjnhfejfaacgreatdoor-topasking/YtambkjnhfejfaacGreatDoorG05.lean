/-
  Contracts of functions of the program and words for memory, several texts in one: TInsWalk. Conditions: those stated with each.
-/
import Derived.Test.YtambkjnhfejfaacGreatDoorG02
import Derived.StillTailTactics
namespace Go.Proofs.YtambkjnhfejfaacGreatDoor
open Go.RowKit

/-- What slices.Insert returns: a slice of a new block. -/
def InsOut (sz : Nat) (cs vs : List Value) (n i : Nat) (w : World) (e : Ending) (w' : World) : Prop :=
  ∃ g c, e = .returned (.slice (some ⟨g, 0, none⟩) (n + 1) c) ∧ n + 1 ≤ c ∧ w.heap.size ≤ g ∧ g < w'.heap.size ∧ CellsAt w' g 0 (cs.take (i * sz) ++ vs ++ cs.drop (i * sz)) ∧ (∀ o, w'.frozen? ⟨g, o, none⟩ = false) ∧ Below w.heap.size w w'

theorem int_under : Tryz.prog.underlying 3 = some (.int .i64) := Tryz.underlying3

set_option maxRecDepth 100000 in
set_option maxHeartbeats 2000000 in
theorem insRow_mid (b bv n i : Nat) (cs vs : List Value) (w : World) (hcl : cs.length = n * 5) (hvl : vs.length = 5) (hc : CellsAt w b 0 cs) (hv : CellsAt w bv 0 vs) (hbw : b < w.heap.size) (hbvw : bv < w.heap.size) (hc1 : ∀ v ∈ cs, v.oneCell' = true) (hv1 : ∀ v ∈ vs, v.oneCell' = true) (hi : i < n) (hn : n ≤ 1000) :
    Calls Tryz.prog 87 #[.slice (some ⟨b, 0, none⟩) n n, .int .i64 i, .slice (some ⟨bv, 0, none⟩) 1 1] w (InsOut 5 cs vs n i w) := by
  obtain ⟨i0, hi0, hz0, hz1, hz2⟩ := info_parts row_info
  obtain ⟨c, W2, W3, W4, hr⟩ := ins_runs (t := 26) (ti := 3) Tryz.underlying26 int_under hi0 hz0 hz1 hz2 rfl (by omega) (by omega) w b bv n i cs vs hcl hvl hc hv hbw hbvw hc1 hv1 hi hn
  have R1 := Lib.hid hr.r1
  have r2 := hr.r2
  have r3 := hr.r3
  have r3' := hr.r3
  rw [show n + 1 - (i + 1) = n - i from by omega] at r3'
  have hcap := hr.cap
  have HR := Lib.hid hr
  have e1 : (((i : Nat) : Int) == (n : Int)) = false := by simp; omega
  have e0 : (0 : Int) ≤ (i : Int) := by omega
  have e2 : (i : Int) < (n : Int) := by omega
  have e3 : ¬ i = n := by omega
  have e4 : ¬ i = c := by omega
  have e5 : ¬ i + 1 = c := by omega
  have e6 : i ≤ c := by omega
  have e7 : i + 1 ≤ n + 1 := by omega
  have e8 : i ≤ n + 1 := by omega
  clear hr hc hv hc1 hv1 hz0 hz1 hz2 hi0
  go_enter Tryz.func87, Tryz.ntmps87
  go_wp2_with (at_builtin; refine wpList_append_to rfl (.tmp 34) (.tmp 39) 26 3 rfl _ _ _ rfl rfl R1.out ?_)
  have w1 : IntKind.i64.wrap ((i : Int) + 1) = (i : Int) + 1 := IntWalk.i64_in _ (by omega)
  have w2 : (0 : Int) ≤ (i : Int) + 1 := by omega
  have w3 : ((i : Int) + 1).toNat = i + 1 := by omega
  have w4 : (i : Int) + 1 ≤ (n : Int) + 1 := by omega
  have w5 : (i : Int) ≤ (n : Int) := by omega
  go_still_tail 8, (by kernel_rfl)
  change wpList _ _ _ _ _ W3.drew
  go_wp2
  go_ret
  obtain ⟨cur, rest, hg, hl⟩ := HR.out.blk
  exact ⟨w.heap.size, c, rfl, hcap, Nat.le_refl _, (Array.getElem?_eq_some_iff.1 hg).1, cellsAt_block hg hl, fun o => Joins.unfrozen_of_block hg o, HR.out.bel⟩

set_option maxHeartbeats 2000000 in
theorem insRow_end (b bv n : Nat) (cs vs : List Value) (w : World) (hcl : cs.length = n * 5) (hvl : vs.length = 5) (hc : CellsAt w b 0 cs) (hv : CellsAt w bv 0 vs) (hn : n ≤ 1000) :
    Calls Tryz.prog 87 #[.slice (some ⟨b, 0, none⟩) n n, .int .i64 n, .slice (some ⟨bv, 0, none⟩) 1 1] w (InsOut 5 cs vs n n w) := by
  obtain ⟨i0, hi0, hz0, hz1, hz2⟩ := info_parts row_info
  have hr := run_append_grow (P := Tryz.prog) w 26 26 45 i0 _ Tryz.underlying26 hi0 hz0 ⟨b, 0, none⟩ n n cs (by rw [hz1]; exact hcl) hc.add ⟨bv, 0, none⟩ 1 1 vs (by rw [hz1, hvl]) hv.add (by omega) (by omega) (growslice_fits (by omega) (by rw [hz2]; omega))
  have hge := grownCap_ge w (n + 1) n 45
  generalize grownCap w (n + 1) n 45 = c at hr hge
  generalize hcur : (cs.toArray ++ vs.toArray ++ Builtin.zeroCells (Value.cells _) (c - (n + 1))) = cur at hr
  have hl : ∃ rest, cur.toList = (cs ++ vs) ++ rest := ⟨_, by rw [← hcur, Array.toList_append, Array.toList_append]⟩
  have hg2 : (w.drew.alloc (.cells cur 45)).heap[w.heap.size]? = some (.cells cur 45 (0, 0)) := heap_alloc_new w.drew _
  have hb2 : Below w.heap.size w (w.drew.alloc (.cells cur 45)) := below_alloc (below_drew (Below.refl _ _)) _
  clear hcur
  generalize w.drew.alloc (.cells cur 45) = W2 at hr hg2 hb2
  have HL := Lib.hid hl
  have HG := Lib.hid hg2
  have HB := Lib.hid hb2
  have HC := Lib.hid hcl
  have e1 : (((n : Nat) : Int) == (n : Int)) = true := by simp
  have e0 : (0 : Int) ≤ (n : Int) := by omega
  have HRUN := Lib.hid hr
  clear hl hg2 hb2 hc hv hcl hvl hz0 hz1 hz2 hi0 hr
  go_enter Tryz.func87, Tryz.ntmps87
  go_wp2_with (at_builtin; refine wpList_append_to rfl (.tmp 23) (.tmp 24) 26 26 rfl _ _ _ rfl rfl HRUN.out ?_)
  go_ret
  obtain ⟨rest, hl⟩ := HL.out
  refine ⟨w.heap.size, c, rfl, hge, Nat.le_refl _, (Array.getElem?_eq_some_iff.1 HG.out).1, ?_, fun o => Joins.unfrozen_of_block HG.out o, HB.out⟩
  have e : cs.take (n * 5) ++ vs ++ cs.drop (n * 5) = cs ++ vs := by rw [List.take_of_length_le (by rw [HC.out]; omega), List.drop_eq_nil_of_le (by rw [HC.out]; omega), List.append_nil]
  rw [e]
  exact cellsAt_block HG.out hl

theorem insRow_any (b bv n i : Nat) (cs vs : List Value) (w : World) (hcl : cs.length = n * 5) (hvl : vs.length = 5) (hc : CellsAt w b 0 cs) (hv : CellsAt w bv 0 vs) (hbw : b < w.heap.size) (hbvw : bv < w.heap.size) (hc1 : ∀ v ∈ cs, v.oneCell' = true) (hv1 : ∀ v ∈ vs, v.oneCell' = true) (hi : i ≤ n) (hn : n ≤ 1000) :
    Calls Tryz.prog 87 #[.slice (some ⟨b, 0, none⟩) n n, .int .i64 i, .slice (some ⟨bv, 0, none⟩) 1 1] w (InsOut 5 cs vs n i w) := by
  rcases Nat.lt_or_ge i n with h | h
  · exact insRow_mid b bv n i cs vs w hcl hvl hc hv hbw hbvw hc1 hv1 h hn
  · obtain rfl : i = n := by omega
    exact insRow_end b bv i cs vs w hcl hvl hc hv hn

set_option maxRecDepth 100000 in
set_option maxHeartbeats 2000000 in
theorem insWr_mid (b bv n i : Nat) (cs vs : List Value) (w : World) (hcl : cs.length = n * 2) (hvl : vs.length = 2) (hc : CellsAt w b 0 cs) (hv : CellsAt w bv 0 vs) (hbw : b < w.heap.size) (hbvw : bv < w.heap.size) (hc1 : ∀ v ∈ cs, v.oneCell' = true) (hv1 : ∀ v ∈ vs, v.oneCell' = true) (hi : i < n) (hn : n ≤ 1000) :
    Calls Tryz.prog 46 #[.slice (some ⟨b, 0, none⟩) n n, .int .i64 i, .slice (some ⟨bv, 0, none⟩) 1 1] w (InsOut 2 cs vs n i w) := by
  obtain ⟨i0, hi0, hz0, hz1, hz2⟩ := info_parts wr_info
  obtain ⟨c, W2, W3, W4, hr⟩ := ins_runs (t := 73) (ti := 3) Tryz.underlying73 int_under hi0 hz0 hz1 hz2 rfl (by omega) (by omega) w b bv n i cs vs hcl hvl hc hv hbw hbvw hc1 hv1 hi hn
  have R1 := Lib.hid hr.r1
  have r2 := hr.r2
  have r3 := hr.r3
  have r3' := hr.r3
  rw [show n + 1 - (i + 1) = n - i from by omega] at r3'
  have hcap := hr.cap
  have HR := Lib.hid hr
  have e1 : (((i : Nat) : Int) == (n : Int)) = false := by simp; omega
  have e0 : (0 : Int) ≤ (i : Int) := by omega
  have e2 : (i : Int) < (n : Int) := by omega
  have e3 : ¬ i = n := by omega
  have e4 : ¬ i = c := by omega
  have e5 : ¬ i + 1 = c := by omega
  have e6 : i ≤ c := by omega
  have e7 : i + 1 ≤ n + 1 := by omega
  have e8 : i ≤ n + 1 := by omega
  clear hr hc hv hc1 hv1 hz0 hz1 hz2 hi0
  go_enter Tryz.func46, Tryz.ntmps46
  go_wp2_with (at_builtin; refine wpList_append_to rfl (.tmp 34) (.tmp 39) 73 3 rfl _ _ _ rfl rfl R1.out ?_)
  have w1 : IntKind.i64.wrap ((i : Int) + 1) = (i : Int) + 1 := IntWalk.i64_in _ (by omega)
  have w2 : (0 : Int) ≤ (i : Int) + 1 := by omega
  have w3 : ((i : Int) + 1).toNat = i + 1 := by omega
  have w4 : (i : Int) + 1 ≤ (n : Int) + 1 := by omega
  have w5 : (i : Int) ≤ (n : Int) := by omega
  go_still_tail 8, (by kernel_rfl)
  change wpList _ _ _ _ _ W3.drew
  go_wp2
  go_ret
  obtain ⟨cur, rest, hg, hl⟩ := HR.out.blk
  exact ⟨w.heap.size, c, rfl, hcap, Nat.le_refl _, (Array.getElem?_eq_some_iff.1 hg).1, cellsAt_block hg hl, fun o => Joins.unfrozen_of_block hg o, HR.out.bel⟩

set_option maxHeartbeats 2000000 in
theorem insWr_end (b bv n : Nat) (cs vs : List Value) (w : World) (hcl : cs.length = n * 2) (hvl : vs.length = 2) (hc : CellsAt w b 0 cs) (hv : CellsAt w bv 0 vs) (hn : n ≤ 1000) :
    Calls Tryz.prog 46 #[.slice (some ⟨b, 0, none⟩) n n, .int .i64 n, .slice (some ⟨bv, 0, none⟩) 1 1] w (InsOut 2 cs vs n n w) := by
  obtain ⟨i0, hi0, hz0, hz1, hz2⟩ := info_parts wr_info
  have hr := run_append_grow (P := Tryz.prog) w 73 73 107 i0 _ Tryz.underlying73 hi0 hz0 ⟨b, 0, none⟩ n n cs (by rw [hz1]; exact hcl) hc.add ⟨bv, 0, none⟩ 1 1 vs (by rw [hz1, hvl]) hv.add (by omega) (by omega) (growslice_fits (by omega) (by rw [hz2]; omega))
  have hge := grownCap_ge w (n + 1) n 107
  generalize grownCap w (n + 1) n 107 = c at hr hge
  generalize hcur : (cs.toArray ++ vs.toArray ++ Builtin.zeroCells (Value.cells _) (c - (n + 1))) = cur at hr
  have hl : ∃ rest, cur.toList = (cs ++ vs) ++ rest := ⟨_, by rw [← hcur, Array.toList_append, Array.toList_append]⟩
  have hg2 : (w.drew.alloc (.cells cur 107)).heap[w.heap.size]? = some (.cells cur 107 (0, 0)) := heap_alloc_new w.drew _
  have hb2 : Below w.heap.size w (w.drew.alloc (.cells cur 107)) := below_alloc (below_drew (Below.refl _ _)) _
  clear hcur
  generalize w.drew.alloc (.cells cur 107) = W2 at hr hg2 hb2
  have HL := Lib.hid hl
  have HG := Lib.hid hg2
  have HB := Lib.hid hb2
  have HC := Lib.hid hcl
  have e1 : (((n : Nat) : Int) == (n : Int)) = true := by simp
  have e0 : (0 : Int) ≤ (n : Int) := by omega
  have HRUN := Lib.hid hr
  clear hl hg2 hb2 hc hv hcl hvl hz0 hz1 hz2 hi0 hr
  go_enter Tryz.func46, Tryz.ntmps46
  go_wp2_with (at_builtin; refine wpList_append_to rfl (.tmp 23) (.tmp 24) 73 73 rfl _ _ _ rfl rfl HRUN.out ?_)
  go_ret
  obtain ⟨rest, hl⟩ := HL.out
  refine ⟨w.heap.size, c, rfl, hge, Nat.le_refl _, (Array.getElem?_eq_some_iff.1 HG.out).1, ?_, fun o => Joins.unfrozen_of_block HG.out o, HB.out⟩
  have e : cs.take (n * 2) ++ vs ++ cs.drop (n * 2) = cs ++ vs := by rw [List.take_of_length_le (by rw [HC.out]; omega), List.drop_eq_nil_of_le (by rw [HC.out]; omega), List.append_nil]
  rw [e]
  exact cellsAt_block HG.out hl

theorem insWr_any (b bv n i : Nat) (cs vs : List Value) (w : World) (hcl : cs.length = n * 2) (hvl : vs.length = 2) (hc : CellsAt w b 0 cs) (hv : CellsAt w bv 0 vs) (hbw : b < w.heap.size) (hbvw : bv < w.heap.size) (hc1 : ∀ v ∈ cs, v.oneCell' = true) (hv1 : ∀ v ∈ vs, v.oneCell' = true) (hi : i ≤ n) (hn : n ≤ 1000) :
    Calls Tryz.prog 46 #[.slice (some ⟨b, 0, none⟩) n n, .int .i64 i, .slice (some ⟨bv, 0, none⟩) 1 1] w (InsOut 2 cs vs n i w) := by
  rcases Nat.lt_or_ge i n with h | h
  · exact insWr_mid b bv n i cs vs w hcl hvl hc hv hbw hbvw hc1 hv1 h hn
  · obtain rfl : i = n := by omega
    exact insWr_end b bv i cs vs w hcl hvl hc hv hn
end Go.Proofs.YtambkjnhfejfaacGreatDoor
