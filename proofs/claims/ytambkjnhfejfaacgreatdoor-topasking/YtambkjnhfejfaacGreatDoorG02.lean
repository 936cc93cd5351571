/-
  Contracts of functions of the program and words for memory, several texts in one: RefMay, RefHeld, RefStatus, Copy, TCopyMem, TCopyCl, TCopy, AppMem, RefCopy, TIns, Seq. Conditions: those stated with each.
-/
import Derived.Test.YtambkjnhfejfaacGreatDoorG00
import Derived.Test.YtambkjnhfejfaacGreatDoorG01
import Derived.BigQuiet
import Derived.Deep.QuietTactic
import Derived.IntWalk
import Derived.WalkLawsBesides
import Derived.Outline
import Derived.Maps.AppendAt
import Derived.RegionTactic
import Derived.OwnWalk
import Derived.Deep.RegionHeld3
namespace Go.Proofs.YtambkjnhfejfaacGreatDoor
open Go.RowKit

end Go.Proofs.YtambkjnhfejfaacGreatDoor

namespace Go.Proofs.YtambkjnhfejfaacGreatDoor
open Go.RowKit

end Go.Proofs.YtambkjnhfejfaacGreatDoor

namespace Go.Proofs.YtambkjnhfejfaacGreatDoor
open Go.RowKit

section
variable (key lp val : ByteArray) (ls : Int) (A : Option Addr) (n c : Nat) (l : List RecM) (st : Int) (w : World)
theorem ret_three {a b a' b' k : Int} (h : a = a') (h' : b = b') : Ending.returned (.tuple #[.int .i64 a, .int .i64 b, .int .i64 k]) = .returned (.tuple #[.int .i64 a', .int .i64 b', .int .i64 k]) := by rw [h, h']

end
end Go.Proofs.YtambkjnhfejfaacGreatDoor

namespace Go.Proofs.YtambkjnhfejfaacGreatDoor
open Go.RowKit

/-- A row that goes out: its value, its records in memory; no old memory has turned. -/
def RowOut (key : ByteArray) (ls : Int) (lp val : ByteArray) (l : List RecM) (w : World) (e : Ending) (w' : World) : Prop :=
  ∃ A c, e = .returned (rowV key ls lp val A l.length c) ∧ RecsAt w' w'.heap.size A l ∧ NewC w.heap.size A l.length c ∧ Below w.heap.size w w'

set_option maxHeartbeats 2000000 in
theorem copy_any (key lp val : ByteArray) (ls : Int) (A : Option Addr) (n c : Nat) (l : List RecM) (w : World) (hn : n = l.length) (hl : RecsAt w w.heap.size A l) :
    Calls Tryz.prog 26 #[rowV key ls lp val A n c] w (RowOut key ls lp val l w) := by
  have hlen := hl.len
  subst hn
  obtain ⟨Z, hZ, hmk⟩ := make_recs l.length hlen
  obtain ⟨W3, hW3⟩ : ∃ W3, W3 = ((w.alloc (.cells #[.string key, .int .i64 ls, .string lp, .string val, .slice A l.length c] 45)).alloc (.cells #[.string ⟨#[]⟩, .int .i64 0, .string ⟨#[]⟩, .string ⟨#[]⟩, .slice none 0 0] 45)).alloc (.cells Z 47) := ⟨_, rfl⟩
  have hb3 : Below w.heap.size w W3 := by rw [hW3]; repeat (first | with_reducible exact Below.refl _ _ | assumption | with_reducible apply below_alloc | with_reducible apply below_drew | with_reducible apply below_drewN | (with_reducible apply below_next; rotate_left; assumption))
  have hs3 : W3.heap.size = w.heap.size + 3 := by rw [hW3]; simp
  obtain ⟨hB0, hB1, hg3⟩ := three_blocks w (.cells #[.string key, .int .i64 ls, .string lp, .string val, .slice A l.length c] 45) (.cells #[.string ⟨#[]⟩, .int .i64 0, .string ⟨#[]⟩, .string ⟨#[]⟩, .slice none 0 0] 45) (.cells Z 47)
  rw [← hW3] at hB0 hB1 hg3
  have hcp := copy_recs W3 3 (w.heap.size + 2) l.length c _ A l Z rfl (hl.upto hb3) hZ hg3
  obtain ⟨W4, hW4⟩ : ∃ W4, W4 = W3.setRow (w.heap.size + 2) (recsC l).toArray := ⟨_, rfl⟩
  rw [← hW4] at hcp
  have hg4 : W4.heap[w.heap.size + 2]? = some (.cells (recsC l).toArray 47 (0, 0)) := by rw [hW4]; exact setRow_heap _ _ _ _ _ _ hg3
  have hb4 : Below (w.heap.size + 2) W3 W4 := by rw [hW4]; exact below_setRow (Below.refl _ _) (Nat.le_refl _) _
  have hD0 := (hb4.block w.heap.size (by omega)).trans hB0
  have hD1 := (hb4.block (w.heap.size + 1) (by omega)).trans hB1
  have hs4 : w.heap.size + 2 < W4.heap.size := by have := hb4.size; omega
  have hbw4 : Below w.heap.size w W4 := hb3.trans (hb4.mono (by omega))
  rw [hW3] at hcp
  have p0 : W4.cell? ⟨w.heap.size, 0, none⟩ = some (.string key) := by rw [Joins.cell_of_block hD0]; rfl
  have p1 : W4.cell? ⟨w.heap.size, 1, none⟩ = some (.int .i64 ls) := by rw [Joins.cell_of_block hD0]; rfl
  have p2 : W4.cell? ⟨w.heap.size, 2, none⟩ = some (.string lp) := by rw [Joins.cell_of_block hD0]; rfl
  have p3 : W4.cell? ⟨w.heap.size, 3, none⟩ = some (.string val) := by rw [Joins.cell_of_block hD0]; rfl
  have p4 : W4.cell? ⟨w.heap.size, 4, none⟩ = some (.slice A l.length c) := by rw [Joins.cell_of_block hD0]; rfl
  have p5 : W4.frozen? ⟨w.heap.size, 4, none⟩ = false := Joins.unfrozen_of_block hD0 _
  have q0 : W4.cell? ⟨w.heap.size + 1, 0, none⟩ = some (.string ⟨#[]⟩) := by rw [Joins.cell_of_block hD1]; rfl
  have q1 : W4.cell? ⟨w.heap.size + 1, 1, none⟩ = some (.int .i64 0) := by rw [Joins.cell_of_block hD1]; rfl
  have q2 : W4.cell? ⟨w.heap.size + 1, 2, none⟩ = some (.string ⟨#[]⟩) := by rw [Joins.cell_of_block hD1]; rfl
  have q3 : W4.cell? ⟨w.heap.size + 1, 3, none⟩ = some (.string ⟨#[]⟩) := by rw [Joins.cell_of_block hD1]; rfl
  have q4 : W4.cell? ⟨w.heap.size + 1, 4, none⟩ = some (.slice none 0 0) := by rw [Joins.cell_of_block hD1]; rfl
  have f0 : W4.frozen? ⟨w.heap.size + 1, 0, none⟩ = false := Joins.unfrozen_of_block hD1 _
  have f1 : W4.frozen? ⟨w.heap.size + 1, 1, none⟩ = false := Joins.unfrozen_of_block hD1 _
  have f2 : W4.frozen? ⟨w.heap.size + 1, 2, none⟩ = false := Joins.unfrozen_of_block hD1 _
  have f3 : W4.frozen? ⟨w.heap.size + 1, 3, none⟩ = false := Joins.unfrozen_of_block hD1 _
  have f4 : W4.frozen? ⟨w.heap.size + 1, 4, none⟩ = false := Joins.unfrozen_of_block hD1 _
  have HG := Lib.hid hg4
  have HB4 := Lib.hid hbw4
  have HL := Lib.hid hl
  clear hg4 hb4 hbw4 hD0 hD1 hW4 hW3 hB0 hB1 hg3 hb3 hs3 hl W3
  go_enter Tryz.func26, Tryz.ntmps26
  go_wp2
  refine bodyPost_ret (v := rowV key ls lp val (some ⟨w.heap.size + 2, 0, none⟩) l.length l.length) (by simp [results, Tryz.results26, go_sem, q0, q1, q2, q3, q4]) rfl ⟨some ⟨w.heap.size + 2, 0, none⟩, l.length, rfl, ?_, ⟨fun ad h => by injection h with h; subst h; show _ ≤ w.heap.size + 2; omega, Nat.le_refl _⟩, ?_⟩
  · refine recsAt_block HL.out.1 HL.out.2.1 ?_ (cur := (recsC l).toArray) (t := 47) (fr := (0, 0)) ?_ (fun j v h => by simpa using h)
    · simp [World.setCell]; omega
    · repeat (rw [Below.heap_setCell _ _ _ _ (by simp)])
      exact HG.out
  · repeat (refine below_set ?_ (by simp) _)
    exact HB4.out

end Go.Proofs.YtambkjnhfejfaacGreatDoor

namespace Go.Proofs.YtambkjnhfejfaacGreatDoor
open Go.RowKit

/-- A write's value, and its cells. -/
abbrev wrV (x : WrM) : Value := .agg #[.string x.k, .string x.v]
def wrC (x : WrM) : List Value := [.string x.k, .string x.v]
def wrsC (l : List WrM) : List Value := l.flatMap wrC
theorem wrsC_cons (r : WrM) (l : List WrM) : wrsC (r :: l) = .string r.k :: .string r.v :: wrsC l := rfl
theorem wrsC_append (a b : List WrM) : wrsC (a ++ b) = wrsC a ++ wrsC b := by simp [wrsC]
theorem wrsC_length (l : List WrM) : (wrsC l).length = l.length * 2 := by
  induction l with
  | nil => rfl
  | cons r l ih => rw [wrsC_cons]; simp [ih]; omega
theorem wrsC_one (l : List WrM) : ∀ v ∈ wrsC l, v.oneCell' = true := by
  induction l with
  | nil => intro v h; cases h
  | cons r l ih =>
    intro v h
    rw [wrsC_cons] at h
    simp only [List.mem_cons] at h
    rcases h with rfl | rfl | h
    · rfl
    · rfl
    · exact ih v h
theorem wrsC_at {l : List WrM} {i : Nat} {r : WrM} (h : l[i]? = some r) : (wrsC l)[i * 2]? = some (.string r.k) ∧ (wrsC l)[i * 2 + 1]? = some (.string r.v) := by
  induction l generalizing i with
  | nil => cases h
  | cons x l ih =>
    rw [wrsC_cons]
    cases i with
    | zero => simp only [List.getElem?_cons_zero, Option.some.injEq] at h; subst h; exact ⟨rfl, rfl⟩
    | succ i =>
      have := ih (i := i) (by simpa using h)
      have e : (i + 1) * 2 = i * 2 + 2 := by omega
      rw [e]
      exact this
theorem SeqAt.wrCells {w : World} {P : Nat → Prop} {b o : Nat} {l : List WrM} (h : WrsAt w P (some ⟨b, o, none⟩) l) : ∀ j v, (wrsC l)[j]? = some v → w.cell? ⟨b, o + j, none⟩ = some v := by
  intro j v hj
  have hjl : j < l.length * 2 := by rw [← wrsC_length]; exact (List.getElem?_eq_some_iff.1 hj).1
  have hi : j / 2 < l.length := by omega
  obtain ⟨b', o', hA, _, hr⟩ := SeqAt.at_ h (i := j / 2) (List.getElem?_eq_getElem hi)
  have hA' : b = b' ∧ o = o' := by injection hA with hA; injection hA with h1 h2; exact ⟨h1, h2⟩
  obtain ⟨rfl, rfl⟩ := hA'
  obtain ⟨a0, a1⟩ := wrsC_at (List.getElem?_eq_getElem hi)
  have hm : j % 2 = 0 ∨ j % 2 = 1 := by omega
  rcases hm with hm | hm
  · rw [show j / 2 * 2 = j by omega] at a0
    rw [hj] at a0
    rw [a0, show o + j = o + j / 2 * 2 by omega]; exact hr.k
  · rw [show j / 2 * 2 + 1 = j by omega] at a1
    rw [hj] at a1
    rw [a1, show o + j = o + j / 2 * 2 + 1 by omega]; exact hr.v
/-- A block whose first cells are writes. -/
theorem wrsAt_block {w : World} {P : Nat → Prop} {g : Nat} {l : List WrM} {cur : Array Value} {t : TypeId} {fr : Nat × Nat} (hlen : l.length ≤ 4398046511104) (hok : ∀ x ∈ l, x.k.size ≤ maxLen ∧ x.v.size ≤ maxLen) (hB : P g) (hg : w.heap[g]? = some (.cells cur t fr))
    (hc : ∀ (j : Nat) v, (wrsC l)[j]? = some v → cur[j]? = some v) : WrsAt w P (some ⟨g, 0, none⟩) l :=
  SeqAt.block hlen hB fun i r hr => by
    obtain ⟨a0, a1⟩ := wrsC_at hr
    exact ⟨by rw [Joins.cell_of_block hg]; exact hc _ _ a0, by rw [Joins.cell_of_block hg]; exact hc _ _ a1, hok r (List.mem_of_getElem? hr)⟩
theorem SeqAt.wrOk {w : World} {P : Nat → Prop} {A : Option Addr} {l : List WrM} (h : WrsAt w P A l) : ∀ x ∈ l, x.k.size ≤ maxLen ∧ x.v.size ≤ maxLen := by
  intro x hx
  obtain ⟨i, hi⟩ := List.getElem?_of_mem hx
  obtain ⟨_, _, _, _, hr⟩ := SeqAt.at_ h hi
  exact hr.ok

theorem wr_info : (Tryz.prog.info? 107).map (fun i => (i.zero, i.size, i.bytes)) = some (some (.agg #[.string ⟨#[]⟩, .string ⟨#[]⟩]), 2, 32) := by kernel_rfl
theorem row_info : (Tryz.prog.info? 45).map (fun i => (i.zero, i.size, i.bytes)) = some (some (.agg #[.string ⟨#[]⟩, .int .i64 0, .string ⟨#[]⟩, .string ⟨#[]⟩, .slice none 0 0]), 5, 80) := by kernel_rfl
theorem cl_info : (Tryz.prog.info? 75).map (fun i => (i.zero, i.size, i.bytes)) = some (some (.agg #[.int .i64 0, .int .i64 0, .int .i64 0, .slice none 0 0, .int .i64 0]), 5, 56) := by kernel_rfl

/-- make([]Write, n). -/
theorem make_wrs (n : Nat) (hn : n ≤ 4398046511104) : ∃ Z : Array Value, Z.size = n * 2 ∧ ∀ W : World, (Instr.makeSlice 73 (.int .i64 (n : Int)) (.int .i64 (n : Int))).run Tryz.prog W =
    .ok (.slice (some ⟨W.heap.size, 0, none⟩) n n) (W.alloc (.cells Z 107)) := by
  obtain ⟨i0, hi0, hz0, hz1, hz2⟩ := info_parts wr_info
  refine ⟨madeCells (Value.agg #[.string ⟨#[]⟩, .string ⟨#[]⟩]).cells (n * 2), by rw [size_madeCells], fun W => ?_⟩
  have h := run_make (P := Tryz.prog) W 73 107 i0 _ Tryz.underlying73 hi0 hz0 .i64 .i64 (n : Int) (n : Int) (by omega) (by omega) (by rw [hz2]; omega) (by omega)
  simp only [Int.toNat_natCast, hz1] at h
  exact h
/-- make([]Row, n). -/
theorem make_rows (n : Nat) (hn : n ≤ 1759218604441) : ∃ Z : Array Value, Z.size = n * 5 ∧ ∀ W : World, (Instr.makeSlice 26 (.int .i64 (n : Int)) (.int .i64 (n : Int))).run Tryz.prog W =
    .ok (.slice (some ⟨W.heap.size, 0, none⟩) n n) (W.alloc (.cells Z 45)) := by
  obtain ⟨i0, hi0, hz0, hz1, hz2⟩ := info_parts row_info
  refine ⟨madeCells (Value.agg #[.string ⟨#[]⟩, .int .i64 0, .string ⟨#[]⟩, .string ⟨#[]⟩, .slice none 0 0]).cells (n * 5), by rw [size_madeCells], fun W => ?_⟩
  have h := run_make (P := Tryz.prog) W 26 45 i0 _ Tryz.underlying26 hi0 hz0 .i64 .i64 (n : Int) (n : Int) (by omega) (by omega) (by rw [hz2]; omega) (by omega)
  simp only [Int.toNat_natCast, hz1] at h
  exact h
/-- make([]Client, n). -/
theorem make_cls (n : Nat) (hn : n ≤ 2513169434917) : ∃ Z : Array Value, Z = madeCells (Value.agg #[.int .i64 0, .int .i64 0, .int .i64 0, .slice none 0 0, .int .i64 0]).cells (n * 5) ∧ Z.size = n * 5 ∧ ∀ W : World, (Instr.makeSlice 27 (.int .i64 (n : Int)) (.int .i64 (n : Int))).run Tryz.prog W =
    .ok (.slice (some ⟨W.heap.size, 0, none⟩) n n) (W.alloc (.cells Z 75)) := by
  obtain ⟨i0, hi0, hz0, hz1, hz2⟩ := info_parts cl_info
  refine ⟨madeCells (Value.agg #[.int .i64 0, .int .i64 0, .int .i64 0, .slice none 0 0, .int .i64 0]).cells (n * 5), rfl, by rw [size_madeCells], fun W => ?_⟩
  have h := run_make (P := Tryz.prog) W 27 75 i0 _ Tryz.underlying27 hi0 hz0 .i64 .i64 (n : Int) (n : Int) (by omega) (by omega) (by rw [hz2]; omega) (by omega)
  simp only [Int.toNat_natCast, hz1] at h
  exact h

/-- copy of n writes into a row of that size. -/
theorem copy_wrs (W : World) (ty : TypeId) (g n c : Nat) (P : Nat → Prop) (A : Option Addr) (l : List WrM) (Z : Array Value) (hn : n = l.length) (hl : WrsAt W P A l) (hZ : Z.size = n * 2) (hg : W.heap[g]? = some (.cells Z 107 (0, 0))) :
    (Builtin.copy_ #[73, 73] ty #[.slice (some ⟨g, 0, none⟩) n n, .slice A n c]).run Tryz.prog W = .ok (goInt n) (W.setRow g (wrsC l).toArray) := by
  obtain ⟨i0, hi0, _, hz1, _⟩ := info_parts wr_info
  rcases Nat.eq_zero_or_pos n with h0 | h0
  · subst h0
    have : l = [] := List.eq_nil_of_length_eq_zero hn.symm
    subst this
    have hZ0 : Z = #[] := Array.eq_empty_of_size_eq_zero (by omega)
    subst hZ0
    have e : W.setRow g (wrsC []).toArray = W := setRow_self W g #[] _ _ hg
    rw [e]
    cases A with
    | none => simp [Builtin.copy_, run_underlying Tryz.underlying73, Builtin.lenOf, Builtin.firstCells, sizeOf, typeInfo, hi0, storeCells]
    | some a =>
      have h1 := run_loadCells_list (P := Tryz.prog) W a [] (by simp)
      simp only [List.length_nil] at h1
      simp [Builtin.copy_, run_underlying Tryz.underlying73, Builtin.lenOf, Builtin.firstCells, sizeOf, typeInfo, hi0, storeCells, h1]
  · obtain ⟨b, o, rfl, _, _⟩ := hl.2 (by omega)
    have hsrc : ∀ j v, (wrsC l)[j]? = some v → W.cell? ((⟨b, o, none⟩ : Addr).add j) = some v := by
      intro j v hj
      have e : (⟨b, o, none⟩ : Addr).add j = ⟨b, o + j, none⟩ := by unfold Addr.add; split <;> simp_all
      rw [e]
      exact SeqAt.wrCells hl j v hj
    have h1 := run_loadCells_list (P := Tryz.prog) W ⟨b, o, none⟩ (wrsC l) hsrc
    have h2 := run_storeCells_at Tryz.prog g 0 107 (wrsC l) 0 Z W hg (by rw [wrsC_length]; omega) (wrsC_one l)
    have hd : Z.toList.drop (wrsC l).length = [] := List.drop_eq_nil_of_le (by rw [wrsC_length]; simp; omega)
    have hlen : (wrsC l).length = n * 2 := by rw [wrsC_length, hn]
    rw [hlen] at h1
    simp only [Nat.zero_add, List.take_zero, List.nil_append, hd, List.append_nil] at h2
    simp [Builtin.copy_, run_underlying Tryz.underlying73, Builtin.lenOf, Builtin.firstCells, sizeOf, typeInfo, hi0, hz1, h1, h2]
end Go.Proofs.YtambkjnhfejfaacGreatDoor

namespace Go.Proofs.YtambkjnhfejfaacGreatDoor
open Go.RowKit

/-- A client's value. -/
abbrev clV (c : ClM) (A : Option Addr) (n k : Nat) : Value := .agg #[.int .i64 c.ph, .int .i64 c.st, .int .i64 c.cm, .slice A n k, .int .i64 c.at_]
/-- A client that goes out: its writes lie in the third new block. -/
def ClOut (c : ClM) (w : World) (e : Ending) (w' : World) : Prop :=
  e = .returned (clV c (some ⟨w.heap.size + 2, 0, none⟩) c.ws.length c.ws.length) ∧ WrsAt w' (· = w.heap.size + 2) (some ⟨w.heap.size + 2, 0, none⟩) c.ws ∧ w.heap.size + 2 < w'.heap.size ∧ (∀ o, w'.frozen? ⟨w.heap.size + 2, o, none⟩ = false) ∧ Below w.heap.size w w'

set_option maxHeartbeats 2000000 in
theorem copyClient_any (c : ClM) (A : Option Addr) (n k : Nat) (w : World) (hn : n = c.ws.length) (hl : WrsAt w (· < w.heap.size) A c.ws) :
    Calls Tryz.prog 27 #[clV c A n k] w (ClOut c w) := by
  have hlen := hl.1
  subst hn
  obtain ⟨ph, st, cm, l, a⟩ := c
  dsimp only at hl hlen ⊢
  obtain ⟨Z, hZ, hmk⟩ := make_wrs l.length hlen
  obtain ⟨W3, hW3⟩ : ∃ W3, W3 = ((w.alloc (.cells #[.int .i64 ph, .int .i64 st, .int .i64 cm, .slice A l.length k, .int .i64 a] 75)).alloc (.cells #[.int .i64 0, .int .i64 0, .int .i64 0, .slice none 0 0, .int .i64 0] 75)).alloc (.cells Z 107) := ⟨_, rfl⟩
  have hb3 : Below w.heap.size w W3 := by rw [hW3]; repeat (first | with_reducible exact Below.refl _ _ | assumption | with_reducible apply below_alloc | with_reducible apply below_drew | with_reducible apply below_drewN | (with_reducible apply below_next; rotate_left; assumption))
  have hs3 : W3.heap.size = w.heap.size + 3 := by rw [hW3]; simp
  obtain ⟨hB0, hB1, hg3⟩ := three_blocks w (.cells #[.int .i64 ph, .int .i64 st, .int .i64 cm, .slice A l.length k, .int .i64 a] 75) (.cells #[.int .i64 0, .int .i64 0, .int .i64 0, .slice none 0 0, .int .i64 0] 75) (.cells Z 107)
  rw [← hW3] at hB0 hB1 hg3
  have hl3 : WrsAt W3 (· < W3.heap.size) A l := SeqAt.wrs hl (below_mem hb3).1 (below_mem hb3).2
  have hcp := copy_wrs W3 3 (w.heap.size + 2) l.length k _ A l Z rfl hl3 hZ hg3
  obtain ⟨W4, hW4⟩ : ∃ W4, W4 = W3.setRow (w.heap.size + 2) (wrsC l).toArray := ⟨_, rfl⟩
  rw [← hW4] at hcp
  have hg4 : W4.heap[w.heap.size + 2]? = some (.cells (wrsC l).toArray 107 (0, 0)) := by rw [hW4]; exact setRow_heap _ _ _ _ _ _ hg3
  have hb4 : Below (w.heap.size + 2) W3 W4 := by rw [hW4]; exact below_setRow (Below.refl _ _) (Nat.le_refl _) _
  have hD0 := (hb4.block w.heap.size (by omega)).trans hB0
  have hD1 := (hb4.block (w.heap.size + 1) (by omega)).trans hB1
  have hs4 : w.heap.size + 2 < W4.heap.size := by have := hb4.size; omega
  have hbw4 : Below w.heap.size w W4 := hb3.trans (hb4.mono (by omega))
  rw [hW3] at hcp
  have p0 : W4.cell? ⟨w.heap.size, 0, none⟩ = some (.int .i64 ph) := by rw [Joins.cell_of_block hD0]; rfl
  have p1 : W4.cell? ⟨w.heap.size, 1, none⟩ = some (.int .i64 st) := by rw [Joins.cell_of_block hD0]; rfl
  have p2 : W4.cell? ⟨w.heap.size, 2, none⟩ = some (.int .i64 cm) := by rw [Joins.cell_of_block hD0]; rfl
  have p3 : W4.cell? ⟨w.heap.size, 3, none⟩ = some (.slice A l.length k) := by rw [Joins.cell_of_block hD0]; rfl
  have p4 : W4.cell? ⟨w.heap.size, 4, none⟩ = some (.int .i64 a) := by rw [Joins.cell_of_block hD0]; rfl
  have p5 : W4.frozen? ⟨w.heap.size, 3, none⟩ = false := Joins.unfrozen_of_block hD0 _
  have q0 : W4.cell? ⟨w.heap.size + 1, 0, none⟩ = some (.int .i64 0) := by rw [Joins.cell_of_block hD1]; rfl
  have q1 : W4.cell? ⟨w.heap.size + 1, 1, none⟩ = some (.int .i64 0) := by rw [Joins.cell_of_block hD1]; rfl
  have q2 : W4.cell? ⟨w.heap.size + 1, 2, none⟩ = some (.int .i64 0) := by rw [Joins.cell_of_block hD1]; rfl
  have q3 : W4.cell? ⟨w.heap.size + 1, 3, none⟩ = some (.slice none 0 0) := by rw [Joins.cell_of_block hD1]; rfl
  have q4 : W4.cell? ⟨w.heap.size + 1, 4, none⟩ = some (.int .i64 0) := by rw [Joins.cell_of_block hD1]; rfl
  have f0 : W4.frozen? ⟨w.heap.size + 1, 0, none⟩ = false := Joins.unfrozen_of_block hD1 _
  have f1 : W4.frozen? ⟨w.heap.size + 1, 1, none⟩ = false := Joins.unfrozen_of_block hD1 _
  have f2 : W4.frozen? ⟨w.heap.size + 1, 2, none⟩ = false := Joins.unfrozen_of_block hD1 _
  have f3 : W4.frozen? ⟨w.heap.size + 1, 3, none⟩ = false := Joins.unfrozen_of_block hD1 _
  have f4 : W4.frozen? ⟨w.heap.size + 1, 4, none⟩ = false := Joins.unfrozen_of_block hD1 _
  have HG := Lib.hid hg4
  have HB4 := Lib.hid hbw4
  have HL := Lib.hid hl
  have HOK := Lib.hid (SeqAt.wrOk hl)
  clear hg4 hb4 hbw4 hD0 hD1 hW4 hW3 hB0 hB1 hg3 hb3 hs3 hl hl3 W3
  go_enter Tryz.func27, Tryz.ntmps27
  go_wp2
  refine bodyPost_ret (v := clV ⟨ph, st, cm, l, a⟩ (some ⟨w.heap.size + 2, 0, none⟩) l.length l.length) (by simp [results, Tryz.results27, go_sem, q0, q1, q2, q3, q4]) rfl ⟨rfl, ?_, ?_, ?_, ?_⟩
  · refine wrsAt_block HL.out.1 HOK.out rfl (cur := (wrsC l).toArray) (t := 107) (fr := (0, 0)) ?_ (fun j v h => by simpa using h)
    repeat (rw [Below.heap_setCell _ _ _ _ (by simp)])
    exact HG.out
  · simp [World.setCell]; omega
  · intro o
    simp only [World.frozen?_setCell]
    exact Joins.unfrozen_of_block HG.out _
  · repeat (refine below_set ?_ (by simp) _)
    exact HB4.out
end Go.Proofs.YtambkjnhfejfaacGreatDoor

namespace Go.Proofs.YtambkjnhfejfaacGreatDoor
open Go.RowKit

/-- The first k rows lie in block g. -/
structure RowsDone (g : Nat) (l : List RowM) (k : Nat) (wr : World) : Prop where
  blk : ∃ cur, wr.heap[g]? = some (.cells cur 45 (0, 0)) ∧ cur.size = l.length * 5
  rows : ∀ i r, i < k → l[i]? = some r → RowAt wr (fun b => g < b ∧ b < wr.heap.size) g (i * 5) r
/-- The first k clients lie in block g. -/
structure ClsDone (g : Nat) (l : List ClM) (k : Nat) (wb : Nat → Nat) (wr : World) : Prop where
  blk : ∃ cur, wr.heap[g]? = some (.cells cur 75 (0, 0)) ∧ cur.size = l.length * 5
  cls : ∀ i c, i < k → l[i]? = some c → ClAt wr (· = wb i) g (i * 5) c
  wB : ∀ i, i < k → g < wb i ∧ wb i < wr.heap.size
  inc : ∀ i j, i < j → j < k → wb i < wb j
  wf : ∀ i o, i < k → wr.frozen? ⟨wb i, o, none⟩ = false
  tight : ∀ i c, i < k → l[i]? = some c → wr.cell? ⟨g, i * 5 + 3, none⟩ = some (.slice (some ⟨wb i, 0, none⟩) c.ws.length c.ws.length)

theorem block_cell {w : World} {g j n : Nat} {cur : Array Value} {t : TypeId} (hg : w.heap[g]? = some (.cells cur t (0, 0))) (hn : cur.size = n) (hj : j < n) : ∃ v, w.cell? ⟨g, j, none⟩ = some v ∧ w.frozen? ⟨g, j, none⟩ = false :=
  ⟨cur[j]'(by omega), by rw [Joins.cell_of_block hg]; simp [hn, hj], Joins.unfrozen_of_block hg _⟩
theorem block_set {w : World} {g o n : Nat} {t : TypeId} (h : ∃ cur, w.heap[g]? = some (.cells cur t (0, 0)) ∧ cur.size = n) (u : Value) : ∃ cur, (w.setCell ⟨g, o, none⟩ u).heap[g]? = some (.cells cur t (0, 0)) ∧ cur.size = n := by
  obtain ⟨cur, hg, hn⟩ := h
  refine ⟨cur.modify o (fun _ => u), ?_, by simpa using hn⟩
  simp only [World.setCell, Array.getElem?_modify, if_true, hg, Option.map_some]
  rfl

section
variable {g k : Nat} {l : List RowM} {m : List ClM} {wb : Nat → Nat} {w w' : World}
theorem RowsDone.lt (h : RowsDone g l k w) : g < w.heap.size := by obtain ⟨_, h, _⟩ := h.blk; exact (Array.getElem?_eq_some_iff.1 h).1
theorem RowsDone.upto (h : RowsDone g l k w) (hb : Below w.heap.size w w') : RowsDone g l k w' := by
  obtain ⟨cur, hg, hn⟩ := h.blk
  obtain ⟨h1, h2⟩ := below_mem hb
  exact ⟨⟨cur, (hb.block g h.lt).trans hg, hn⟩, fun i r hi hr => (h.rows i r hi hr).mono (fun b hb => ⟨hb.1, h1 b hb.2⟩) (fun b k hb => h2 b k hb.2) (fun k _ _ => h2 g k h.lt)⟩
theorem RowsDone.cell (h : RowsDone g l k w) (hk : k < l.length) (j : Nat) (hj : j < 5) : ∃ v, w.cell? ⟨g, k * 5 + j, none⟩ = some v ∧ w.frozen? ⟨g, k * 5 + j, none⟩ = false := by
  obtain ⟨cur, hg, hn⟩ := h.blk
  exact block_cell hg hn (by omega)
theorem RowsDone.step (h : RowsDone g l k w) {r : RowM} {A : Option Addr} {c : Nat} (hr : l[k]? = some r) (hl : RecsAt w w.heap.size A r.recs) (hn : NewAt (g + 1) A) (hc : r.recs.length ≤ c) (hok : RowOk r) :
    RowsDone g l (k + 1) (set5 w g (k * 5) (.string r.key) (.int .i64 r.ls) (.string r.lp) (.string r.val) (.slice A r.recs.length c)) := by
  have hk := (List.getElem?_eq_some_iff.1 hr).1
  have hs := set5_same w g (k * 5) (.string r.key) (.int .i64 r.ls) (.string r.lp) (.string r.val) (.slice A r.recs.length c)
  obtain ⟨_, e0, _⟩ := h.cell hk 0 (by omega)
  obtain ⟨_, e1, _⟩ := h.cell hk 1 (by omega)
  obtain ⟨_, e2, _⟩ := h.cell hk 2 (by omega)
  obtain ⟨_, e3, _⟩ := h.cell hk 3 (by omega)
  obtain ⟨_, e4, _⟩ := h.cell hk 4 (by omega)
  obtain ⟨a0, a1, a2, a3, a4⟩ := set5_at e0 e1 e2 e3 e4 (.string r.key) (.int .i64 r.ls) (.string r.lp) (.string r.val) (.slice A r.recs.length c)
  refine ⟨block_set (block_set (block_set (block_set (block_set h.blk _) _) _) _) _, fun i x hi hx => ?_⟩
  rw [hs.sz]
  by_cases e : i = k
  · subst e
    rw [hr] at hx
    injection hx with hx
    subst hx
    refine ⟨a0, a1, a2, a3, ⟨A, c, a4, hc, ?_⟩, hok⟩
    refine (RecsAt.in_ (P := fun b => g < b ∧ b < w.heap.size) hl fun ad hA hb => ⟨by have := hn ad hA; omega, hb⟩).mono (fun _ hb => hb) fun b k' hb => hs.cell _ fun e => ?_
    have : b = g := e.1
    omega
  · refine (h.rows i x (by omega) hx).mono (fun _ hb => hb) (fun b k' hb => hs.cell _ fun e => ?_) (fun k' h1 h2 => hs.cell _ fun e' => ?_)
    · have : b = g := e.1
      omega
    · have h3 : k * 5 ≤ k' := e'.2.1
      have h4 : k' < k * 5 + 5 := e'.2.2
      omega
theorem ClsDone.lt (h : ClsDone g m k wb w) : g < w.heap.size := by obtain ⟨_, h, _⟩ := h.blk; exact (Array.getElem?_eq_some_iff.1 h).1
theorem ClsDone.upto (h : ClsDone g m k wb w) (hb : Below w.heap.size w w') : ClsDone g m k wb w' := by
  obtain ⟨cur, hg, hn⟩ := h.blk
  obtain ⟨h1, h2⟩ := below_mem hb
  exact ⟨⟨cur, (hb.block g h.lt).trans hg, hn⟩, fun i r hi hr => (h.cls i r hi hr).mono (fun b hb => hb) (fun b k hp => h2 b k (by rw [hp]; exact (h.wB i hi).2)) (fun k _ _ => h2 g k h.lt), fun i hi => ⟨(h.wB i hi).1, h1 _ (h.wB i hi).2⟩, h.inc, fun i o hi => ((bcell hb).2 _ o (h.wB i hi).2).trans (h.wf i o hi), fun i c hi hc => (h2 g _ h.lt).trans (h.tight i c hi hc)⟩
theorem ClsDone.cell (h : ClsDone g m k wb w) (hk : k < m.length) (j : Nat) (hj : j < 5) : ∃ v, w.cell? ⟨g, k * 5 + j, none⟩ = some v ∧ w.frozen? ⟨g, k * 5 + j, none⟩ = false := by
  obtain ⟨cur, hg, hn⟩ := h.blk
  exact block_cell hg hn (by omega)
theorem ClsDone.step (h : ClsDone g m k wb w) {c : ClM} {b : Nat} (hr : m[k]? = some c) (hl : WrsAt w (· = b) (some ⟨b, 0, none⟩) c.ws) (hg : g < b) (hb : b < w.heap.size) (hi : ∀ i, i < k → wb i < b) (hf : ∀ o, w.frozen? ⟨b, o, none⟩ = false) (hok : ClOk c) :
    ClsDone g m (k + 1) (fun i => if i = k then b else wb i) (set5 w g (k * 5) (.int .i64 c.ph) (.int .i64 c.st) (.int .i64 c.cm) (.slice (some ⟨b, 0, none⟩) c.ws.length c.ws.length) (.int .i64 c.at_)) := by
  have hk := (List.getElem?_eq_some_iff.1 hr).1
  have hs := set5_same w g (k * 5) (.int .i64 c.ph) (.int .i64 c.st) (.int .i64 c.cm) (.slice (some ⟨b, 0, none⟩) c.ws.length c.ws.length) (.int .i64 c.at_)
  obtain ⟨_, e0, _⟩ := h.cell hk 0 (by omega)
  obtain ⟨_, e1, _⟩ := h.cell hk 1 (by omega)
  obtain ⟨_, e2, _⟩ := h.cell hk 2 (by omega)
  obtain ⟨_, e3, _⟩ := h.cell hk 3 (by omega)
  obtain ⟨_, e4, _⟩ := h.cell hk 4 (by omega)
  obtain ⟨a0, a1, a2, a3, a4⟩ := set5_at e0 e1 e2 e3 e4 (.int .i64 c.ph) (.int .i64 c.st) (.int .i64 c.cm) (.slice (some ⟨b, 0, none⟩) c.ws.length c.ws.length) (.int .i64 c.at_)
  refine ⟨block_set (block_set (block_set (block_set (block_set h.blk _) _) _) _) _, fun i x hi' hx => ?_, fun i hi' => ?_, fun i j hij hj => ?_, fun i o hi' => ?_, fun i x hi' hx => ?_⟩
  · by_cases e : i = k
    · subst e
      rw [hr] at hx
      injection hx with hx
      subst hx
      simp only [if_true]
      refine ⟨a0, a1, a2, ⟨_, _, a3, Nat.le_refl _, ?_⟩, a4, hok⟩
      refine SeqAt.wrs hl (fun _ hb => hb) fun b' k' hb' => hs.cell _ fun e => ?_
      have : b' = g := e.1
      omega
    · simp only [e, if_false]
      have hik : i < k := by omega
      refine (h.cls i x hik hx).mono (fun _ hb => hb) (fun b' k' hb' => hs.cell _ fun e => ?_) (fun k' h1 h2 => hs.cell _ fun e' => ?_)
      · have : b' = g := e.1
        have := (h.wB i hik).1
        omega
      · have h3 : k * 5 ≤ k' := e'.2.1
        have h4 : k' < k * 5 + 5 := e'.2.2
        omega
  · rw [hs.sz]
    by_cases e : i = k
    · simp only [e, if_true]; exact ⟨hg, hb⟩
    · simp only [e, if_false]; exact h.wB i (by omega)
  · by_cases e : j = k
    · have e' : ¬ i = k := by omega
      simp only [e, e', if_true, if_false]; exact hi i (by omega)
    · have e' : ¬ i = k := by omega
      simp only [e, e', if_false]; exact h.inc i j hij (by omega)
  · rw [hs.fr]
    by_cases e : i = k
    · simp only [e, if_true]; exact hf o
    · simp only [e, if_false]; exact h.wf i o (by omega)
  · by_cases e : i = k
    · subst e
      have hx := Option.some.inj (hr.symm.trans hx)
      subst hx
      rw [if_pos rfl]
      exact a3
    · simp only [e, if_false]
      refine (hs.cell _ fun e' => ?_).trans (h.tight i x (by omega) hx)
      have h3 : k * 5 ≤ i * 5 + 3 := e'.2.1
      have h4 : i * 5 + 3 < k * 5 + 5 := e'.2.2
      omega
end

theorem RowsDone.same {g k : Nat} {l : List RowM} {w w' : World} {S : Addr → Prop} (h : RowsDone g l k w) (hs : Same w w' S) (hS : ∀ p, S p → p.block < g) (hg : w'.heap[g]? = w.heap[g]?) : RowsDone g l k w' := by
  obtain ⟨cur, hc, hn⟩ := h.blk
  refine ⟨⟨cur, hg.trans hc, hn⟩, fun i r hi hr => ?_⟩
  rw [hs.sz]
  refine (h.rows i r hi hr).mono (fun b hb => hb) (fun b k hb => hs.cell _ fun e => ?_) (fun k _ _ => hs.cell _ fun e => ?_)
  · have := hS _ e
    have : b < g := this
    omega
  · have := hS _ e
    have : g < g := this
    omega
theorem ClsDone.same {g k : Nat} {m : List ClM} {wb : Nat → Nat} {w w' : World} {S : Addr → Prop} (h : ClsDone g m k wb w) (hs : Same w w' S) (hS : ∀ p, S p → p.block < g) (hg : w'.heap[g]? = w.heap[g]?) : ClsDone g m k wb w' := by
  obtain ⟨cur, hc, hn⟩ := h.blk
  refine ⟨⟨cur, hg.trans hc, hn⟩, fun i c hi hr => ?_, fun i hi => by rw [hs.sz]; exact h.wB i hi, h.inc, fun i o hi => (hs.fr _).trans (h.wf i o hi), fun i c hi hc => (hs.cell _ fun e => by have : g < g := hS _ e; omega).trans (h.tight i c hi hc)⟩
  refine (h.cls i c hi hr).mono (fun b hb => hb) (fun b k hb => hs.cell _ fun e => ?_) (fun k _ _ => hs.cell _ fun e => ?_)
  · have : b < g := hS _ e
    have := (h.wB i hi).1
    omega
  · have : g < g := hS _ e
    omega

/-- A world that goes out, in new memory. -/
def WoOut (wo : WoM) (w : World) (e : Ending) (w' : World) : Prop :=
  ∃ bR bC wb, e = .returned (woV (some ⟨bR, 0, none⟩) wo.rows.length wo.rows.length wo.clock (some ⟨bC, 0, none⟩) wo.cls.length wo.cls.length) ∧ Core w' w.heap.size (fun b => b < w.heap.size) bR bC wb wo ∧ Below w.heap.size w w' ∧ ∀ i c, wo.cls[i]? = some c → w'.cell? ⟨bC, i * 5 + 3, none⟩ = some (.slice (some ⟨wb i, 0, none⟩) c.ws.length c.ws.length)

/-- From rows and clients that are done to a world. -/
theorem core_of {w : World} {B bR bC : Nat} {wb : Nat → Nat} {wo : WoM} (hR : RowsDone bR wo.rows wo.rows.length w) (hC : ClsDone bC wo.cls wo.cls.length wb w) (hB : B ≤ bR) (hlt : bR < bC) (hrecs : ∀ i r, wo.rows[i]? = some r → RowAt w (fun b => bR < b ∧ b < bC) bR (i * 5) r) (rl : wo.rows.length ≤ 1759218604441) (cl : wo.cls.length ≤ 2513169434917) (ck : i64 wo.clock) :
    Core w B (fun b => b < B) bR bC wb wo := by
  obtain ⟨cur, hg, _⟩ := hR.blk
  obtain ⟨cur', hg', _⟩ := hC.blk
  refine ⟨⟨hB, hR.lt, by omega⟩, ⟨by omega, hC.lt, by omega⟩, by omega, fun i hi => ?_, fun i j hi hj e => ?_, fun o => Joins.unfrozen_of_block hg o, fun o => Joins.unfrozen_of_block hg' o, hC.wf, fun i r hr => ?_, fun i c hc => hC.cls i c (List.getElem?_eq_some_iff.1 hc).1 hc, rl, cl, ck⟩
  · obtain ⟨a, b⟩ := hC.wB i hi
    exact ⟨by omega, b, by omega, by omega, by omega⟩
  · rcases Nat.lt_trichotomy i j with h | h | h
    · have := hC.inc i j h hj; omega
    · exact h
    · have := hC.inc j i h hi; omega
  · have hlt' := hC.lt
    refine (hrecs i r hr).mono (fun b hb => ⟨by omega, by omega, by omega, by omega, fun j hj => ?_⟩) (fun _ _ _ => rfl) (fun _ _ _ => rfl)
    have := (hC.wB j hj).1
    omega
end Go.Proofs.YtambkjnhfejfaacGreatDoor

namespace Go.Proofs.YtambkjnhfejfaacGreatDoor
open Go.RowKit

/-- A slice value that owns records. -/
def OwnsRecs (w : World) (base : Nat) (v : Value) (l : List RecM) : Prop := w.ownsRow base 47 3 v l.length (recsC l)

theorem ownsRecs_nil (w : World) (base : Nat) : OwnsRecs w base (.slice none 0 0) [] := World.ownsRow_nil _ _ _ _

/-- What is owned lies in memory. -/
theorem OwnsRecs.at_ {w : World} {base : Nat} {v : Value} {l : List RecM} (h : OwnsRecs w base v l) (hlen : l.length ≤ 4398046511104) (hok : ∀ r ∈ l, RecOk r) : ∃ A c, v = .slice A l.length c ∧ RecsAt w w.heap.size A l := by
  rcases h.2 with ⟨hv, h0⟩ | ⟨g, cap, cur, hv, _, hh, _, _, _, ht⟩
  · have : l = [] := List.eq_nil_of_length_eq_zero h0
    subst this
    exact ⟨none, 0, hv, RecsAt.nil_ _ _ _⟩
  · refine ⟨some ⟨g, 0, none⟩, cap, hv, recsAt_block hlen hok (Array.getElem?_eq_some_iff.1 hh).1 hh fun j u hj => ?_⟩
    have hjl := (List.getElem?_eq_some_iff.1 hj).1
    rw [← ht, List.getElem?_take] at hj
    split at hj
    · simpa using hj
    · cases hj
theorem OwnsRecs.rec {w : World} {base n c : Nat} {A : Option Addr} {l : List RecM} (h : OwnsRecs w base (.slice A n c) l) (hlen : l.length ≤ 4398046511104) (hok : ∀ r ∈ l, RecOk r) : RecsAt w w.heap.size A l := by
  obtain ⟨A', c', hv, hr⟩ := h.at_ hlen hok
  injection hv with hv
  rw [hv]; exact hr
theorem OwnsRecs.new {w : World} {base n c : Nat} {A : Option Addr} {l : List RecM} (h : OwnsRecs w base (.slice A n c) l) : NewAt base A := by
  intro ad hA
  rcases h.2 with ⟨hv, _⟩ | ⟨g, cap, cur, hv, hg, _⟩
  · injection hv with hv; rw [hv] at hA; cases hA
  · injection hv with hv; rw [hv] at hA; injection hA with hA; subst hA; exact hg
theorem OwnsRecs.cap {w : World} {base n c : Nat} {A : Option Addr} {l : List RecM} (h : OwnsRecs w base (.slice A n c) l) : l.length ≤ c := by
  rcases h.2 with ⟨hv, h0⟩ | ⟨g, cap, cur, hv, _, _, hc, _⟩
  · omega
  · injection hv with _ _ hv; omega
theorem OwnsRecs.set {w : World} {base : Nat} {v : Value} {l : List RecM} (h : OwnsRecs w base v l) {a : Addr} (ha : a.block < base) (u : Value) : OwnsRecs (w.setCell a u) base v l := ownsRow_setCell_below h ha u
theorem OwnsRecs.kept {w w' : World} {base : Nat} {v : Value} {l : List RecM} (h : OwnsRecs w base v l) (hb : Below w.heap.size w w') : OwnsRecs w' base v l := by
  rcases h.2 with h0 | ⟨g, cap, cur, hv, hg, hh, r⟩
  · exact ⟨h.1, .inl h0⟩
  · exact ⟨h.1, .inr ⟨g, cap, cur, hv, hg, (hb.block g (Array.getElem?_eq_some_iff.1 hh).1).trans hh, r⟩⟩
theorem OwnsRecs.below {w w' : World} {base : Nat} {v : Value} {l : List RecM} (h : OwnsRecs w base v l) (hk : ∀ g, v.ownBlock = some g → w'.heap[g]? = w.heap[g]?) : OwnsRecs w' base v l := by
  rcases h.2 with h0 | ⟨g, cap, cur, hv, hg, hh, r⟩
  · exact ⟨h.1, .inl h0⟩
  · exact ⟨h.1, .inr ⟨g, cap, cur, hv, hg, (hk g (by rw [hv]; rfl)).trans hh, r⟩⟩

set_option maxRecDepth 100000 in
/-- append(v, records...). -/
theorem append_recs (W : World) (ty : TypeId) (base B m c : Nat) (v : Value) (l0 : List RecM) (A : Option Addr) (l : List RecM) (hown : OwnsRecs W base v l0) (hm : m = l.length) (hl : RecsAt W B A l)
    (hbd : l0.length + l.length ≤ 4398046511104) (hbase : base ≤ W.heap.size) :
    ∃ v' w', (Builtin.append_ #[43, 43] ty #[v, .slice A m c]).run Tryz.prog W = .ok v' w' ∧ OwnsRecs w' base v' (l0 ++ l) ∧ W.grownBy w' v.ownBlock ∧ (v'.ownBlock = v.ownBlock ∨ v'.ownBlock = some W.heap.size) := by
  obtain ⟨i0, hi0, hz0, hz1, hz2⟩ := info_parts rec_info
  subst hm
  cases A with
  | none =>
    have h0 : l = [] := by
      rcases Nat.eq_zero_or_pos l.length with h0 | h0
      · exact List.eq_nil_of_length_eq_zero h0
      · obtain ⟨b, o, h, _⟩ := hl.2.2 h0; cases h
    subst h0
    refine ⟨v, W, ?_, by simpa using hown, World.grownBy.refl W _, .inl rfl⟩
    rcases hown.2 with ⟨rfl, h0⟩ | ⟨g, cap, cur, rfl, _, _, hnc, _⟩
    · simp [Builtin.append_, run_underlying Tryz.underlying43, sizeOf, typeInfo, hi0, Builtin.lenOf, Builtin.firstCells]
    · simp [Builtin.append_, run_underlying Tryz.underlying43, sizeOf, typeInfo, hi0, Builtin.lenOf, Builtin.firstCells, hnc, storeCells]
  | some a =>
    have hsrc : ∀ j u, (recsC l)[j]? = some u → W.cell? (a.add j) = some u := by
      intro j u hj
      have hjl : j < l.length * 3 := by rw [← recsC_length]; exact (List.getElem?_eq_some_iff.1 hj).1
      obtain ⟨b, o, hA, _, _⟩ := hl.2.2 (by omega)
      injection hA with hA
      subst hA
      have e : (⟨b, o, none⟩ : Addr).add j = ⟨b, o + j, none⟩ := by unfold Addr.add; split <;> simp_all
      rw [e]
      exact hl.cells j u hj
    obtain ⟨v', w', h1, h2, h3, _, h5⟩ := run_append_own_at (P := Tryz.prog) W base 43 ty 47 i0 _ 3 32 Tryz.underlying43 hi0 hz0 hz1 hz2 rfl (by omega) v l0.length (recsC l0) hown a l.length c (recsC l)
      (recsC_length l) hsrc (recsC_one l) (by simp only [maxLen]; omega) (by omega) hbase
    refine ⟨v', w', h1, ?_, h3, h5⟩
    unfold OwnsRecs
    rw [List.length_append, recsC_append]
    exact h2

/-- append(v, records...), and what it leaves: a slice that owns all of them; nothing below the base has turned. -/
theorem app_shape (W w0 : World) (ty : TypeId) (base B m c : Nat) (v : Value) (l0 : List RecM) (A : Option Addr) (l : List RecM) (hown : OwnsRecs W base v l0) (hm : m = l.length) (hl : RecsAt W B A l)
    (hbd : l0.length + l.length ≤ 4398046511104) (hok : ∀ r ∈ l0, RecOk r) (hbase : base ≤ W.heap.size) (hb : Below base w0 W) :
    ∃ v' w', (Builtin.append_ #[43, 43] ty #[v, .slice A m c]).run Tryz.prog W = .ok v' w' ∧ ∃ A' c', v' = .slice A' (l0 ++ l).length c' ∧ OwnsRecs w' base (.slice A' (l0 ++ l).length c') (l0 ++ l) ∧ Below base w0 w' ∧ W.heap.size ≤ w'.heap.size := by
  obtain ⟨v', w', h1, h2, h3, _⟩ := append_recs W ty base B m c v l0 A l hown hm hl hbd hbase
  obtain ⟨A', c', hv, _⟩ := h2.at_ (by simpa using hbd) (fun r hr => by
    rcases List.mem_append.1 hr with hr | hr
    · exact hok r hr
    · exact hl.ok hr)
  subst hv
  exact ⟨_, w', h1, A', c', rfl, h2, hb.grown h3 hbase (fun k hk => (World.ownsRow.lt hown k hk).1), h3.size⟩

/-- A run of append that is known, as a step of a region that draws its order. -/
theorem step_append_run {P : Program} {ops : Array Oper} {o : Oper} {a : Act} {w : World} {K : Act → World → Prop} {Q : Exit → Act → World → Prop} {E : Prop} (R : Value → World → Prop) (hgd : o.guard = none) (s x : Operand) (t : TypeId)
    (ho : o.op = .call { callee := .builtin .append, args := #[s, x], argTypes := #[t, t] }) (v u : Value) (hs : a.eval s = v) (hx : a.eval x = u)
    (hrun : ∃ v' w', (Builtin.append_ #[t, t] o.type #[v, u]).run P w = .ok v' w' ∧ R v' w') (h : ∀ v' w', R v' w' → K (a.put o.dst v') w') :
    if Region.wanted o (yielded ops a.tmps) = true then Oper.wp P o a w K Q else E := by
  have hw : Region.wanted o (yielded ops a.tmps) = true := by simp [Region.wanted, hgd]
  rw [if_pos hw]
  obtain ⟨v', w', hr, hR⟩ := hrun
  unfold Oper.wp execOp
  simp only [ho, resolve, invoke, builtin, Sem.run_bind, Sem.run_pure, Result.andThen_ok, List.map_toArray, List.map_cons, List.map_nil, hs, hx, hr]
  exact h v' w' hR
/-- The same in a plain region. -/
theorem wpList_append_run {P : Program} {ops : Array Oper} {rest : List Oper} {o : Oper} {a : Act} {w : World} {Q : Exit → Act → World → Prop} (R : Value → World → Prop) (hgd : o.guard = none) (s x : Operand) (t : TypeId)
    (ho : o.op = .call { callee := .builtin .append, args := #[s, x], argTypes := #[t, t] }) (v u : Value) (hs : a.eval s = v) (hx : a.eval x = u)
    (hrun : ∃ v' w', (Builtin.append_ #[t, t] o.type #[v, u]).run P w = .ok v' w' ∧ R v' w') (h : ∀ v' w', R v' w' → wpList P ops Q rest (a.put o.dst v') w') : wpList P ops Q (o :: rest) a w := by
  refine wpList_plain hgd fun K hK => ?_
  obtain ⟨v', w', hr, hR⟩ := hrun
  unfold Oper.wp execOp
  simp only [ho, resolve, invoke, builtin, Sem.run_bind, Sem.run_pure, Result.andThen_ok, List.map_toArray, List.map_cons, List.map_nil, hs, hx, hr]
  exact hK _ _ (h v' w' hR)
end Go.Proofs.YtambkjnhfejfaacGreatDoor

namespace Go.Proofs.YtambkjnhfejfaacGreatDoor
open Go.RowKit

/-- What the box of five cells at block g holds in a later world that keeps it. -/
theorem boxT {W0 w' : World} {g : Nat} {v0 v1 v2 v3 v4 : Value} (h0 : W0.cell? ⟨g, 0, none⟩ = some v0) (h1 : W0.cell? ⟨g, 1, none⟩ = some v1) (h2 : W0.cell? ⟨g, 2, none⟩ = some v2) (h3 : W0.cell? ⟨g, 3, none⟩ = some v3)
    (h4 : W0.cell? ⟨g, 4, none⟩ = some v4) (hb : Below (g + 1) W0 w') :
    w'.cell? ⟨g, 0, none⟩ = some v0 ∧ w'.cell? ⟨g, 1, none⟩ = some v1 ∧ w'.cell? ⟨g, 2, none⟩ = some v2 ∧ w'.cell? ⟨g, 3, none⟩ = some v3 ∧ w'.cell? ⟨g, 4, none⟩ = some v4 ∧ Below (g + 1) W0 w' := by
  exact ⟨(hb.cell (p := ⟨g, 0, none⟩) (Nat.lt_succ_self g)).trans h0, (hb.cell (p := ⟨g, 1, none⟩) (Nat.lt_succ_self g)).trans h1, (hb.cell (p := ⟨g, 2, none⟩) (Nat.lt_succ_self g)).trans h2, (hb.cell (p := ⟨g, 3, none⟩) (Nat.lt_succ_self g)).trans h3, (hb.cell (p := ⟨g, 4, none⟩) (Nat.lt_succ_self g)).trans h4, hb⟩

/-- What a box of five zero cells holds: a row's zero value, none of it frozen. -/
structure ZeroRow (w : World) (g : Nat) : Prop where
  block : w.heap[g]? = some (.cells #[.string ⟨#[]⟩, .int .i64 0, .string ⟨#[]⟩, .string ⟨#[]⟩, .slice none 0 0] 45 (0, 0))
theorem ZeroRow.c0 {w : World} {g : Nat} (h : ZeroRow w g) : w.cell? ⟨g, 0, none⟩ = some (.string ⟨#[]⟩) := by rw [Joins.cell_of_block h.block]; rfl
theorem ZeroRow.c1 {w : World} {g : Nat} (h : ZeroRow w g) : w.cell? ⟨g, 1, none⟩ = some (.int .i64 0) := by rw [Joins.cell_of_block h.block]; rfl
theorem ZeroRow.c2 {w : World} {g : Nat} (h : ZeroRow w g) : w.cell? ⟨g, 2, none⟩ = some (.string ⟨#[]⟩) := by rw [Joins.cell_of_block h.block]; rfl
theorem ZeroRow.c3 {w : World} {g : Nat} (h : ZeroRow w g) : w.cell? ⟨g, 3, none⟩ = some (.string ⟨#[]⟩) := by rw [Joins.cell_of_block h.block]; rfl
theorem ZeroRow.c4 {w : World} {g : Nat} (h : ZeroRow w g) : w.cell? ⟨g, 4, none⟩ = some (.slice none 0 0) := by rw [Joins.cell_of_block h.block]; rfl
theorem ZeroRow.f {w : World} {g : Nat} (h : ZeroRow w g) (i : Nat) : w.frozen? ⟨g, i, none⟩ = false := Joins.unfrozen_of_block h.block i
theorem ZeroRow.keep {w w' : World} {g : Nat} (h : ZeroRow w g) (hk : w'.heap[g]? = w.heap[g]?) : ZeroRow w' g := ⟨hk.trans h.block⟩

theorem zero_facts {w : World} {g : Nat} (h : ZeroRow w g) : w.cell? ⟨g, 0, none⟩ = some (.string ⟨#[]⟩) ∧ w.cell? ⟨g, 1, none⟩ = some (.int .i64 0) ∧ w.cell? ⟨g, 2, none⟩ = some (.string ⟨#[]⟩) ∧ w.cell? ⟨g, 3, none⟩ = some (.string ⟨#[]⟩) ∧ w.cell? ⟨g, 4, none⟩ = some (.slice none 0 0) ∧
    w.frozen? ⟨g, 0, none⟩ = false ∧ w.frozen? ⟨g, 1, none⟩ = false ∧ w.frozen? ⟨g, 2, none⟩ = false ∧ w.frozen? ⟨g, 3, none⟩ = false ∧ w.frozen? ⟨g, 4, none⟩ = false :=
  ⟨h.c0, h.c1, h.c2, h.c3, h.c4, h.f 0, h.f 1, h.f 2, h.f 3, h.f 4⟩

end Go.Proofs.YtambkjnhfejfaacGreatDoor

namespace Go.Proofs.YtambkjnhfejfaacGreatDoor
open Go.RowKit

/-- What a list of values lies at: block b from an offset on. -/
def CellsAt (w : World) (b o : Nat) (cs : List Value) : Prop := ∀ j v, cs[j]? = some v → w.cell? ⟨b, o + j, none⟩ = some v
theorem add_none (b o j : Nat) : (⟨b, o, none⟩ : Addr).add j = ⟨b, o + j, none⟩ := by unfold Addr.add; split <;> simp_all
theorem CellsAt.add {w : World} {b o : Nat} {cs : List Value} (h : CellsAt w b o cs) : ∀ j v, cs[j]? = some v → w.cell? ((⟨b, o, none⟩ : Addr).add j) = some v := fun j v hj => by rw [add_none]; exact h j v hj
theorem CellsAt.keep {w w' : World} {b o : Nat} {cs : List Value} (h : CellsAt w b o cs) (hk : ∀ k, w'.cell? ⟨b, k, none⟩ = w.cell? ⟨b, k, none⟩) : CellsAt w' b o cs := fun j v hj => (hk _).trans (h j v hj)
theorem CellsAt.drop {w : World} {b : Nat} {cs : List Value} (h : CellsAt w b 0 cs) (k : Nat) : CellsAt w b k (cs.drop k) := fun j v hj => by
  rw [List.getElem?_drop] at hj
  have := h _ v hj
  rwa [Nat.zero_add] at this
theorem CellsAt.take {w : World} {b o : Nat} {cs : List Value} (h : CellsAt w b o cs) (k : Nat) : CellsAt w b o (cs.take k) := fun j v hj => by
  rw [List.getElem?_take] at hj
  split at hj
  · exact h j v hj
  · cases hj
theorem cellsAt_block {w : World} {g : Nat} {cur : Array Value} {t : TypeId} {fr : Nat × Nat} (hg : w.heap[g]? = some (.cells cur t fr)) {cs rest : List Value} (h : cur.toList = cs ++ rest) : CellsAt w g 0 cs := fun j v hj => by
  rw [Nat.zero_add, Joins.cell_of_block hg]
  have : cur.toList[j]? = some v := by
    rw [h, List.getElem?_append_left (List.getElem?_eq_some_iff.1 hj).1]; exact hj
  simpa using this

section
variable {P : Program} {t ti ty e : TypeId} {i0 : TypeInfo} {z : Value} {sz bytes : Nat}

/-- append(s[:i], make(S, k)...) where that does not fit. -/
theorem run_append_make (ht : P.underlying t = some (.slice e)) (hti : P.underlying ti = some (.int .i64)) (hi : P.info? e = some i0) (hz : i0.zero = some z) (hsz : i0.size = sz) (hby : i0.bytes = bytes) (hs0 : 0 < sz) (hb : bytes ≤ 1000)
    (w : World) (b i n : Nat) (k : Int) (olds : List Value) (hlo : olds.length = i * sz) (holds : CellsAt w b 0 olds) (hin : i ≤ n) (hn : n ≤ 1000) (hk : k = (n : Int) + 1 - i) :
    (Builtin.append_ #[t, ti] ty #[.slice (some ⟨b, 0, none⟩) i n, .int .i64 k]).run P w =
      .ok (.slice (some ⟨w.heap.size, 0, none⟩) (n + 1) (grownCap w (n + 1) n e)) (w.drew.alloc (.cells (olds.toArray ++ Builtin.zeroCells z.cells (n + 1 - i) ++ Builtin.zeroCells z.cells (grownCap w (n + 1) n e - (n + 1))) e)) := by
  subst hsz hby
  obtain ⟨m, rfl⟩ : ∃ m : Nat, k = (m : Int) := ⟨n + 1 - i, by omega⟩
  have hm : m = n + 1 - i := by omega
  have h1 : IntKind.i64.wrap (m : Int) = (m : Int) := IntWalk.i64_in _ (by omega)
  have hn1 : ¬ (i + m ≤ n) := by omega
  have hnb : (m : Int) * (i0.bytes : Int) ≤ 1001 * 1000 := Int.mul_le_mul (by omega) (by omega) (by omega) (by omega)
  have h48 : ¬ ((281474976710656 : Int) < (m : Int) * (i0.bytes : Int)) := by omega
  have hfit : Builtin.nextslicecap (i + m) n * i0.bytes ≤ 281474976710656 := growslice_fits (by omega) (by
    have : (i + m) * i0.bytes ≤ 1001 * 1000 := Nat.mul_le_mul (by omega) hb
    omega)
  have h48' : ¬ (281474976710656 < Builtin.nextslicecap (i + m) n * i0.bytes) := by omega
  have h63' : ¬ (9223372036854775807 < ((i : Int) + (m : Int))) := by omega
  have hm0 : ¬ (m * i0.size = 0) := by
    intro h
    rcases Nat.mul_eq_zero.1 h with h | h <;> omega
  have hfo := run_firstCells_some (P := P) w.drew i0.size i ⟨b, 0, none⟩ i n olds hlo (by simpa using holds.add)
  simp [Builtin.append_, run_underlying ht, run_underlying hti, sizeOf, typeInfo, zeroValue, hi, hz, hn1, h1, h48, h48', h63', Question.forced, hfo, newRow, grownCap, asInt, asIntOf]
  rw [if_neg (by omega), if_neg hm0]
  have e : i + m = n + 1 := by omega
  rw [e, ← hm]

/-- copy into the middle of a row. -/
theorem run_copy_mid (ht : P.underlying t = some (.slice e)) (hi : P.info? e = some i0) (hsz : i0.size = sz)
    (W : World) (g o b o2 n1 c1 n2 c2 k : Nat) (cur : Array Value) (L : List Value) (hg : W.heap[g]? = some (.cells cur e (0, 0))) (hk : k = min n1 n2) (hL : L.length = k * sz) (hsrc : CellsAt W b o2 L) (hfit : o + k * sz ≤ cur.size) (h1 : ∀ v ∈ L, v.oneCell' = true) :
    (Builtin.copy_ #[t, t] ty #[.slice (some ⟨g, o, none⟩) n1 c1, .slice (some ⟨b, o2, none⟩) n2 c2]).run P W = .ok (goInt k) (W.setRow g (cur.toList.take o ++ L ++ cur.toList.drop (o + L.length)).toArray) := by
  subst hsz
  have r1 := run_loadCells_list (P := P) W ⟨b, o2, none⟩ L hsrc.add
  have r2 := run_storeCells_at P g o e L 0 cur W hg (by omega) h1
  rw [hL] at r1
  simp only [Nat.add_zero] at r2
  have hmin : n2.min n1 = k := by rw [hk]; exact Nat.min_comm _ _
  simp [Builtin.copy_, run_underlying ht, Builtin.lenOf, Builtin.firstCells, sizeOf, typeInfo, hi, hmin, r1, r2]
end

/-- A run of append that is known, in a plain region. -/
theorem wpList_append_to {P : Program} {ops : Array Oper} {rest : List Oper} {o : Oper} {a : Act} {w w' : World} {Q : Exit → Act → World → Prop} (hgd : o.guard = none) (s x : Operand) (t u : TypeId)
    (ho : o.op = .call { callee := .builtin .append, args := #[s, x], argTypes := #[t, u] }) (v y v' : Value) (hs : a.eval s = v) (hx : a.eval x = y) (hrun : (Builtin.append_ #[t, u] o.type #[v, y]).run P w = .ok v' w')
    (h : wpList P ops Q rest (a.put o.dst v') w') : wpList P ops Q (o :: rest) a w := by
  refine wpList_plain hgd fun K hK => ?_
  unfold Oper.wp execOp
  simp only [ho, resolve, invoke, builtin, Sem.run_bind, Sem.run_pure, Result.andThen_ok, List.map_toArray, List.map_cons, List.map_nil, hs, hx, hrun]
  exact hK _ _ h

/-- What slices.Insert leaves where the element does not come last: the runs of its three builtins, one behind the other. -/
structure InsRuns (P : Program) (t ti e : TypeId) (sz : Nat) (w : World) (b bv n i : Nat) (cs vs : List Value) (c : Nat) (W2 W3 W4 : World) : Prop where
  r1 : (Builtin.append_ #[t, ti] t #[.slice (some ⟨b, 0, none⟩) i n, .int .i64 ((n : Int) + 1 - i)]).run P w = .ok (.slice (some ⟨w.heap.size, 0, none⟩) (n + 1) c) W2
  r2 : (Builtin.copy_ #[t, t] ti #[.slice (some ⟨w.heap.size, i * sz, none⟩) (n + 1 - i) (c - i), .slice (some ⟨bv, 0, none⟩) 1 1]).run P W2 = .ok (goInt 1) W3
  r3 : (Builtin.copy_ #[t, t] ti #[.slice (some ⟨w.heap.size, (i + 1) * sz, none⟩) (n + 1 - (i + 1)) (c - (i + 1)), .slice (some ⟨b, i * sz, none⟩) (n - i) (n - i)]).run P W3.drew = .ok (goInt ((n - i : Nat) : Int)) W4
  cap : n + 1 ≤ c
  blk : ∃ cur rest, W4.heap[w.heap.size]? = some (.cells cur e (0, 0)) ∧ cur.toList = (cs.take (i * sz) ++ vs ++ cs.drop (i * sz)) ++ rest
  bel : Below w.heap.size w W4

theorem ins_runs {P : Program} {t ti e : TypeId} {i0 : TypeInfo} {z : Value} {sz bytes : Nat} (ht : P.underlying t = some (.slice e)) (hti : P.underlying ti = some (.int .i64)) (hi : P.info? e = some i0) (hz : i0.zero = some z) (hsz : i0.size = sz) (hby : i0.bytes = bytes) (hzs : z.cells.size = sz) (hs0 : 0 < sz) (hb : bytes ≤ 1000)
    (w : World) (b bv n i : Nat) (cs vs : List Value) (hcl : cs.length = n * sz) (hvl : vs.length = sz) (hc : CellsAt w b 0 cs) (hv : CellsAt w bv 0 vs) (hbw : b < w.heap.size) (hbvw : bv < w.heap.size) (hc1 : ∀ v ∈ cs, v.oneCell' = true) (hv1 : ∀ v ∈ vs, v.oneCell' = true) (hin : i < n) (hn : n ≤ 1000) :
    ∃ c W2 W3 W4, InsRuns P t ti e sz w b bv n i cs vs c W2 W3 W4 := by
  have him : i * sz ≤ n * sz := Nat.mul_le_mul_right _ (by omega)
  have hol : (cs.take (i * sz)).length = i * sz := by rw [List.length_take, hcl]; omega
  have r1 := run_append_make (ty := t) ht hti hi hz hsz hby hs0 hb w b i n ((n : Int) + 1 - i) (cs.take (i * sz)) hol (hc.take _) (by omega) hn rfl
  have hge := grownCap_ge w (n + 1) n e
  generalize hcap : grownCap w (n + 1) n e = c at r1 hge
  clear hcap
  generalize hcur : (cs.take (i * sz)).toArray ++ Builtin.zeroCells z.cells (n + 1 - i) ++ Builtin.zeroCells z.cells (c - (n + 1)) = cur at r1
  have hsize : cur.size = c * sz := by
    rw [← hcur]
    simp only [Array.size_append, List.size_toArray, size_zeroCells, hol, hzs]
    rw [← Nat.add_mul, ← Nat.add_mul]
    congr 1
    omega
  have htk : cur.toList.take (i * sz) = cs.take (i * sz) := by
    rw [← hcur]
    simp only [Array.toList_append, List.append_assoc]
    rw [List.take_append_of_le_length (by rw [hol]; omega), List.take_of_length_le (by rw [hol]; omega)]
  clear hcur
  have hg2 : (w.drew.alloc (.cells cur e)).heap[w.heap.size]? = some (.cells cur e (0, 0)) := heap_alloc_new w.drew _
  have hb2 : Below w.heap.size w (w.drew.alloc (.cells cur e)) := below_alloc (below_drew (Below.refl _ _)) _
  generalize w.drew.alloc (.cells cur e) = W2 at r1 hg2 hb2
  have old : ∀ {W : World}, Below w.heap.size w W → ∀ {b' o : Nat} {L : List Value}, b' < w.heap.size → CellsAt w b' o L → CellsAt W b' o L := fun hb b' _ _ hlt h => h.keep fun k => hb.cell (p := ⟨b', k, none⟩) hlt
  have hfit1 : i * sz + 1 * sz ≤ cur.size := by rw [hsize, ← Nat.add_mul]; exact Nat.mul_le_mul_right _ (by omega)
  have r2 := run_copy_mid (ty := ti) ht hi hsz W2 w.heap.size (i * sz) bv 0 (n + 1 - i) (c - i) 1 1 1 cur vs hg2 (by omega) (by rw [hvl, Nat.one_mul]) (old hb2 hbvw hv) hfit1 hv1
  have hg3 := setRow_heap W2 w.heap.size cur (cur.toList.take (i * sz) ++ vs ++ cur.toList.drop (i * sz + vs.length)).toArray e (0, 0) hg2
  have hb3 : Below w.heap.size w (W2.setRow w.heap.size (cur.toList.take (i * sz) ++ vs ++ cur.toList.drop (i * sz + vs.length)).toArray) := below_setRow hb2 (Nat.le_refl _) _
  generalize W2.setRow w.heap.size (cur.toList.take (i * sz) ++ vs ++ cur.toList.drop (i * sz + vs.length)).toArray = W3 at r2 hg3 hb3
  generalize hcur3 : (cur.toList.take (i * sz) ++ vs ++ cur.toList.drop (i * sz + vs.length)).toArray = cur3 at hg3
  have h3l : cur3.toList = cs.take (i * sz) ++ vs ++ cur.toList.drop (i * sz + vs.length) := by rw [← hcur3, htk]
  have h3s : cur3.size = c * sz := by
    have e : cur3.size = cur3.toList.length := by simp
    rw [e, h3l]
    simp only [List.length_append, hol, hvl, List.length_drop, Array.length_toList, hsize]
    have : (i + 1) * sz ≤ c * sz := Nat.mul_le_mul_right _ (by omega)
    rw [Nat.add_mul, Nat.one_mul] at this
    omega
  have hdl : (cs.drop (i * sz)).length = (n - i) * sz := by rw [List.length_drop, hcl, Nat.sub_mul]
  have hfit2 : (i + 1) * sz + (n - i) * sz ≤ cur3.size := by rw [h3s, ← Nat.add_mul]; exact Nat.mul_le_mul_right _ (by omega)
  have r3 := run_copy_mid (ty := ti) ht hi hsz W3.drew w.heap.size ((i + 1) * sz) b (i * sz) (n + 1 - (i + 1)) (c - (i + 1)) (n - i) (n - i) (n - i) cur3 (cs.drop (i * sz)) hg3 (by omega) hdl (old (below_drew hb3) hbw (hc.drop _)) hfit2 (fun v hv => hc1 v (List.mem_of_mem_drop hv))
  have hg4 := setRow_heap W3.drew w.heap.size cur3 (cur3.toList.take ((i + 1) * sz) ++ cs.drop (i * sz) ++ cur3.toList.drop ((i + 1) * sz + (cs.drop (i * sz)).length)).toArray e (0, 0) hg3
  have hb4 : Below w.heap.size w (W3.drew.setRow w.heap.size (cur3.toList.take ((i + 1) * sz) ++ cs.drop (i * sz) ++ cur3.toList.drop ((i + 1) * sz + (cs.drop (i * sz)).length)).toArray) := below_setRow (below_drew hb3) (Nat.le_refl _) _
  refine ⟨c, W2, W3, _, r1, r2, r3, hge, ⟨_, cur3.toList.drop ((i + 1) * sz + (cs.drop (i * sz)).length), hg4, ?_⟩, hb4⟩
  congr 2
  rw [h3l, List.take_append_of_le_length (by simp only [List.length_append, hol, hvl, Nat.add_mul, Nat.one_mul]; omega), List.take_of_length_le (by simp only [List.length_append, hol, hvl, Nat.add_mul, Nat.one_mul]; omega)]
end Go.Proofs.YtambkjnhfejfaacGreatDoor

namespace Go.Proofs.YtambkjnhfejfaacGreatDoor
open Go.RowKit

/-- An element's cells. -/
structure Cells (α : Type) where
  cs : α → List Value
  sz : Nat
  len : ∀ a, (cs a).length = sz
  one : ∀ a, ∀ v ∈ cs a, v.oneCell' = true
  pos : 0 < sz
section
variable {α : Type} (C : Cells α)
/-- The cells of a list of elements. -/
def Cells.all (l : List α) : List Value := l.flatMap C.cs
theorem Cells.all_append (a b : List α) : C.all (a ++ b) = C.all a ++ C.all b := by simp [Cells.all]
theorem Cells.all_length (l : List α) : (C.all l).length = l.length * C.sz := by
  induction l with
  | nil => simp [Cells.all]
  | cons x l ih =>
    have : C.all (x :: l) = C.cs x ++ C.all l := rfl
    rw [this, List.length_append, ih, C.len, List.length_cons, Nat.succ_mul]; omega
theorem Cells.all_one (l : List α) : ∀ v ∈ C.all l, v.oneCell' = true := by
  intro v hv
  obtain ⟨a, _, ha⟩ := List.mem_flatMap.1 hv
  exact C.one a v ha
theorem Cells.all_at {l : List α} {i j : Nat} {a : α} (h : l[i]? = some a) (hj : j < C.sz) : (C.all l)[i * C.sz + j]? = (C.cs a)[j]? := by
  induction l generalizing i with
  | nil => cases h
  | cons x l ih =>
    have e : C.all (x :: l) = C.cs x ++ C.all l := rfl
    rw [e]
    cases i with
    | zero =>
      simp only [List.getElem?_cons_zero, Option.some.injEq] at h
      subst h
      rw [Nat.zero_mul, Nat.zero_add, List.getElem?_append_left (by rw [C.len]; exact hj)]
    | succ i =>
      rw [List.getElem?_append_right (by rw [C.len, Nat.succ_mul]; omega), C.len, show (i + 1) * C.sz + j - C.sz = i * C.sz + j by rw [Nat.succ_mul]; omega]
      exact ih (by simpa using h)
/-- The cells of an element lie at an address. -/
def Cells.At (w : World) (b o : Nat) (a : α) : Prop := ∀ j v, (C.cs a)[j]? = some v → w.cell? ⟨b, o + j, none⟩ = some v
/-- A slice value that owns elements. -/
def Cells.Owns (w : World) (base : Nat) (e : TypeId) (v : Value) (l : List α) : Prop := w.ownsRow base e C.sz v l.length (C.all l)
variable {C}
theorem Cells.Owns.nil (w : World) (base : Nat) (e : TypeId) : C.Owns w base e (.slice none 0 0) [] := World.ownsRow_nil _ _ _ _
/-- What is owned lies in memory. -/
theorem Cells.Owns.at_ {w : World} {base : Nat} {e : TypeId} {v : Value} {l : List α} (h : C.Owns w base e v l) {mx : Nat} (hlen : l.length ≤ mx) :
    ∃ A c, v = .slice A l.length c ∧ l.length ≤ c ∧ SeqAt (fun b => base ≤ b ∧ b < w.heap.size) C.sz mx (C.At w) A l := by
  rcases h.2 with ⟨hv, h0⟩ | ⟨g, cap, cur, hv, hb, hh, hc, _, _, ht⟩
  · have : l = [] := List.eq_nil_of_length_eq_zero h0
    subst this
    exact ⟨none, 0, hv, Nat.le_refl _, SeqAt.nil_ _⟩
  · refine ⟨some ⟨g, 0, none⟩, cap, hv, hc, SeqAt.block hlen ⟨hb, (Array.getElem?_eq_some_iff.1 hh).1⟩ fun i x hx j u hj => ?_⟩
    have hjs : j < C.sz := by rw [← C.len x]; exact (List.getElem?_eq_some_iff.1 hj).1
    have h1 := C.all_at hx hjs
    rw [hj, ← ht, List.getElem?_take] at h1
    split at h1
    · rw [Joins.cell_of_block hh]; simpa using h1
    · cases h1
theorem Cells.Owns.kept {w w' : World} {base : Nat} {e : TypeId} {v : Value} {l : List α} (h : C.Owns w base e v l) (hb : Below w.heap.size w w') : C.Owns w' base e v l := by
  rcases h.2 with h0 | ⟨g, cap, cur, hv, hg, hh, r⟩
  · exact ⟨h.1, .inl h0⟩
  · exact ⟨h.1, .inr ⟨g, cap, cur, hv, hg, (hb.block g (Array.getElem?_eq_some_iff.1 hh).1).trans hh, r⟩⟩
theorem Cells.Owns.blk {w w' : World} {base : Nat} {e : TypeId} {v : Value} {l : List α} (h : C.Owns w base e v l) (hk : ∀ g, base ≤ g → g < w.heap.size → w'.heap[g]? = w.heap[g]?) : C.Owns w' base e v l := by
  rcases h.2 with h0 | ⟨g, cap, cur, hv, hg, hh, r⟩
  · exact ⟨h.1, .inl h0⟩
  · exact ⟨h.1, .inr ⟨g, cap, cur, hv, hg, (hk g hg (Array.getElem?_eq_some_iff.1 hh).1).trans hh, r⟩⟩
/-- A slice of elements in memory, its cells. -/
theorem Cells.src {w : World} {P : Nat → Prop} {mx b o : Nat} {l : List α} (h : SeqAt P C.sz mx (C.At w) (some ⟨b, o, none⟩) l) : ∀ j u, (C.all l)[j]? = some u → w.cell? ((⟨b, o, none⟩ : Addr).add j) = some u := by
  intro j u hj
  have hp := C.pos
  have hjl : j < l.length * C.sz := by rw [← C.all_length]; exact (List.getElem?_eq_some_iff.1 hj).1
  have hi : j / C.sz < l.length := Nat.div_lt_of_lt_mul (by rw [Nat.mul_comm]; exact hjl)
  obtain ⟨b', o', hA, _, hx⟩ := SeqAt.at_ h (List.getElem?_eq_getElem hi)
  obtain ⟨rfl, rfl⟩ : b = b' ∧ o = o' := by injection hA with e; injection e with e1 e2; exact ⟨e1, e2⟩
  have hm : j % C.sz < C.sz := Nat.mod_lt _ hp
  have hdm : j / C.sz * C.sz + j % C.sz = j := by rw [Nat.mul_comm]; exact Nat.div_add_mod j C.sz
  have h1 := C.all_at (List.getElem?_eq_getElem hi) hm
  rw [hdm, hj] at h1
  rw [add_none, ← hdm, ← Nat.add_assoc]
  exact hx _ _ h1.symm
set_option maxRecDepth 100000 in
/-- append(v, elements...), and what it leaves: a slice that owns all of them; nothing below the base has turned. -/
theorem app_seq {t e ty : TypeId} {i0 : TypeInfo} {z : Value} {bytes mx : Nat} (hu : Tryz.prog.underlying t = some (.slice e)) (hi0 : Tryz.prog.info? e = some i0) (hz0 : i0.zero = some z) (hz1 : i0.size = C.sz) (hz2 : i0.bytes = bytes) (hz3 : z.cells.size = C.sz)
    (W w0 : World) (base m c : Nat) (v : Value) (l0 : List α) (A : Option Addr) (l : List α) (P : Nat → Prop) (hown : C.Owns W base e v l0) (hm : m = l.length) (hl : SeqAt P C.sz mx (C.At W) A l)
    (hbd : l0.length + l.length ≤ 100000) (hby : bytes ≤ 1000) (hbase : base ≤ W.heap.size) (hb : Below base w0 W) :
    ∃ v' w', (Builtin.append_ #[t, t] ty #[v, .slice A m c]).run Tryz.prog W = .ok v' w' ∧ ∃ A' c', v' = .slice A' (l0 ++ l).length c' ∧ C.Owns w' base e (.slice A' (l0 ++ l).length c') (l0 ++ l) ∧ Below base w0 w' ∧ W.heap.size ≤ w'.heap.size := by
  subst hm
  have key : ∃ v' w', (Builtin.append_ #[t, t] ty #[v, .slice A l.length c]).run Tryz.prog W = .ok v' w' ∧ C.Owns w' base e v' (l0 ++ l) ∧ W.grownBy w' v.ownBlock := by
    cases A with
    | none =>
      have h0 : l = [] := by
        rcases Nat.eq_zero_or_pos l.length with h0 | h0
        · exact List.eq_nil_of_length_eq_zero h0
        · obtain ⟨b, o, h, _⟩ := hl.2 h0; cases h
      subst h0
      refine ⟨v, W, ?_, by simpa using hown, World.grownBy.refl W _⟩
      rcases hown.2 with ⟨rfl, h0⟩ | ⟨g, cap, cur, rfl, _, _, hnc, _⟩
      · simp [Builtin.append_, run_underlying hu, sizeOf, typeInfo, hi0, Builtin.lenOf, Builtin.firstCells]
      · simp [Builtin.append_, run_underlying hu, sizeOf, typeInfo, hi0, Builtin.lenOf, Builtin.firstCells, hnc, storeCells]
    | some a =>
      have hsrc : ∀ j u, (C.all l)[j]? = some u → W.cell? (a.add j) = some u := by
        intro j u hj
        have hjl := (List.getElem?_eq_some_iff.1 hj).1
        rw [C.all_length] at hjl
        have hl0 : 0 < l.length := by
          rcases Nat.eq_zero_or_pos l.length with h0 | h0
          · rw [h0, Nat.zero_mul] at hjl; omega
          · exact h0
        obtain ⟨b, o, hA, _, _⟩ := hl.2 hl0
        injection hA with hA
        subst hA
        exact Cells.src hl j u hj
      have hnb : (l0.length + l.length) * bytes ≤ 100000 * 1000 := Nat.mul_le_mul hbd hby
      obtain ⟨v', w', h1, h2, h3, _, h5⟩ := run_append_own_at (P := Tryz.prog) W base t ty e i0 _ C.sz bytes hu hi0 hz0 hz1 hz2 hz3 C.pos v l0.length (C.all l0) hown a l.length c (C.all l)
        (C.all_length l) hsrc (C.all_one l) (by simp only [maxLen]; omega) (by omega) hbase
      refine ⟨v', w', h1, ?_, h3⟩
      unfold Cells.Owns
      rw [List.length_append, C.all_append]
      exact h2
  obtain ⟨v', w', h1, h2, h3⟩ := key
  obtain ⟨A', c', hv, _⟩ := h2.at_ (mx := 100000) (by simpa using hbd)
  subst hv
  exact ⟨_, w', h1, A', c', rfl, h2, hb.grown h3 hbase (fun k hk => (World.ownsRow.lt hown k hk).1), h3.size⟩
/-- One element in a new block. -/
theorem one_seq {e : TypeId} (w : World) (a : α) : SeqAt (fun b => b = w.heap.size) C.sz 100000 (C.At (w.alloc (.cells (C.cs a).toArray e))) (some ⟨w.heap.size, 0, none⟩) [a] :=
  SeqAt.block (by simp) rfl fun i x hx j v hj => by
    have hi : i = 0 := by have := (List.getElem?_eq_some_iff.1 hx).1; simp at this; exact this
    subst hi
    simp only [List.getElem?_cons_zero, Option.some.injEq] at hx
    subst hx
    rw [World.cell?_alloc_new, Nat.zero_mul, Nat.zero_add]
    simpa using hj
/-- A slice that is made of one new block. -/
theorem Cells.Owns.block {w : World} {base g : Nat} {e : TypeId} {l : List α} {cur : Array Value} (hb : base ≤ g) (hh : w.heap[g]? = some (.cells cur e (0, 0))) (hc : cur.toList = C.all l) (hl : l.length ≤ 100000) : C.Owns w base e (.slice (some ⟨g, 0, none⟩) l.length l.length) l :=
  ⟨C.all_length l, .inr ⟨g, l.length, cur, rfl, hb, hh, Nat.le_refl _, by simp only [maxLen]; omega, by rw [← Array.length_toList, hc, C.all_length], by rw [hc, ← C.all_length]; exact List.take_length⟩⟩
end
end Go.Proofs.YtambkjnhfejfaacGreatDoor
