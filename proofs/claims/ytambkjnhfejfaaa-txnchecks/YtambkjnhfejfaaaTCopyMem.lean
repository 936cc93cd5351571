/-
  Memory of writes, rows, clients, answers: make and copy. Conditions: none beyond those stated.
-/
import Derived.Test.YtambkjnhfejfaaaTMem
import Derived.Test.YtambkjnhfejfaaaCopy
namespace Go.Proofs.Ytambkjnhfejfaaa
open Go.RowKit

/-- A write's value, and its cells. -/
abbrev wrV (x : WrM) : Value := .agg #[.string x.k, .string x.v]
def wrC (x : WrM) : List Value := [.string x.k, .string x.v]
def wrsC (l : List WrM) : List Value := l.flatMap wrC
theorem wrsC_cons (r : WrM) (l : List WrM) : wrsC (r :: l) = .string r.k :: .string r.v :: wrsC l := rfl
theorem wrsC_append (a b : List WrM) : wrsC (a ++ b) = wrsC a ++ wrsC b := by simp [wrsC]
theorem wrsC_length (l : List WrM) : (wrsC l).length = l.length * 2 := by
  induction l with
  | nil => rfl
  | cons r l ih => rw [wrsC_cons]; simp [ih]; omega
theorem wrsC_one (l : List WrM) : ∀ v ∈ wrsC l, v.oneCell' = true := by
  induction l with
  | nil => intro v h; cases h
  | cons r l ih =>
    intro v h
    rw [wrsC_cons] at h
    simp only [List.mem_cons] at h
    rcases h with rfl | rfl | h
    · rfl
    · rfl
    · exact ih v h
theorem wrsC_at {l : List WrM} {i : Nat} {r : WrM} (h : l[i]? = some r) : (wrsC l)[i * 2]? = some (.string r.k) ∧ (wrsC l)[i * 2 + 1]? = some (.string r.v) := by
  induction l generalizing i with
  | nil => cases h
  | cons x l ih =>
    rw [wrsC_cons]
    cases i with
    | zero => simp only [List.getElem?_cons_zero, Option.some.injEq] at h; subst h; exact ⟨rfl, rfl⟩
    | succ i =>
      have := ih (i := i) (by simpa using h)
      have e : (i + 1) * 2 = i * 2 + 2 := by omega
      rw [e]
      exact this
theorem SeqAt.wrCells {w : World} {P : Nat → Prop} {b o : Nat} {l : List WrM} (h : WrsAt w P (some ⟨b, o, none⟩) l) : ∀ j v, (wrsC l)[j]? = some v → w.cell? ⟨b, o + j, none⟩ = some v := by
  intro j v hj
  have hjl : j < l.length * 2 := by rw [← wrsC_length]; exact (List.getElem?_eq_some_iff.1 hj).1
  have hi : j / 2 < l.length := by omega
  obtain ⟨b', o', hA, _, hr⟩ := SeqAt.at_ h (i := j / 2) (List.getElem?_eq_getElem hi)
  have hA' : b = b' ∧ o = o' := by injection hA with hA; injection hA with h1 h2; exact ⟨h1, h2⟩
  obtain ⟨rfl, rfl⟩ := hA'
  obtain ⟨a0, a1⟩ := wrsC_at (List.getElem?_eq_getElem hi)
  have hm : j % 2 = 0 ∨ j % 2 = 1 := by omega
  rcases hm with hm | hm
  · rw [show j / 2 * 2 = j by omega] at a0
    rw [hj] at a0
    rw [a0, show o + j = o + j / 2 * 2 by omega]; exact hr.k
  · rw [show j / 2 * 2 + 1 = j by omega] at a1
    rw [hj] at a1
    rw [a1, show o + j = o + j / 2 * 2 + 1 by omega]; exact hr.v
/-- A block whose first cells are writes. -/
theorem wrsAt_block {w : World} {P : Nat → Prop} {g : Nat} {l : List WrM} {cur : Array Value} {t : TypeId} {fr : Nat × Nat} (hlen : l.length ≤ 4398046511104) (hok : ∀ x ∈ l, x.k.size ≤ maxLen ∧ x.v.size ≤ maxLen) (hB : P g) (hg : w.heap[g]? = some (.cells cur t fr))
    (hc : ∀ (j : Nat) v, (wrsC l)[j]? = some v → cur[j]? = some v) : WrsAt w P (some ⟨g, 0, none⟩) l :=
  SeqAt.block hlen hB fun i r hr => by
    obtain ⟨a0, a1⟩ := wrsC_at hr
    exact ⟨by rw [Joins.cell_of_block hg]; exact hc _ _ a0, by rw [Joins.cell_of_block hg]; exact hc _ _ a1, hok r (List.mem_of_getElem? hr)⟩
theorem SeqAt.wrOk {w : World} {P : Nat → Prop} {A : Option Addr} {l : List WrM} (h : WrsAt w P A l) : ∀ x ∈ l, x.k.size ≤ maxLen ∧ x.v.size ≤ maxLen := by
  intro x hx
  obtain ⟨i, hi⟩ := List.getElem?_of_mem hx
  obtain ⟨_, _, _, _, hr⟩ := SeqAt.at_ h hi
  exact hr.ok

theorem wr_info : (Try.prog.info? 78).map (fun i => (i.zero, i.size, i.bytes)) = some (some (.agg #[.string ⟨#[]⟩, .string ⟨#[]⟩]), 2, 32) := by kernel_rfl
theorem row_info : (Try.prog.info? 27).map (fun i => (i.zero, i.size, i.bytes)) = some (some (.agg #[.string ⟨#[]⟩, .int .i64 0, .string ⟨#[]⟩, .string ⟨#[]⟩, .slice none 0 0]), 5, 80) := by kernel_rfl
theorem cl_info : (Try.prog.info? 72).map (fun i => (i.zero, i.size, i.bytes)) = some (some (.agg #[.int .i64 0, .int .i64 0, .int .i64 0, .slice none 0 0, .int .i64 0]), 5, 56) := by kernel_rfl

/-- make([]Write, n). -/
theorem make_wrs (n : Nat) (hn : n ≤ 4398046511104) : ∃ Z : Array Value, Z.size = n * 2 ∧ ∀ W : World, (Instr.makeSlice 70 (.int .i64 (n : Int)) (.int .i64 (n : Int))).run Try.prog W =
    .ok (.slice (some ⟨W.heap.size, 0, none⟩) n n) (W.alloc (.cells Z 78)) := by
  obtain ⟨i0, hi0, hz0, hz1, hz2⟩ := info_parts wr_info
  refine ⟨madeCells (Value.agg #[.string ⟨#[]⟩, .string ⟨#[]⟩]).cells (n * 2), by rw [size_madeCells], fun W => ?_⟩
  have h := run_make (P := Try.prog) W 70 78 i0 _ Try.underlying70 hi0 hz0 .i64 .i64 (n : Int) (n : Int) (by omega) (by omega) (by rw [hz2]; omega) (by omega)
  simp only [Int.toNat_natCast, hz1] at h
  exact h
/-- make([]Row, n). -/
theorem make_rows (n : Nat) (hn : n ≤ 1759218604441) : ∃ Z : Array Value, Z.size = n * 5 ∧ ∀ W : World, (Instr.makeSlice 44 (.int .i64 (n : Int)) (.int .i64 (n : Int))).run Try.prog W =
    .ok (.slice (some ⟨W.heap.size, 0, none⟩) n n) (W.alloc (.cells Z 27)) := by
  obtain ⟨i0, hi0, hz0, hz1, hz2⟩ := info_parts row_info
  refine ⟨madeCells (Value.agg #[.string ⟨#[]⟩, .int .i64 0, .string ⟨#[]⟩, .string ⟨#[]⟩, .slice none 0 0]).cells (n * 5), by rw [size_madeCells], fun W => ?_⟩
  have h := run_make (P := Try.prog) W 44 27 i0 _ Try.underlying44 hi0 hz0 .i64 .i64 (n : Int) (n : Int) (by omega) (by omega) (by rw [hz2]; omega) (by omega)
  simp only [Int.toNat_natCast, hz1] at h
  exact h
/-- make([]Client, n). -/
theorem make_cls (n : Nat) (hn : n ≤ 2513169434917) : ∃ Z : Array Value, Z = madeCells (Value.agg #[.int .i64 0, .int .i64 0, .int .i64 0, .slice none 0 0, .int .i64 0]).cells (n * 5) ∧ Z.size = n * 5 ∧ ∀ W : World, (Instr.makeSlice 45 (.int .i64 (n : Int)) (.int .i64 (n : Int))).run Try.prog W =
    .ok (.slice (some ⟨W.heap.size, 0, none⟩) n n) (W.alloc (.cells Z 72)) := by
  obtain ⟨i0, hi0, hz0, hz1, hz2⟩ := info_parts cl_info
  refine ⟨madeCells (Value.agg #[.int .i64 0, .int .i64 0, .int .i64 0, .slice none 0 0, .int .i64 0]).cells (n * 5), rfl, by rw [size_madeCells], fun W => ?_⟩
  have h := run_make (P := Try.prog) W 45 72 i0 _ Try.underlying45 hi0 hz0 .i64 .i64 (n : Int) (n : Int) (by omega) (by omega) (by rw [hz2]; omega) (by omega)
  simp only [Int.toNat_natCast, hz1] at h
  exact h

/-- copy of n writes into a row of that size. -/
theorem copy_wrs (W : World) (ty : TypeId) (g n c : Nat) (P : Nat → Prop) (A : Option Addr) (l : List WrM) (Z : Array Value) (hn : n = l.length) (hl : WrsAt W P A l) (hZ : Z.size = n * 2) (hg : W.heap[g]? = some (.cells Z 78 (0, 0))) :
    (Builtin.copy_ #[70, 70] ty #[.slice (some ⟨g, 0, none⟩) n n, .slice A n c]).run Try.prog W = .ok (goInt n) (W.setRow g (wrsC l).toArray) := by
  obtain ⟨i0, hi0, _, hz1, _⟩ := info_parts wr_info
  rcases Nat.eq_zero_or_pos n with h0 | h0
  · subst h0
    have : l = [] := List.eq_nil_of_length_eq_zero hn.symm
    subst this
    have hZ0 : Z = #[] := Array.eq_empty_of_size_eq_zero (by omega)
    subst hZ0
    have e : W.setRow g (wrsC []).toArray = W := setRow_self W g #[] _ _ hg
    rw [e]
    cases A with
    | none => simp [Builtin.copy_, run_underlying Try.underlying70, Builtin.lenOf, Builtin.firstCells, sizeOf, typeInfo, hi0, storeCells]
    | some a =>
      have h1 := run_loadCells_list (P := Try.prog) W a [] (by simp)
      simp only [List.length_nil] at h1
      simp [Builtin.copy_, run_underlying Try.underlying70, Builtin.lenOf, Builtin.firstCells, sizeOf, typeInfo, hi0, storeCells, h1]
  · obtain ⟨b, o, rfl, _, _⟩ := hl.2 (by omega)
    have hsrc : ∀ j v, (wrsC l)[j]? = some v → W.cell? ((⟨b, o, none⟩ : Addr).add j) = some v := by
      intro j v hj
      have e : (⟨b, o, none⟩ : Addr).add j = ⟨b, o + j, none⟩ := by unfold Addr.add; split <;> simp_all
      rw [e]
      exact SeqAt.wrCells hl j v hj
    have h1 := run_loadCells_list (P := Try.prog) W ⟨b, o, none⟩ (wrsC l) hsrc
    have h2 := run_storeCells_at Try.prog g 0 78 (wrsC l) 0 Z W hg (by rw [wrsC_length]; omega) (wrsC_one l)
    have hd : Z.toList.drop (wrsC l).length = [] := List.drop_eq_nil_of_le (by rw [wrsC_length]; simp; omega)
    have hlen : (wrsC l).length = n * 2 := by rw [wrsC_length, hn]
    rw [hlen] at h1
    simp only [Nat.zero_add, List.take_zero, List.nil_append, hd, List.append_nil] at h2
    simp [Builtin.copy_, run_underlying Try.underlying70, Builtin.lenOf, Builtin.firstCells, sizeOf, typeInfo, hi0, hz1, h1, h2]
end Go.Proofs.Ytambkjnhfejfaaa
