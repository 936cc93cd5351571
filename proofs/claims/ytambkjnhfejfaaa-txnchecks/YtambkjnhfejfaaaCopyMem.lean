/-
  Memory of records: a row of cells that holds records; make and copy of records. Conditions: none beyond those stated.
-/
import Derived.Test.YtambkjnhfejfaaaStatusPure
import Derived.Test.YtambkjnhfejfaaaRows
import Derived.Lib.SmallJoins
import Derived.Laws.MakeOwn
import Derived.Laws.CopyRow
import Derived.Laws.CopyOwn
namespace Go.Proofs.Ytambkjnhfejfaaa
open Go.RowKit

/-- The cells of a list of records. -/
def recsC (l : List RecM) : List Value := l.flatMap recC
theorem recsC_cons (r : RecM) (l : List RecM) : recsC (r :: l) = .int .i64 r.s :: .int .i64 r.c :: .string r.v :: recsC l := rfl
theorem recsC_append (a b : List RecM) : recsC (a ++ b) = recsC a ++ recsC b := by simp [recsC]
theorem recsC_length (l : List RecM) : (recsC l).length = l.length * 3 := by
  induction l with
  | nil => rfl
  | cons r l ih => rw [recsC_cons]; simp [ih]; omega
theorem recsC_one (l : List RecM) : ∀ v ∈ recsC l, v.oneCell' = true := by
  induction l with
  | nil => intro v h; cases h
  | cons r l ih =>
    intro v h
    rw [recsC_cons] at h
    simp only [List.mem_cons] at h
    rcases h with rfl | rfl | rfl | h
    · rfl
    · rfl
    · rfl
    · exact ih v h
theorem recsC_at {l : List RecM} {i : Nat} {r : RecM} (h : l[i]? = some r) : (recsC l)[i * 3]? = some (.int .i64 r.s) ∧ (recsC l)[i * 3 + 1]? = some (.int .i64 r.c) ∧ (recsC l)[i * 3 + 2]? = some (.string r.v) := by
  induction l generalizing i with
  | nil => cases h
  | cons x l ih =>
    rw [recsC_cons]
    cases i with
    | zero => simp only [List.getElem?_cons_zero, Option.some.injEq] at h; subst h; exact ⟨rfl, rfl, rfl⟩
    | succ i =>
      have := ih (i := i) (by simpa using h)
      have e : (i + 1) * 3 = i * 3 + 3 := by omega
      rw [e]
      exact this
/-- And back: what lies at an address of records. -/
theorem RecsAt.cells {w : World} {B b o : Nat} {l : List RecM} (h : RecsAt w B (some ⟨b, o, none⟩) l) : ∀ j v, (recsC l)[j]? = some v → w.cell? ⟨b, o + j, none⟩ = some v := by
  intro j v hj
  have hjl : j < l.length * 3 := by rw [← recsC_length]; exact (List.getElem?_eq_some_iff.1 hj).1
  have hi : j / 3 < l.length := by omega
  obtain ⟨b', o', hA, _, hr⟩ := h.at_ (i := j / 3) (List.getElem?_eq_getElem hi)
  have hA' : b = b' ∧ o = o' := by injection hA with hA; injection hA with h1 h2; exact ⟨h1, h2⟩
  obtain ⟨rfl, rfl⟩ := hA'
  obtain ⟨a0, a1, a2⟩ := recsC_at (List.getElem?_eq_getElem hi)
  have hm : j % 3 = 0 ∨ j % 3 = 1 ∨ j % 3 = 2 := by omega
  rcases hm with hm | hm | hm
  · rw [show j / 3 * 3 = j by omega] at a0
    rw [hj] at a0
    rw [a0, show o + j = o + j / 3 * 3 by omega]; exact hr.s
  · rw [show j / 3 * 3 + 1 = j by omega] at a1
    rw [hj] at a1
    rw [a1, show o + j = o + j / 3 * 3 + 1 by omega]; exact hr.c
  · rw [show j / 3 * 3 + 2 = j by omega] at a2
    rw [hj] at a2
    rw [a2, show o + j = o + j / 3 * 3 + 2 by omega]; exact hr.v
/-- A block whose first cells are records. -/
theorem recsAt_block {w : World} {B g : Nat} {l : List RecM} {cur : Array Value} {t : TypeId} {fr : Nat × Nat} (hlen : l.length ≤ 4398046511104) (hok : ∀ r ∈ l, RecOk r) (hB : g < B) (hg : w.heap[g]? = some (.cells cur t fr))
    (hc : ∀ (j : Nat) v, (recsC l)[j]? = some v → cur[j]? = some v) : RecsAt w B (some ⟨g, 0, none⟩) l :=
  ⟨hlen, hok, fun _ => ⟨g, 0, rfl, hB, fun i r hr => by
    obtain ⟨a0, a1, a2⟩ := recsC_at hr
    rw [Nat.zero_add]
    exact ⟨by rw [Joins.cell_of_block hg]; exact hc _ _ a0, by rw [Joins.cell_of_block hg]; exact hc _ _ a1, by rw [Joins.cell_of_block hg]; exact hc _ _ a2⟩⟩⟩

/-- A slice that leads to nothing older than block B. -/
def NewAt (B : Nat) (A : Option Addr) : Prop := ∀ ad, A = some ad → B ≤ ad.block
/-- A slice of new memory, no longer than its capacity. -/
def NewC (B : Nat) (A : Option Addr) (n c : Nat) : Prop := NewAt B A ∧ n ≤ c
theorem newAt_none (B : Nat) : NewAt B none := fun _ h => by cases h
theorem RecsAt.setLow {w : World} {B B' : Nat} {A : Option Addr} {l : List RecM} (h : RecsAt w B A l) (hn : NewAt B' A) {p : Addr} (hp : p.block < B') (u : Value) : RecsAt (w.setCell p u) B A l :=
  ⟨h.1, h.2.1, fun h0 => by
    obtain ⟨b, o, hA, hb, hc⟩ := h.2.2 h0
    have hB : B' ≤ b := hn _ hA
    exact ⟨b, o, hA, hb, fun i r hr => (hc i r hr).keep fun k => World.cell?_setCell_other w p ⟨b, k, none⟩ u (fun e => by have : p.block = b := congrArg Addr.block e; omega)⟩⟩
/-- Three new blocks. -/
theorem three_blocks (w : World) (o1 o2 o3 : Obj) : (((w.alloc o1).alloc o2).alloc o3).heap[w.heap.size]? = some o1 ∧ (((w.alloc o1).alloc o2).alloc o3).heap[w.heap.size + 1]? = some o2 ∧ (((w.alloc o1).alloc o2).alloc o3).heap[w.heap.size + 2]? = some o3 := by
  have h1 := heap_alloc_new w o1
  have h2 := heap_alloc_new (w.alloc o1) o2
  have h3 := heap_alloc_new ((w.alloc o1).alloc o2) o3
  have s1 : (w.alloc o1).heap.size = w.heap.size + 1 := by simp
  have s2 : ((w.alloc o1).alloc o2).heap.size = w.heap.size + 2 := by simp
  rw [s1] at h2
  rw [s2] at h3
  exact ⟨((Below.heap_alloc _ o3 _ (by omega)).trans (Below.heap_alloc _ o2 _ (by omega))).trans h1, (Below.heap_alloc _ o3 _ (by omega)).trans h2, h3⟩

theorem rec_info : (Try.prog.info? 56).map (fun i => (i.zero, i.size, i.bytes)) = some (some (.agg #[.int .i64 0, .int .i64 0, .string ⟨#[]⟩]), 3, 32) := by kernel_rfl

/-- make([]Record, n). -/
theorem make_recs (n : Nat) (hn : n ≤ 4398046511104) : ∃ Z : Array Value, Z.size = n * 3 ∧ ∀ W : World, (Instr.makeSlice 25 (.int .i64 (n : Int)) (.int .i64 (n : Int))).run Try.prog W =
    .ok (.slice (some ⟨W.heap.size, 0, none⟩) n n) (W.alloc (.cells Z 56)) := by
  obtain ⟨i0, hi0, hz0, hz1, hz2⟩ := info_parts rec_info
  refine ⟨madeCells (Value.agg #[.int .i64 0, .int .i64 0, .string ⟨#[]⟩]).cells (n * 3), by rw [size_madeCells], fun W => ?_⟩
  have h := run_make (P := Try.prog) W 25 56 i0 _ Try.underlying25 hi0 hz0 .i64 .i64 (n : Int) (n : Int) (by omega) (by omega) (by rw [hz2]; omega) (by omega)
  simp only [Int.toNat_natCast, hz1] at h
  exact h

/-- copy of n records into a row of that size. -/
theorem copy_recs (W : World) (ty : TypeId) (g n c B : Nat) (A : Option Addr) (l : List RecM) (Z : Array Value) (hn : n = l.length) (hl : RecsAt W B A l) (hZ : Z.size = n * 3) (hg : W.heap[g]? = some (.cells Z 56 (0, 0))) :
    (Builtin.copy_ #[25, 25] ty #[.slice (some ⟨g, 0, none⟩) n n, .slice A n c]).run Try.prog W = .ok (goInt n) (W.setRow g (recsC l).toArray) := by
  obtain ⟨i0, hi0, _, hz1, _⟩ := info_parts rec_info
  rcases Nat.eq_zero_or_pos n with h0 | h0
  · subst h0
    have : l = [] := List.eq_nil_of_length_eq_zero hn.symm
    subst this
    have hZ0 : Z = #[] := Array.eq_empty_of_size_eq_zero (by omega)
    subst hZ0
    have e : W.setRow g (recsC []).toArray = W := setRow_self W g #[] _ _ hg
    rw [e]
    cases A with
    | none => simp [Builtin.copy_, run_underlying Try.underlying25, Builtin.lenOf, Builtin.firstCells, sizeOf, typeInfo, hi0, storeCells]
    | some a =>
      have h1 := run_loadCells_list (P := Try.prog) W a [] (by simp)
      simp only [List.length_nil] at h1
      simp [Builtin.copy_, run_underlying Try.underlying25, Builtin.lenOf, Builtin.firstCells, sizeOf, typeInfo, hi0, storeCells, h1]
  · obtain ⟨b, o, rfl, _, _⟩ := hl.2.2 (by omega)
    have hsrc : ∀ j v, (recsC l)[j]? = some v → W.cell? ((⟨b, o, none⟩ : Addr).add j) = some v := by
      intro j v hj
      have e : (⟨b, o, none⟩ : Addr).add j = ⟨b, o + j, none⟩ := by unfold Addr.add; split <;> simp_all
      rw [e]
      exact hl.cells j v hj
    have h1 := run_loadCells_list (P := Try.prog) W ⟨b, o, none⟩ (recsC l) hsrc
    have h2 := run_storeCells_at Try.prog g 0 56 (recsC l) 0 Z W hg (by rw [recsC_length]; omega) (recsC_one l)
    have hd : Z.toList.drop (recsC l).length = [] := List.drop_eq_nil_of_le (by rw [recsC_length]; simp; omega)
    have hlen : (recsC l).length = n * 3 := by rw [recsC_length, hn]
    rw [hlen] at h1
    simp only [Nat.zero_add, List.take_zero, List.nil_append, hd, List.append_nil] at h2
    simp [Builtin.copy_, run_underlying Try.underlying25, Builtin.lenOf, Builtin.firstCells, sizeOf, typeInfo, hi0, hz1, h1, h2]
end Go.Proofs.Ytambkjnhfejfaaa
