/-
  Contract of txn.copyClient: an equal client, its writes in new memory. Conditions: its writes lie in memory.
-/
import Derived.Test.YtambkjnhfejfaaaTCopyMem
namespace Go.Proofs.Ytambkjnhfejfaaa
open Go.RowKit

/-- A client's value. -/
abbrev clV (c : ClM) (A : Option Addr) (n k : Nat) : Value := .agg #[.int .i64 c.ph, .int .i64 c.st, .int .i64 c.cm, .slice A n k, .int .i64 c.at_]
/-- A client that goes out: its writes lie in the third new block. -/
def ClOut (c : ClM) (w : World) (e : Ending) (w' : World) : Prop :=
  e = .returned (clV c (some ⟨w.heap.size + 2, 0, none⟩) c.ws.length c.ws.length) ∧ WrsAt w' (· = w.heap.size + 2) (some ⟨w.heap.size + 2, 0, none⟩) c.ws ∧ w.heap.size + 2 < w'.heap.size ∧ (∀ o, w'.frozen? ⟨w.heap.size + 2, o, none⟩ = false) ∧ Below w.heap.size w w'

set_option maxHeartbeats 2000000 in
theorem copyClient_any (c : ClM) (A : Option Addr) (n k : Nat) (w : World) (hn : n = c.ws.length) (hl : WrsAt w (· < w.heap.size) A c.ws) :
    Calls Try.prog 52 #[clV c A n k] w (ClOut c w) := by
  have hlen := hl.1
  subst hn
  obtain ⟨ph, st, cm, l, a⟩ := c
  dsimp only at hl hlen ⊢
  obtain ⟨Z, hZ, hmk⟩ := make_wrs l.length hlen
  obtain ⟨W3, hW3⟩ : ∃ W3, W3 = ((w.alloc (.cells #[.int .i64 ph, .int .i64 st, .int .i64 cm, .slice A l.length k, .int .i64 a] 72)).alloc (.cells #[.int .i64 0, .int .i64 0, .int .i64 0, .slice none 0 0, .int .i64 0] 72)).alloc (.cells Z 78) := ⟨_, rfl⟩
  have hb3 : Below w.heap.size w W3 := by rw [hW3]; repeat (first | with_reducible exact Below.refl _ _ | assumption | with_reducible apply below_alloc | with_reducible apply below_drew | with_reducible apply below_drewN | (with_reducible apply below_next; rotate_left; assumption))
  have hs3 : W3.heap.size = w.heap.size + 3 := by rw [hW3]; simp
  obtain ⟨hB0, hB1, hg3⟩ := three_blocks w (.cells #[.int .i64 ph, .int .i64 st, .int .i64 cm, .slice A l.length k, .int .i64 a] 72) (.cells #[.int .i64 0, .int .i64 0, .int .i64 0, .slice none 0 0, .int .i64 0] 72) (.cells Z 78)
  rw [← hW3] at hB0 hB1 hg3
  have hl3 : WrsAt W3 (· < W3.heap.size) A l := SeqAt.wrs hl (below_mem hb3).1 (below_mem hb3).2
  have hcp := copy_wrs W3 3 (w.heap.size + 2) l.length k _ A l Z rfl hl3 hZ hg3
  obtain ⟨W4, hW4⟩ : ∃ W4, W4 = W3.setRow (w.heap.size + 2) (wrsC l).toArray := ⟨_, rfl⟩
  rw [← hW4] at hcp
  have hg4 : W4.heap[w.heap.size + 2]? = some (.cells (wrsC l).toArray 78 (0, 0)) := by rw [hW4]; exact setRow_heap _ _ _ _ _ _ hg3
  have hb4 : Below (w.heap.size + 2) W3 W4 := by rw [hW4]; exact below_setRow (Below.refl _ _) (Nat.le_refl _) _
  have hD0 := (hb4.block w.heap.size (by omega)).trans hB0
  have hD1 := (hb4.block (w.heap.size + 1) (by omega)).trans hB1
  have hs4 : w.heap.size + 2 < W4.heap.size := by have := hb4.size; omega
  have hbw4 : Below w.heap.size w W4 := hb3.trans (hb4.mono (by omega))
  rw [hW3] at hcp
  have p0 : W4.cell? ⟨w.heap.size, 0, none⟩ = some (.int .i64 ph) := by rw [Joins.cell_of_block hD0]; rfl
  have p1 : W4.cell? ⟨w.heap.size, 1, none⟩ = some (.int .i64 st) := by rw [Joins.cell_of_block hD0]; rfl
  have p2 : W4.cell? ⟨w.heap.size, 2, none⟩ = some (.int .i64 cm) := by rw [Joins.cell_of_block hD0]; rfl
  have p3 : W4.cell? ⟨w.heap.size, 3, none⟩ = some (.slice A l.length k) := by rw [Joins.cell_of_block hD0]; rfl
  have p4 : W4.cell? ⟨w.heap.size, 4, none⟩ = some (.int .i64 a) := by rw [Joins.cell_of_block hD0]; rfl
  have p5 : W4.frozen? ⟨w.heap.size, 3, none⟩ = false := Joins.unfrozen_of_block hD0 _
  have q0 : W4.cell? ⟨w.heap.size + 1, 0, none⟩ = some (.int .i64 0) := by rw [Joins.cell_of_block hD1]; rfl
  have q1 : W4.cell? ⟨w.heap.size + 1, 1, none⟩ = some (.int .i64 0) := by rw [Joins.cell_of_block hD1]; rfl
  have q2 : W4.cell? ⟨w.heap.size + 1, 2, none⟩ = some (.int .i64 0) := by rw [Joins.cell_of_block hD1]; rfl
  have q3 : W4.cell? ⟨w.heap.size + 1, 3, none⟩ = some (.slice none 0 0) := by rw [Joins.cell_of_block hD1]; rfl
  have q4 : W4.cell? ⟨w.heap.size + 1, 4, none⟩ = some (.int .i64 0) := by rw [Joins.cell_of_block hD1]; rfl
  have f0 : W4.frozen? ⟨w.heap.size + 1, 0, none⟩ = false := Joins.unfrozen_of_block hD1 _
  have f1 : W4.frozen? ⟨w.heap.size + 1, 1, none⟩ = false := Joins.unfrozen_of_block hD1 _
  have f2 : W4.frozen? ⟨w.heap.size + 1, 2, none⟩ = false := Joins.unfrozen_of_block hD1 _
  have f3 : W4.frozen? ⟨w.heap.size + 1, 3, none⟩ = false := Joins.unfrozen_of_block hD1 _
  have f4 : W4.frozen? ⟨w.heap.size + 1, 4, none⟩ = false := Joins.unfrozen_of_block hD1 _
  have HG := Lib.hid hg4
  have HB4 := Lib.hid hbw4
  have HL := Lib.hid hl
  have HOK := Lib.hid (SeqAt.wrOk hl)
  clear hg4 hb4 hbw4 hD0 hD1 hW4 hW3 hB0 hB1 hg3 hb3 hs3 hl hl3 W3
  go_enter Try.func52, Try.ntmps52
  go_wp2
  refine bodyPost_ret (v := clV ⟨ph, st, cm, l, a⟩ (some ⟨w.heap.size + 2, 0, none⟩) l.length l.length) (by simp [results, Try.results52, go_sem, q0, q1, q2, q3, q4]) rfl ⟨rfl, ?_, ?_, ?_, ?_⟩
  · refine wrsAt_block HL.out.1 HOK.out rfl (cur := (wrsC l).toArray) (t := 78) (fr := (0, 0)) ?_ (fun j v h => by simpa using h)
    repeat (rw [Below.heap_setCell _ _ _ _ (by simp)])
    exact HG.out
  · simp [World.setCell]; omega
  · intro o
    simp only [World.frozen?_setCell]
    exact Joins.unfrozen_of_block HG.out _
  · repeat (refine below_set ?_ (by simp) _)
    exact HB4.out
end Go.Proofs.Ytambkjnhfejfaaa
