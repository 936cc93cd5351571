/-
  Contract of row.Copy: an equal row in new memory. Conditions: the row comes in as it should ('RowIn').
-/
import Derived.Test.YtambkjnhfejfaaaCopyMem
import Derived.WalkLawsBesides
import Derived.Outline
import Derived.BigQuiet
import Derived.Deep.QuietTactic
import Derived.Test.YtambkjnhfejfaaaFind
namespace Go.Proofs.Ytambkjnhfejfaaa
open Go.RowKit

/-- A row that goes out: its value, its records in memory; no old memory has turned. -/
def RowOut (key : ByteArray) (ls : Int) (lp val : ByteArray) (l : List RecM) (w : World) (e : Ending) (w' : World) : Prop :=
  ∃ A c, e = .returned (rowV key ls lp val A l.length c) ∧ RecsAt w' w'.heap.size A l ∧ NewC w.heap.size A l.length c ∧ Below w.heap.size w w'

set_option maxHeartbeats 2000000 in
theorem copy_any (key lp val : ByteArray) (ls : Int) (A : Option Addr) (n c : Nat) (l : List RecM) (w : World) (hn : n = l.length) (hl : RecsAt w w.heap.size A l) :
    Calls Try.prog 17 #[rowV key ls lp val A n c] w (RowOut key ls lp val l w) := by
  have hlen := hl.len
  subst hn
  obtain ⟨Z, hZ, hmk⟩ := make_recs l.length hlen
  obtain ⟨W3, hW3⟩ : ∃ W3, W3 = ((w.alloc (.cells #[.string key, .int .i64 ls, .string lp, .string val, .slice A l.length c] 27)).alloc (.cells #[.string ⟨#[]⟩, .int .i64 0, .string ⟨#[]⟩, .string ⟨#[]⟩, .slice none 0 0] 27)).alloc (.cells Z 56) := ⟨_, rfl⟩
  have hb3 : Below w.heap.size w W3 := by rw [hW3]; repeat (first | with_reducible exact Below.refl _ _ | assumption | with_reducible apply below_alloc | with_reducible apply below_drew | with_reducible apply below_drewN | (with_reducible apply below_next; rotate_left; assumption))
  have hs3 : W3.heap.size = w.heap.size + 3 := by rw [hW3]; simp
  obtain ⟨hB0, hB1, hg3⟩ := three_blocks w (.cells #[.string key, .int .i64 ls, .string lp, .string val, .slice A l.length c] 27) (.cells #[.string ⟨#[]⟩, .int .i64 0, .string ⟨#[]⟩, .string ⟨#[]⟩, .slice none 0 0] 27) (.cells Z 56)
  rw [← hW3] at hB0 hB1 hg3
  have hcp := copy_recs W3 3 (w.heap.size + 2) l.length c _ A l Z rfl (hl.upto hb3) hZ hg3
  obtain ⟨W4, hW4⟩ : ∃ W4, W4 = W3.setRow (w.heap.size + 2) (recsC l).toArray := ⟨_, rfl⟩
  rw [← hW4] at hcp
  have hg4 : W4.heap[w.heap.size + 2]? = some (.cells (recsC l).toArray 56 (0, 0)) := by rw [hW4]; exact setRow_heap _ _ _ _ _ _ hg3
  have hb4 : Below (w.heap.size + 2) W3 W4 := by rw [hW4]; exact below_setRow (Below.refl _ _) (Nat.le_refl _) _
  have hD0 := (hb4.block w.heap.size (by omega)).trans hB0
  have hD1 := (hb4.block (w.heap.size + 1) (by omega)).trans hB1
  have hs4 : w.heap.size + 2 < W4.heap.size := by have := hb4.size; omega
  have hbw4 : Below w.heap.size w W4 := hb3.trans (hb4.mono (by omega))
  rw [hW3] at hcp
  have p0 : W4.cell? ⟨w.heap.size, 0, none⟩ = some (.string key) := by rw [Joins.cell_of_block hD0]; rfl
  have p1 : W4.cell? ⟨w.heap.size, 1, none⟩ = some (.int .i64 ls) := by rw [Joins.cell_of_block hD0]; rfl
  have p2 : W4.cell? ⟨w.heap.size, 2, none⟩ = some (.string lp) := by rw [Joins.cell_of_block hD0]; rfl
  have p3 : W4.cell? ⟨w.heap.size, 3, none⟩ = some (.string val) := by rw [Joins.cell_of_block hD0]; rfl
  have p4 : W4.cell? ⟨w.heap.size, 4, none⟩ = some (.slice A l.length c) := by rw [Joins.cell_of_block hD0]; rfl
  have p5 : W4.frozen? ⟨w.heap.size, 4, none⟩ = false := Joins.unfrozen_of_block hD0 _
  have q0 : W4.cell? ⟨w.heap.size + 1, 0, none⟩ = some (.string ⟨#[]⟩) := by rw [Joins.cell_of_block hD1]; rfl
  have q1 : W4.cell? ⟨w.heap.size + 1, 1, none⟩ = some (.int .i64 0) := by rw [Joins.cell_of_block hD1]; rfl
  have q2 : W4.cell? ⟨w.heap.size + 1, 2, none⟩ = some (.string ⟨#[]⟩) := by rw [Joins.cell_of_block hD1]; rfl
  have q3 : W4.cell? ⟨w.heap.size + 1, 3, none⟩ = some (.string ⟨#[]⟩) := by rw [Joins.cell_of_block hD1]; rfl
  have q4 : W4.cell? ⟨w.heap.size + 1, 4, none⟩ = some (.slice none 0 0) := by rw [Joins.cell_of_block hD1]; rfl
  have f0 : W4.frozen? ⟨w.heap.size + 1, 0, none⟩ = false := Joins.unfrozen_of_block hD1 _
  have f1 : W4.frozen? ⟨w.heap.size + 1, 1, none⟩ = false := Joins.unfrozen_of_block hD1 _
  have f2 : W4.frozen? ⟨w.heap.size + 1, 2, none⟩ = false := Joins.unfrozen_of_block hD1 _
  have f3 : W4.frozen? ⟨w.heap.size + 1, 3, none⟩ = false := Joins.unfrozen_of_block hD1 _
  have f4 : W4.frozen? ⟨w.heap.size + 1, 4, none⟩ = false := Joins.unfrozen_of_block hD1 _
  have HG := Lib.hid hg4
  have HB4 := Lib.hid hbw4
  have HL := Lib.hid hl
  clear hg4 hb4 hbw4 hD0 hD1 hW4 hW3 hB0 hB1 hg3 hb3 hs3 hl W3
  go_enter Try.func17, Try.ntmps17
  go_wp2
  refine bodyPost_ret (v := rowV key ls lp val (some ⟨w.heap.size + 2, 0, none⟩) l.length l.length) (by simp [results, Try.results17, go_sem, q0, q1, q2, q3, q4]) rfl ⟨some ⟨w.heap.size + 2, 0, none⟩, l.length, rfl, ?_, ⟨fun ad h => by injection h with h; subst h; show _ ≤ w.heap.size + 2; omega, Nat.le_refl _⟩, ?_⟩
  · refine recsAt_block HL.out.1 HL.out.2.1 ?_ (cur := (recsC l).toArray) (t := 56) (fr := (0, 0)) ?_ (fun j v h => by simpa using h)
    · simp [World.setCell]; omega
    · repeat (rw [Below.heap_setCell _ _ _ _ (by simp)])
      exact HG.out
  · repeat (refine below_set ?_ (by simp) _)
    exact HB4.out

set_option maxHeartbeats 2000000 in
theorem sameRow_true (key lp val : ByteArray) (ls : Int) (A A' : Option Addr) (n c n' c' : Nat) (l : List RecM) (w : World) (hn : n = l.length) (hn' : n' = l.length) (hl : RecsAt w w.heap.size A l) (hl' : RecsAt w w.heap.size A' l) :
    Calls Try.prog 18 #[rowV key ls lp val A n c, rowV key ls lp val A' n' c'] w fun e w' => e = .returned (.bool true) ∧ Below w.heap.size w w' := by
  subst hn hn'
  have hlen := hl.len
  have HL := Lib.hid hl
  have HL' := Lib.hid hl'
  clear hl hl'
  go_enter Try.func18, Try.ntmps18
  go_wp2
  go_loopw [5] (fun i wr => ∃ (k q : Nat), k ≤ l.length ∧ i = .int .i64 k ∧ wr = ((w.alloc (.cells #[.string key, .int .i64 ls, .string lp, .string val, .slice A l.length c] 27)).alloc (.cells #[.string key, .int .i64 ls, .string lp, .string val, .slice A' l.length c'] 27)).drewN q) (fun i _ => l.length - (intOf i).toNat)
  case atStart => exact ⟨0, 0, Nat.zero_le _, rfl, rfl⟩
  case round =>
    obtain ⟨k, q, hk, rfl, rfl⟩ := hrel
    by_cases hm : k < l.length
    · obtain ⟨b, o, rfl, hbb, hr⟩ := HL.out.at_ (getD_of hm)
      obtain ⟨b', o', rfl, hbb', hr'⟩ := HL'.out.at_ (getD_of hm)
      obtain ⟨r, hr0⟩ : ∃ r, r = l.getD k default := ⟨_, rfl⟩
      rw [← hr0] at hr hr'
      obtain ⟨c0, c1, c2⟩ := hr
      obtain ⟨d0, d1, d2⟩ := hr'
      clear hr0
      obtain ⟨rs, rc, rv⟩ := r
      have j0 : (0 : Int) ≤ (k : Int) := by omega
      have hbn : b < w.heap.size + 1 := by omega
      have hbn' : b' < w.heap.size + 1 := by omega
      go_wp2
      go_quiet (fail)
      go_wp2
      go_roundw
      case rel => exact ⟨k + 1, _, by omega, by go_num, rfl⟩
      case measure => simp [intOf]; omega
    · go_wp2
      go_ret
      exact ⟨rfl, by repeat (first | with_reducible exact Below.refl _ _ | assumption | with_reducible apply below_alloc | with_reducible apply below_drew | with_reducible apply below_drewN | (with_reducible apply below_next; rotate_left; assumption))⟩
end Go.Proofs.Ytambkjnhfejfaaa
