/-
  Contracts of functions of the program and words for memory, several texts in one: KRun. Conditions: those stated with each.
-/
import Derived.Test.YtambkjnhfejfaabDoorG29
namespace Go.Proofs.YtambkjnhfejfaabDoor
open Go.RowKit
/-- Answers that go out. -/
def AnsOutL (l : List ActM) (w : World) (e : Ending) (w' : World) : Prop :=
  ∃ g, e = .returned (.tuple #[.slice (some ⟨g, 0, none⟩) l.length l.length, .bool true]) ∧ AnsDone g l.length (runAns (startW 3) l) w' ∧ Below w.heap.size w w'
set_option maxRecDepth 100000 in
set_option maxHeartbeats 4000000 in
theorem kRun_any (A : Option Addr) (q : Nat) (l : List ActM) (w : World) (hact : ActsAt w (· < w.heap.size) A l) (hl : l.length ≤ 400) :
    Calls Tryd.prog 30 #[.slice A l.length q] w (AnsOutL l w) := by
  have HR := Lib.hid (run_any 3 A l q w hact)
  clear hact
  go_enter Tryd.func30, Tryd.ntmps30
  go_wp2_with fail
  refine HR.out.mono ?_
  rintro e w1 ⟨hb1, hor⟩
  rcases hor with ⟨h, _⟩ | ⟨_, h, _⟩ | ⟨_, _, g, RA, n, rc, CA, m, cc, rfl, hwo, hans, hg⟩
  · exact absurd h (by decide)
  · omega
  · have HA := Lib.hid hans
    have HB := Lib.hid hb1
    have q0 : ((l.length : Int) == (l.length : Int)) = true := by simp
    clear hwo hans hb1
    go_wp2
    go_ret2
    exact ⟨g, rfl, HA.out.kept (Below.heap_alloc _ _ _ HA.out.lt), below_alloc HB.out _⟩
/-- Acts in a block of their own. -/
theorem acts_block {w W : World} {g : Nat} {l : List ActM} {cur : Array Value} (hh : w.heap[g]? = some (.cells cur 52 (0, 0))) (hc : cur.toList = actCells.all l) (hl : l.length ≤ 1000) (hok : ∀ a ∈ l, ActOk a) (hb : Below w.heap.size w W) : ActsAt W (· < W.heap.size) (some ⟨g, 0, none⟩) l := by
  have ho : OwnsActs w 0 (.slice (some ⟨g, 0, none⟩) l.length l.length) l := Cells.Owns.block (C := actCells) (Nat.zero_le _) hh hc (by omega)
  exact SeqAt.acts (OwnsActs.acts (ho.kept hb) (by omega) hok).2.2 (fun b hb => hb.2) (fun _ _ _ => rfl)
theorem two_blocks (w : World) (o1 o2 : Obj) : ∃ W, W = (w.alloc o1).alloc o2 ∧ Below w.heap.size w W ∧ W.heap.size = w.heap.size + 2 ∧ W.heap[w.heap.size]? = some o1 ∧ W.heap[w.heap.size + 1]? = some o2 := by
  have h1 := heap_alloc_new w o1
  have h2 := heap_alloc_new (w.alloc o1) o2
  have s1 : (w.alloc o1).heap.size = w.heap.size + 1 := by simp
  rw [s1] at h2
  exact ⟨_, rfl, below_alloc (below_alloc (Below.refl _ _) _) _, by simp, (Below.heap_alloc _ o2 _ (by omega)).trans h1, h2⟩
theorem strs_block {W : World} {g : Nat} {l : List ByteArray} {t : TypeId} (hh : W.heap[g]? = some (.cells (l.map Value.string).toArray t (0, 0))) (hl : l.length ≤ 100) (hs : ∀ k ∈ l, k.size ≤ 6) : StrsAt W (· < W.heap.size) (some ⟨g, 0, none⟩) l :=
  SeqAt.block (by omega) (Array.getElem?_eq_some_iff.1 hh).1 fun i x hx => by
    refine ⟨?_, hs x (List.mem_of_getElem? hx)⟩
    rw [Nat.mul_one, Joins.cell_of_block hh]
    simp [hx]
/-- Parts in a block of their own. -/
theorem parts_block {W : World} {g : Nat} {l : List PartM} {t : TypeId} (hh : W.heap[g]? = some (.cells (l.map fun p => Value.slice p.A p.l.length p.c).toArray t (0, 0))) (hl : l.length ≤ 100) (hs : ∀ p ∈ l, ActsAt W (· < W.heap.size) p.A p.l) : PartsAt W (some ⟨g, 0, none⟩) l :=
  SeqAt.block (by omega) (Array.getElem?_eq_some_iff.1 hh).1 fun i x hx => by
    refine ⟨?_, hs x (List.mem_of_getElem? hx)⟩
    rw [Nat.mul_one, Joins.cell_of_block hh]
    simp [hx]
end Go.Proofs.YtambkjnhfejfaabDoor
