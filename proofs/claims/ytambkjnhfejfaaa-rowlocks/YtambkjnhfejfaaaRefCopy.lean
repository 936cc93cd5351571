/-
  Contract of rickyardref.RowCopy: an equal row in new memory. Conditions: the row's records lie in memory ('RecsAt').
-/
import Derived.Test.YtambkjnhfejfaaaAppMem
import Derived.Deep.RegionHeld3
namespace Go.Proofs.Ytambkjnhfejfaaa
open Go.RowKit

/-- What the box of five cells at block g holds in a later world that keeps it. -/
theorem boxT {W0 w' : World} {g : Nat} {v0 v1 v2 v3 v4 : Value} (h0 : W0.cell? ⟨g, 0, none⟩ = some v0) (h1 : W0.cell? ⟨g, 1, none⟩ = some v1) (h2 : W0.cell? ⟨g, 2, none⟩ = some v2) (h3 : W0.cell? ⟨g, 3, none⟩ = some v3)
    (h4 : W0.cell? ⟨g, 4, none⟩ = some v4) (hb : Below (g + 1) W0 w') :
    w'.cell? ⟨g, 0, none⟩ = some v0 ∧ w'.cell? ⟨g, 1, none⟩ = some v1 ∧ w'.cell? ⟨g, 2, none⟩ = some v2 ∧ w'.cell? ⟨g, 3, none⟩ = some v3 ∧ w'.cell? ⟨g, 4, none⟩ = some v4 ∧ Below (g + 1) W0 w' := by
  exact ⟨(hb.cell (p := ⟨g, 0, none⟩) (Nat.lt_succ_self g)).trans h0, (hb.cell (p := ⟨g, 1, none⟩) (Nat.lt_succ_self g)).trans h1, (hb.cell (p := ⟨g, 2, none⟩) (Nat.lt_succ_self g)).trans h2, (hb.cell (p := ⟨g, 3, none⟩) (Nat.lt_succ_self g)).trans h3, (hb.cell (p := ⟨g, 4, none⟩) (Nat.lt_succ_self g)).trans h4, hb⟩

/-- What a box of five zero cells holds: a row's zero value, none of it frozen. -/
structure ZeroRow (w : World) (g : Nat) : Prop where
  block : w.heap[g]? = some (.cells #[.string ⟨#[]⟩, .int .i64 0, .string ⟨#[]⟩, .string ⟨#[]⟩, .slice none 0 0] 27 (0, 0))
theorem ZeroRow.c0 {w : World} {g : Nat} (h : ZeroRow w g) : w.cell? ⟨g, 0, none⟩ = some (.string ⟨#[]⟩) := by rw [Joins.cell_of_block h.block]; rfl
theorem ZeroRow.c1 {w : World} {g : Nat} (h : ZeroRow w g) : w.cell? ⟨g, 1, none⟩ = some (.int .i64 0) := by rw [Joins.cell_of_block h.block]; rfl
theorem ZeroRow.c2 {w : World} {g : Nat} (h : ZeroRow w g) : w.cell? ⟨g, 2, none⟩ = some (.string ⟨#[]⟩) := by rw [Joins.cell_of_block h.block]; rfl
theorem ZeroRow.c3 {w : World} {g : Nat} (h : ZeroRow w g) : w.cell? ⟨g, 3, none⟩ = some (.string ⟨#[]⟩) := by rw [Joins.cell_of_block h.block]; rfl
theorem ZeroRow.c4 {w : World} {g : Nat} (h : ZeroRow w g) : w.cell? ⟨g, 4, none⟩ = some (.slice none 0 0) := by rw [Joins.cell_of_block h.block]; rfl
theorem ZeroRow.f {w : World} {g : Nat} (h : ZeroRow w g) (i : Nat) : w.frozen? ⟨g, i, none⟩ = false := Joins.unfrozen_of_block h.block i
theorem ZeroRow.keep {w w' : World} {g : Nat} (h : ZeroRow w g) (hk : w'.heap[g]? = w.heap[g]?) : ZeroRow w' g := ⟨hk.trans h.block⟩

theorem zero_facts {w : World} {g : Nat} (h : ZeroRow w g) : w.cell? ⟨g, 0, none⟩ = some (.string ⟨#[]⟩) ∧ w.cell? ⟨g, 1, none⟩ = some (.int .i64 0) ∧ w.cell? ⟨g, 2, none⟩ = some (.string ⟨#[]⟩) ∧ w.cell? ⟨g, 3, none⟩ = some (.string ⟨#[]⟩) ∧ w.cell? ⟨g, 4, none⟩ = some (.slice none 0 0) ∧
    w.frozen? ⟨g, 0, none⟩ = false ∧ w.frozen? ⟨g, 1, none⟩ = false ∧ w.frozen? ⟨g, 2, none⟩ = false ∧ w.frozen? ⟨g, 3, none⟩ = false ∧ w.frozen? ⟨g, 4, none⟩ = false :=
  ⟨h.c0, h.c1, h.c2, h.c3, h.c4, h.f 0, h.f 1, h.f 2, h.f 3, h.f 4⟩

set_option maxHeartbeats 4000000 in
theorem refCopy_any (key lp val : ByteArray) (ls : Int) (A : Option Addr) (n c : Nat) (l : List RecM) (w : World) (hn : n = l.length) (hl : RecsAt w w.heap.size A l) :
    Calls Try.prog 23 #[rowV key ls lp val A n c] w (RowOut key ls lp val l w) := by
  have hlen := hl.len
  subst hn
  obtain ⟨W0, hW0⟩ : ∃ W0, W0 = (w.alloc (.cells #[.string key, .int .i64 ls, .string lp, .string val, .slice A l.length c] 27)).alloc (.cells #[.string ⟨#[]⟩, .int .i64 0, .string ⟨#[]⟩, .string ⟨#[]⟩, .slice none 0 0] 27) := ⟨_, rfl⟩
  have hb0 : Below w.heap.size w W0 := by rw [hW0]; repeat (first | with_reducible exact Below.refl _ _ | assumption | with_reducible apply below_alloc | with_reducible apply below_drew | with_reducible apply below_drewN | (with_reducible apply below_next; rotate_left; assumption))
  have hs0 : W0.heap.size = w.heap.size + 2 := by rw [hW0]; simp
  have hz0 : ZeroRow W0 (w.heap.size + 1) := ⟨by
    have h := heap_alloc_new (w.alloc (.cells #[.string key, .int .i64 ls, .string lp, .string val, .slice A l.length c] 27)) (.cells #[.string ⟨#[]⟩, .int .i64 0, .string ⟨#[]⟩, .string ⟨#[]⟩, .slice none 0 0] 27)
    rw [hW0]; simpa using h⟩
  have k0 : W0.cell? ⟨w.heap.size, 0, none⟩ = some (.string key) := by rw [hW0]; simp
  have k1 : W0.cell? ⟨w.heap.size, 1, none⟩ = some (.int .i64 ls) := by rw [hW0]; simp
  have k2 : W0.cell? ⟨w.heap.size, 2, none⟩ = some (.string lp) := by rw [hW0]; simp
  have k3 : W0.cell? ⟨w.heap.size, 3, none⟩ = some (.string val) := by rw [hW0]; simp
  have k4 : W0.cell? ⟨w.heap.size, 4, none⟩ = some (.slice A l.length c) := by rw [hW0]; simp
  have hrun := append_recs W0.drew 25 (w.heap.size + 2) W0.heap.size l.length c (.slice none 0 0) [] A l (ownsRecs_nil _ _) rfl ((hl.upto hb0).drew) (by simpa using hlen) (by show _ ≤ W0.heap.size; omega)
  have hrun' : ∃ v' w', (Builtin.append_ #[25, 25] 25 #[.slice none 0 0, .slice A l.length c]).run Try.prog W0.drew = .ok v' w' ∧ ∃ A' c', v' = .slice A' l.length c' ∧ OwnsRecs w' (w.heap.size + 2) (.slice A' l.length c') l ∧ Below (w.heap.size + 2) W0 w' := by
    obtain ⟨v', w', h1, h2, h3, _⟩ := hrun
    obtain ⟨A', c', hv, _⟩ := h2.at_ (by simpa using hlen) (fun r hr => hl.ok (by simpa using hr))
    subst hv
    exact ⟨_, w', h1, A', c', by simp, h2, (Below.drew (Below.refl _ _)).grown h3 (by show _ ≤ W0.heap.size; omega) (by simp [Value.ownBlock])⟩
  clear hrun
  have HW := Lib.hid hW0
  have HB0 := Lib.hid hb0
  have HZ := Lib.hid hz0
  have HR := Lib.hid hrun'
  have HL := Lib.hid hl
  have HS := Lib.hid hs0
  clear hW0 hb0 hz0 hrun' hl hs0
  go_enter Try.func23, Try.ntmps23
  go_wp2_with fail
  rw [← HW.out]
  go_region_held3 (fun w' => w'.cell? ⟨w.heap.size, 0, none⟩ = some (.string key) ∧ w'.cell? ⟨w.heap.size, 1, none⟩ = some (.int .i64 ls) ∧ w'.cell? ⟨w.heap.size, 2, none⟩ = some (.string lp) ∧ w'.cell? ⟨w.heap.size, 3, none⟩ = some (.string val) ∧ w'.cell? ⟨w.heap.size, 4, none⟩ = some (.slice A l.length c) ∧ Below (w.heap.size + 1) W0 w')
    (first | exact boxT k0 k1 k2 k3 k4 (Below.drew (Below.refl _ _)) | exact boxT k0 k1 k2 k3 k4 hq | exact boxT k0 k1 k2 k3 k4 (((((hq.setCell (by simp) _).setCell (by simp) _).setCell (by simp) _).setCell (by simp) _).setCell (by simp) _))
    ((refine step_append_run _ rfl _ _ 25 rfl _ _ rfl rfl HR.out ?_; rintro v1 w1 ⟨A1, c1, rfl, hrec, hq2⟩; have HREC := Lib.hid hrec; have hq := hq2.mono (Nat.le_succ (w.heap.size + 1)); have hz1 : ZeroRow w1 (w.heap.size + 1) := HZ.out.keep (hq2.block _ (by omega)); have r0 := hz1.c0; have r1 := hz1.c1; have r2 := hz1.c2; have r3 := hz1.c3; have r4 := hz1.c4; have f0 := hz1.f 0; have f1 := hz1.f 1; have f2 := hz1.f 2; have f3 := hz1.f 3; have f4 := hz1.f 4))
  clear hrec hq2 hq hz1
  go_split_ands
  go_wp2
  refine bodyPost_ret (v := rowV key ls lp val A1 l.length c1) (by simp [results, Try.results23, go_sem, r0, r1, r2, r3, r4]) rfl ⟨A1, c1, rfl, ?_, ⟨fun ad h => by have := HREC.out.new ad h; omega, HREC.out.cap⟩, ?_⟩
  · refine OwnsRecs.rec (base := w.heap.size + 2) (n := l.length) (c := c1) ?_ HL.out.1 HL.out.2.1
    repeat (refine OwnsRecs.set ?_ (by simp) _)
    exact HREC.out
  · exact HB0.out.trans (Below.mono (by assumption) (by omega))
end Go.Proofs.Ytambkjnhfejfaaa
