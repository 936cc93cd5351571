/-
  Contracts of functions of the program and words for memory, several texts in one: RefUndo, UndoAll, TOps, TOpFn, TChange0. Conditions: those stated with each.
-/
import Derived.Test.YtambkjnhfejfaacGreatDoorG00
import Derived.Test.YtambkjnhfejfaacGreatDoorG05
import Derived.Test.YtambkjnhfejfaacGreatDoorG12
import Derived.Test.YtambkjnhfejfaacGreatDoorG13
import Derived.Test.YtambkjnhfejfaacGreatDoorG14
import Derived.Test.YtambkjnhfejfaacGreatDoorG18
import Derived.Test.YtambkjnhfejfaacGreatDoorG19
import Derived.Deep.RegionHeld3
import Derived.StillTailTactics
namespace Go.Proofs.YtambkjnhfejfaacGreatDoor
open Go.RowKit
set_option linter.unusedVariables false

theorem stOf_cases (ls st : Int) (l : List RecM) : stOf ls st l = 0 ∨ stOf ls st l = 1 ∨ stOf ls st l = 2 ∨ stOf ls st l = 3 := by
  unfold stOf
  split
  · exact .inr (.inl rfl)
  · split
    · split
      · exact .inr (.inr (.inr rfl))
      · exact .inr (.inr (.inl rfl))
    · exact .inl rfl

section
variable (key lp val : ByteArray) (ls : Int) (A : Option Addr) (n c : Nat) (l : List RecM) (st : Int) (w : World)

theorem undoFn_err (hi : RowIn w key lp val A n l) (h : undoE key ls lp val l st ≠ 0) : Calls Tryz.prog 80 #[rowV key ls lp val A n c, .int .i64 st] w (RowOut2 ⟨#[]⟩ 0 ⟨#[]⟩ ⟨#[]⟩ [] (undoE key ls lp val l st) w) := by
  unfold undoE at h ⊢
  split
  · exact undo_state key lp val ls A n c l st w hi ‹_›
  rename_i t
  rw [if_neg t] at h
  have t' : rowB key ls lp val l = true := by simpa using t
  split
  · exact undo_range key lp val ls A n c l st w hi t' ‹_›
  rename_i t2
  rw [if_neg t2] at h
  have t2' : inB st 1 1099511627776 = true := by simpa using t2
  split
  · rename_i t3
    exact undo_done key lp val ls A n c l st w hi t' t2' (by simpa using t3)
  rename_i t3
  rw [if_neg t3] at h
  split
  · rename_i t4
    rw [if_pos t4] at h
    exact absurd rfl h
  rename_i t4
  rw [if_neg t4] at h
  split
  · rename_i t5
    rw [if_pos t5] at h
    exact absurd rfl h
  rename_i t5
  rw [if_neg t5] at h
  split
  · rename_i t6
    have hz : ¬ ls = st → (stOf ls st l == 0) = true := fun h5 => by
      have := stOf_cases ls st l
      rw [beq_iff_eq]
      rcases this with h | h | h | h
      · exact h
      · exact absurd (stOf_one.1 h) h5
      · exact absurd h t3
      · exact absurd h t4
    exact undo_full key lp val ls A n c l st w hi t' t2' (by simpa using t3) (by simpa using t4) (by rw [beq_eq_false_iff_ne]; exact fun h => t5 (stOf_one.1 h)) (by simpa using t6)
  · rename_i t6
    rw [if_neg t6] at h
    exact absurd rfl h

end
end Go.Proofs.YtambkjnhfejfaacGreatDoor

namespace Go.Proofs.YtambkjnhfejfaacGreatDoor
open Go.RowKit
set_option linter.unusedVariables false

/-- The transaction is undone already. -/
structure UGone (key : ByteArray) (ls : Int) (lp val : ByteArray) (l : List RecM) (st : Int) : Prop where
  t : rowB key ls lp val l = true
  t2 : inB st 1 1099511627776 = true
  t4 : stOf ls st l = 3
/-- It has the lock. -/
structure UHeld (key : ByteArray) (ls : Int) (lp val : ByteArray) (l : List RecM) (st : Int) : Prop where
  t : rowB key ls lp val l = true
  t2 : inB st 1 1099511627776 = true
  t6 : ls = st
/-- It is unknown, and there is room. -/
structure UNew (key : ByteArray) (ls : Int) (lp val : ByteArray) (l : List RecM) (st : Int) : Prop where
  t : rowB key ls lp val l = true
  t2 : inB st 1 1099511627776 = true
  t3 : stOf ls st l = 0
  t6 : ¬ ls = st
  t7 : ¬ roomOf ls ≤ (l.length : Int)

theorem undo_cases {key : ByteArray} {ls : Int} {lp val : ByteArray} {l : List RecM} {st : Int} (h : undoE key ls lp val l st = 0) : UGone key ls lp val l st ∨ UHeld key ls lp val l st ∨ UNew key ls lp val l st := by
  unfold undoE at h
  split at h
  · omega
  rename_i t
  split at h
  · omega
  rename_i t2
  have t' : rowB key ls lp val l = true := by simpa using t
  have t2' : inB st 1 1099511627776 = true := by simpa using t2
  split at h
  · omega
  rename_i t3
  split at h
  · rename_i t4; exact .inl ⟨t', t2', t4⟩
  rename_i t4
  split at h
  · rename_i t5; exact .inr (.inl ⟨t', t2', t5⟩)
  rename_i t5
  split at h
  · omega
  rename_i t6
  refine .inr (.inr ⟨t', t2', ?_, t5, t6⟩)
  rcases stOf_cases ls st l with h | h | h | h
  · exact h
  · exact absurd (stOf_one.1 h) t5
  · exact absurd h t3
  · exact absurd h t4

section
variable (key lp val : ByteArray) (ls : Int) (A : Option Addr) (n c : Nat) (l : List RecM) (st : Int) (w : World)

theorem undoFn_gone (hi : RowIn w key lp val A n l) (hcap : n ≤ c) (h : UGone key ls lp val l st) : Calls Tryz.prog 80 #[rowV key ls lp val A n c, .int .i64 st] w (RowOut2 key ls lp val l 0 w) :=
  undo_gone key lp val ls A n c l st w hi h.t h.t2 (by rw [h.t4]; rfl) (by rw [h.t4]; rfl)
theorem undoFn_held (hi : RowIn w key lp val A n l) (hcap : n ≤ c) (h : UHeld key ls lp val l st) : Calls Tryz.prog 80 #[rowV key ls lp val A n c, .int .i64 st] w (RowOut2 key 0 ⟨#[]⟩ ⟨#[]⟩ (endRec l ⟨st, 0, ⟨#[]⟩⟩) 0 w) := by
  have h1 : 1 ≤ st := (inB_true.1 h.t2).1
  have hf := lock_free h.t (by have := h.t6; omega)
  have h6 : stOf ls st l = 1 := stOf_one.2 h.t6
  rw [h.t6] at hf
  rw [← ins_eq_end (recs_ok h.t) ⟨st, 0, ⟨#[]⟩⟩ hf.1]
  exact undo_held key lp val ls A n c l st w hi h.t h.t2 (by rw [h6]; rfl) (by rw [h6]; rfl) (by rw [h6]; rfl) hcap (by have := hi.n; omega)
theorem undoFn_new (hi : RowIn w key lp val A n l) (hcap : n ≤ c) (h : UNew key ls lp val l st) : Calls Tryz.prog 80 #[rowV key ls lp val A n c, .int .i64 st] w (RowOut2 key ls lp val (endRec l ⟨st, 0, ⟨#[]⟩⟩) 0 w) := by
  have hl := row_len h.t
  rw [← ins_eq_end (recs_ok h.t) ⟨st, 0, ⟨#[]⟩⟩ ((stOf_zero h.t6).1 h.t3)]
  exact undo_new key lp val ls A n c l st w hi h.t h.t2 (by rw [h.t3]; rfl) (by rw [h.t3]; rfl) (by rw [h.t3]; rfl) (decide_eq_false h.t7) hcap (by have := hi.n; omega)
end
end Go.Proofs.YtambkjnhfejfaacGreatDoor

namespace Go.Proofs.YtambkjnhfejfaacGreatDoor
open Go.RowKit

/-- A row and an error that go out. -/
def OpOut (x : RowM × Int) (w : World) (e : Ending) (w' : World) : Prop := RowOut2 x.1.key x.1.ls x.1.lp x.1.val x.1.recs x.2 w e w'
/-- A row as it comes to an operation. -/
structure OpIn (w : World) (r : RowM) (A : Option Addr) (n c : Nat) : Prop where
  i : RowIn w r.key r.lp r.val A n r.recs
  c : n ≤ c
theorem OpIn.upto {w W : World} {r : RowM} {A : Option Addr} {n c : Nat} (h : OpIn w r A n c) (hb : Below w.heap.size w W) : OpIn W r A n c := ⟨h.i.upto hb, h.c⟩
abbrev rV (r : RowM) (A : Option Addr) (n c : Nat) : Value := rowV r.key r.ls r.lp r.val A n c

section
variable (r : RowM) (A : Option Addr) (n c : Nat) (st cm : Int) (pk pv : ByteArray) (w : World)
theorem lockFn_op (h : OpIn w r A n c) (hp : pk.size ≤ maxLen) (hv : pv.size ≤ maxLen) : Calls Tryz.prog 74 #[rV r A n c, .int .i64 st, .string pk, .string pv] w (OpOut (lockOp st pk pv r) w) := by
  by_cases e : lockE r.key r.ls r.lp r.val r.recs st pk pv = 0
  · rw [lockOp, if_pos e]; exact lockFor_ok r.key r.lp r.val r.ls A n c r.recs st pk pv w h.i hp hv e
  · rw [lockOp, if_neg e]; exact lockFor_err r.key r.lp r.val r.ls A n c r.recs st pk pv w h.i hp hv e
theorem commitFn_op (h : OpIn w r A n c) : Calls Tryz.prog 78 #[rV r A n c, .int .i64 st, .int .i64 cm] w (OpOut (commitOp st cm r) w) := by
  by_cases e : commitE r.key r.ls r.lp r.val r.recs st cm = 0
  · rw [commitOp, if_pos e]; exact commitFn_ok r.key r.lp r.val r.ls A n c r.recs st cm w h.i h.c e
  · rw [commitOp, if_neg e]; exact commitFn_err r.key r.lp r.val r.ls A n c r.recs st cm w h.i e
theorem undoFn_op (h : OpIn w r A n c) : Calls Tryz.prog 80 #[rV r A n c, .int .i64 st] w (OpOut (undoOp st r) w) := by
  by_cases e : undoE r.key r.ls r.lp r.val r.recs st = 0
  · rw [undoOp, if_pos e]
    rcases undo_cases e with hg | hg | hg
    · rw [undoneR, if_pos hg.t4]; exact undoFn_gone r.key r.lp r.val r.ls A n c r.recs st w h.i h.c hg
    · have h1 : stOf r.ls st r.recs = 1 := stOf_one.2 hg.t6
      rw [undoneR, if_neg (by rw [h1]; decide), if_pos h1]; exact undoFn_held r.key r.lp r.val r.ls A n c r.recs st w h.i h.c hg
    · rw [undoneR, if_neg (by rw [hg.t3]; decide), if_neg (by rw [hg.t3]; decide)]; exact undoFn_new r.key r.lp r.val r.ls A n c r.recs st w h.i h.c hg
  · rw [undoOp, if_neg e]; exact undoFn_err r.key r.lp r.val r.ls A n c r.recs st w h.i e
end
end Go.Proofs.YtambkjnhfejfaacGreatDoor

namespace Go.Proofs.YtambkjnhfejfaacGreatDoor
open Go.RowKit

/-- Behind the five stores into the result. -/
theorem opOut_end {x : RowM × Int} {w W0 w2 : World} {A2 : Option Addr} {c2 : Nat} (hb : Below w.heap.size w W0) (hs : W0.heap.size = w.heap.size + 2) (hb2 : Below W0.heap.size W0 w2) (hr : RecsAt w2 w2.heap.size A2 x.1.recs) (hn : NewC W0.heap.size A2 x.1.recs.length c2) (v0 v1 v2 v3 v4 : Value) :
    RecsAt (set5 w2 (w.heap.size + 1) 0 v0 v1 v2 v3 v4) (set5 w2 (w.heap.size + 1) 0 v0 v1 v2 v3 v4).heap.size A2 x.1.recs ∧ NewC w.heap.size A2 x.1.recs.length c2 ∧ Below w.heap.size w (set5 w2 (w.heap.size + 1) 0 v0 v1 v2 v3 v4) := by
  have hs5 := set5_same w2 (w.heap.size + 1) 0 v0 v1 v2 v3 v4
  refine ⟨?_, ⟨fun ad h => by have := hn.1 ad h; omega, hn.2⟩, below_set5 (below_next hb hb2) (by omega) _ _ _ _ _ _⟩
  rw [hs5.sz]
  refine ⟨hr.1, hr.2.1, fun h0 => ?_⟩
  obtain ⟨b, o, hA, hbb, hc⟩ := hr.2.2 h0
  have hnb := hn.1 _ hA
  refine ⟨b, o, hA, hbb, fun i r h => (hc i r h).keep fun k => hs5.cell _ fun e => ?_⟩
  have h1 : b = w.heap.size + 1 := e.1
  have h2 : W0.heap.size ≤ b := hnb
  omega

set_option maxHeartbeats 2000000 in
theorem undoOpFn (r : RowM) (A : Option Addr) (n c : Nat) (st : Int) (pb : Nat) (w : World) (h : OpIn w r A n c) (hp : w.cell? ⟨pb, 0, none⟩ = some (.int .i64 st)) :
    Calls Tryz.prog 79 #[rV r A n c, .pointer (some ⟨pb, 0, none⟩)] w (OpOut (undoOp st r) w) := by
  obtain ⟨key, ls, lp, val, recs⟩ := r
  obtain ⟨W0, hW, k0, k1, k2, k3, k4, hz, hbW, hsW⟩ := box2_new w (.string key) (.int .i64 ls) (.string lp) (.string val) (.slice A n c)
  have hlt : pb < w.heap.size := World.block_lt_of_cell? w _ hp
  have hp0 := (hbW.cell (p := ⟨pb, 0, none⟩) hlt).trans hp
  have HW := Lib.hid hW
  have HI := Lib.hid (h.upto hbW)
  have HZ := Lib.hid hz
  have HB := Lib.hid hbW
  have HS := Lib.hid hsW
  have hsz : w.heap.size + 1 < W0.heap.size := by omega
  clear hW hz h hsW
  go_enter Tryz.func79, Tryz.ntmps79
  go_wp2_with fail
  rw [← HW.out]
  refine (undoFn_op ⟨key, ls, lp, val, recs⟩ A n c st W0 HI.out).mono ?_
  obtain ⟨x, hx⟩ : ∃ x, x = undoOp st ⟨key, ls, lp, val, recs⟩ := ⟨_, rfl⟩
  rw [← hx]
  have HX := Lib.hid hx
  clear hx
  rintro e w2 ⟨A2, c2, rfl, hr2, hnew, hb2⟩
  have HR := Lib.hid hr2
  have HN := Lib.hid hnew
  have HB2 := Lib.hid hb2
  have hs2 : w.heap.size + 1 < w2.heap.size := by have := hb2.size; omega
  obtain ⟨z0, z1, z2, z3, z4, u0, u1, u2, u3, u4⟩ := zero_facts (HZ.out.keep (hb2.block _ hsz))
  obtain ⟨⟨xk, xl, xp, xv, xr⟩, xe⟩ := x
  clear hr2 hnew hb2
  go_wp2
  obtain ⟨q1, q2, q3⟩ := opOut_end (x := (⟨xk, xl, xp, xv, xr⟩, xe)) HB.out HS.out HB2.out HR.out HN.out (.string xk) (.int .i64 xl) (.string xp) (.string xv) (.slice A2 xr.length c2)
  rw [← HX.out]
  exact bodyPost_ret (v := .tuple #[rowV xk xl xp xv A2 xr.length c2, .int .i64 xe]) (by simp [results, Tryz.results79, go_sem, z0, z1, z2, z3, z4]) rfl ⟨A2, c2, rfl, q1, q2, q3⟩

set_option maxHeartbeats 2000000 in
theorem commitOpFn (r : RowM) (A : Option Addr) (n c : Nat) (st cm : Int) (pb pc : Nat) (w : World) (h : OpIn w r A n c) (hp : w.cell? ⟨pb, 0, none⟩ = some (.int .i64 st)) (hq : w.cell? ⟨pc, 0, none⟩ = some (.int .i64 cm)) :
    Calls Tryz.prog 77 #[rV r A n c, .pointer (some ⟨pb, 0, none⟩), .pointer (some ⟨pc, 0, none⟩)] w (OpOut (commitOp st cm r) w) := by
  obtain ⟨key, ls, lp, val, recs⟩ := r
  obtain ⟨W0, hW, k0, k1, k2, k3, k4, hz, hbW, hsW⟩ := box2_new w (.string key) (.int .i64 ls) (.string lp) (.string val) (.slice A n c)
  have hlt : pb < w.heap.size := World.block_lt_of_cell? w _ hp
  have hlt' : pc < w.heap.size := World.block_lt_of_cell? w _ hq
  have hp0 := (hbW.cell (p := ⟨pb, 0, none⟩) hlt).trans hp
  have hq0 := (hbW.cell (p := ⟨pc, 0, none⟩) hlt').trans hq
  have HW := Lib.hid hW
  have HI := Lib.hid (h.upto hbW)
  have HZ := Lib.hid hz
  have HB := Lib.hid hbW
  have HS := Lib.hid hsW
  have hsz : w.heap.size + 1 < W0.heap.size := by omega
  clear hW hz h hsW
  go_enter Tryz.func77, Tryz.ntmps77
  go_wp2_with fail
  rw [← HW.out]
  refine (commitFn_op ⟨key, ls, lp, val, recs⟩ A n c st cm W0 HI.out).mono ?_
  obtain ⟨x, hx⟩ : ∃ x, x = commitOp st cm ⟨key, ls, lp, val, recs⟩ := ⟨_, rfl⟩
  rw [← hx]
  have HX := Lib.hid hx
  clear hx
  rintro e w2 ⟨A2, c2, rfl, hr2, hnew, hb2⟩
  have HR := Lib.hid hr2
  have HN := Lib.hid hnew
  have HB2 := Lib.hid hb2
  have hs2 : w.heap.size + 1 < w2.heap.size := by have := hb2.size; omega
  obtain ⟨z0, z1, z2, z3, z4, u0, u1, u2, u3, u4⟩ := zero_facts (HZ.out.keep (hb2.block _ hsz))
  obtain ⟨⟨xk, xl, xp, xv, xr⟩, xe⟩ := x
  clear hr2 hnew hb2
  go_wp2
  obtain ⟨q1, q2, q3⟩ := opOut_end (x := (⟨xk, xl, xp, xv, xr⟩, xe)) HB.out HS.out HB2.out HR.out HN.out (.string xk) (.int .i64 xl) (.string xp) (.string xv) (.slice A2 xr.length c2)
  rw [← HX.out]
  exact bodyPost_ret (v := .tuple #[rowV xk xl xp xv A2 xr.length c2, .int .i64 xe]) (by simp [results, Tryz.results77, go_sem, z0, z1, z2, z3, z4]) rfl ⟨A2, c2, rfl, q1, q2, q3⟩

/-- What the closure of lockNext reads. -/
structure LockCells (W : World) (g p1 p2 p3 bC q : Nat) (key : ByteArray) (ls : Int) (lp val : ByteArray) (A : Option Addr) (n c : Nat) (st : Int) (pk pv : ByteArray) : Prop where
  k0 : W.cell? ⟨g, 0, none⟩ = some (.string key)
  k1 : W.cell? ⟨g, 1, none⟩ = some (.int .i64 ls)
  k2 : W.cell? ⟨g, 2, none⟩ = some (.string lp)
  k3 : W.cell? ⟨g, 3, none⟩ = some (.string val)
  k4 : W.cell? ⟨g, 4, none⟩ = some (.slice A n c)
  h1 : W.cell? ⟨p1, 0, none⟩ = some (.pointer (some ⟨bC, q, none⟩))
  h2 : W.cell? ⟨bC, q + 1, none⟩ = some (.int .i64 st)
  h3 : W.cell? ⟨p2, 0, none⟩ = some (.string pk)
  h4 : W.cell? ⟨p3, 1, none⟩ = some (.string pv)
theorem LockCells.keep {W W' : World} {g p1 p2 p3 bC q : Nat} {key : ByteArray} {ls : Int} {lp val : ByteArray} {A : Option Addr} {n c : Nat} {st : Int} {pk pv : ByteArray} (h : LockCells W g p1 p2 p3 bC q key ls lp val A n c st pk pv) (hk : ∀ b o, (b = g ∨ b = p1 ∨ b = bC ∨ b = p2 ∨ b = p3) → W'.cell? ⟨b, o, none⟩ = W.cell? ⟨b, o, none⟩) : LockCells W' g p1 p2 p3 bC q key ls lp val A n c st pk pv :=
  ⟨(hk _ _ (by simp)).trans h.k0, (hk _ _ (by simp)).trans h.k1, (hk _ _ (by simp)).trans h.k2, (hk _ _ (by simp)).trans h.k3, (hk _ _ (by simp)).trans h.k4, (hk _ _ (by simp)).trans h.h1, (hk _ _ (by simp)).trans h.h2, (hk _ _ (by simp)).trans h.h3, (hk _ _ (by simp)).trans h.h4⟩

set_option maxRecDepth 100000 in
set_option maxHeartbeats 4000000 in
theorem lockOpFn (r : RowM) (A : Option Addr) (n c : Nat) (st : Int) (pk pv : ByteArray) (p1 p2 p3 bC q : Nat) (w : World) (h : OpIn w r A n c) (hpk : pk.size ≤ maxLen) (hpv : pv.size ≤ maxLen) (h1 : w.cell? ⟨p1, 0, none⟩ = some (.pointer (some ⟨bC, q, none⟩))) (h2 : w.cell? ⟨bC, q + 1, none⟩ = some (.int .i64 st)) (h3 : w.cell? ⟨p2, 0, none⟩ = some (.string pk)) (h4 : w.cell? ⟨p3, 1, none⟩ = some (.string pv)) :
    Calls Tryz.prog 73 #[rV r A n c, .pointer (some ⟨p1, 0, none⟩), .pointer (some ⟨p2, 0, none⟩), .pointer (some ⟨p3, 0, none⟩)] w (OpOut (lockOp st pk pv r) w) := by
  obtain ⟨key, ls, lp, val, recs⟩ := r
  obtain ⟨W0, hW, k0, k1, k2, k3, k4, hz, hbW, hsW⟩ := box2_new w (.string key) (.int .i64 ls) (.string lp) (.string val) (.slice A n c)
  have l1 : p1 < w.heap.size := World.block_lt_of_cell? w _ h1
  have l2 : bC < w.heap.size := World.block_lt_of_cell? w _ h2
  have l3 : p2 < w.heap.size := World.block_lt_of_cell? w _ h3
  have l4 : p3 < w.heap.size := World.block_lt_of_cell? w _ h4
  have hL : LockCells W0 w.heap.size p1 p2 p3 bC q key ls lp val A n c st pk pv := ⟨k0, k1, k2, k3, k4, (hbW.cell (p := ⟨p1, 0, none⟩) l1).trans h1, (hbW.cell (p := ⟨bC, q + 1, none⟩) l2).trans h2, (hbW.cell (p := ⟨p2, 0, none⟩) l3).trans h3, (hbW.cell (p := ⟨p3, 1, none⟩) l4).trans h4⟩
  have HL := Lib.hid hL
  have HW := Lib.hid hW
  have HI := Lib.hid (h.upto hbW)
  have HZ := Lib.hid hz
  have HB := Lib.hid hbW
  have HS := Lib.hid hsW
  have HPK := Lib.hid hpk
  have HPV := Lib.hid hpv
  have hsz : w.heap.size + 1 < W0.heap.size := by omega
  clear hW hz h hsW hL h1 h2 h3 h4 k0 k1 k2 k3 k4
  go_enter Tryz.func73, Tryz.ntmps73
  go_wp2
  rw [← HW.out]
  refine wp_region_held_drew (S := fun W => W.cell? ⟨w.heap.size, 0, none⟩ = some (.string key) ∧ W.cell? ⟨w.heap.size, 1, none⟩ = some (.int .i64 ls) ∧ W.cell? ⟨w.heap.size, 2, none⟩ = some (.string lp) ∧ W.cell? ⟨w.heap.size, 3, none⟩ = some (.string val) ∧ W.cell? ⟨w.heap.size, 4, none⟩ = some (.slice A n c) ∧
    W.cell? ⟨p1, 0, none⟩ = some (.pointer (some ⟨bC, q, none⟩)) ∧ W.cell? ⟨bC, q + 1, none⟩ = some (.int .i64 st) ∧ W.cell? ⟨p2, 0, none⟩ = some (.string pk) ∧ W.cell? ⟨p3, 1, none⟩ = some (.string pv)) (by kernel_rfl) ?_ (fun hHeld => ?_)
  · have hl : LockCells W0.drew w.heap.size p1 p2 p3 bC q key ls lp val A n c st pk pv := HL.out.keep fun _ _ _ => rfl
    exact ⟨hl.k0, hl.k1, hl.k2, hl.k3, hl.k4, hl.h1, hl.h2, hl.h3, hl.h4⟩
  (refine wpAnyH_take (i := 0) (oi := ?_) (v := ?_) ?_ (by kernel_rfl) ?_ ?_ ?_ ?_ (by assumption) ?_; rotate_left 2; (simp only [List.getElem?_toArray, List.getElem?_cons_zero]; rfl); kernel_rfl; kernel_rfl; exact fun _ _ _ h => h; (refine Or.inl ⟨by rfl, ?_⟩; intro w hSw; (try dsimp only at hSw); go_simp; (first | done | with_reducible rfl)); (try simp only [Act.put, List.setIfInBounds_toArray, List.set_cons_zero, List.set_cons_succ]))
  (first | (refine wpAnyH_take (i := 1) (oi := ?_) (v := ?_) ?_ (by kernel_rfl) ?_ ?_ ?_ ?_ (by assumption) ?_; rotate_left 2; (simp only [List.getElem?_toArray, List.getElem?_cons_zero, List.getElem?_cons_succ]; rfl); kernel_rfl; kernel_rfl; exact fun _ _ _ h => h; (refine Or.inl ⟨by rfl, ?_⟩; intro w hSw; (try dsimp only at hSw); go_simp; (first | done | with_reducible rfl)); (try simp only [Act.put, List.setIfInBounds_toArray, List.set_cons_zero, List.set_cons_succ])) | (refine wpAnyH_take (i := 1) (oi := ?_) (v := undef) ?_ (by kernel_rfl) ?_ ?_ ?_ ?_ (by assumption) ?_; rotate_left 1; (simp only [List.getElem?_toArray, List.getElem?_cons_zero, List.getElem?_cons_succ]; rfl); kernel_rfl; kernel_rfl; exact fun _ _ _ h => h; exact Or.inr ⟨by rfl, rfl⟩; (try simp only [Act.put, List.setIfInBounds_toArray, List.set_cons_zero, List.set_cons_succ])))
  (first | (refine wpAnyH_take (i := 2) (oi := ?_) (v := ?_) ?_ (by kernel_rfl) ?_ ?_ ?_ ?_ (by assumption) ?_; rotate_left 2; (simp only [List.getElem?_toArray, List.getElem?_cons_zero, List.getElem?_cons_succ]; rfl); kernel_rfl; kernel_rfl; exact fun _ _ _ h => h; (refine Or.inl ⟨by rfl, ?_⟩; intro w hSw; (try dsimp only at hSw); go_simp; (first | done | with_reducible rfl)); (try simp only [Act.put, List.setIfInBounds_toArray, List.set_cons_zero, List.set_cons_succ])) | (refine wpAnyH_take (i := 2) (oi := ?_) (v := undef) ?_ (by kernel_rfl) ?_ ?_ ?_ ?_ (by assumption) ?_; rotate_left 1; (simp only [List.getElem?_toArray, List.getElem?_cons_zero, List.getElem?_cons_succ]; rfl); kernel_rfl; kernel_rfl; exact fun _ _ _ h => h; exact Or.inr ⟨by rfl, rfl⟩; (try simp only [Act.put, List.setIfInBounds_toArray, List.set_cons_zero, List.set_cons_succ])))
  (first | (refine wpAnyH_take (i := 3) (oi := ?_) (v := ?_) ?_ (by kernel_rfl) ?_ ?_ ?_ ?_ (by assumption) ?_; rotate_left 2; (simp only [List.getElem?_toArray, List.getElem?_cons_zero, List.getElem?_cons_succ]; rfl); kernel_rfl; kernel_rfl; exact fun _ _ _ h => h; (refine Or.inl ⟨by rfl, ?_⟩; intro w hSw; (try dsimp only at hSw); go_simp; (first | done | with_reducible rfl)); (try simp only [Act.put, List.setIfInBounds_toArray, List.set_cons_zero, List.set_cons_succ])) | (refine wpAnyH_take (i := 3) (oi := ?_) (v := undef) ?_ (by kernel_rfl) ?_ ?_ ?_ ?_ (by assumption) ?_; rotate_left 1; (simp only [List.getElem?_toArray, List.getElem?_cons_zero, List.getElem?_cons_succ]; rfl); kernel_rfl; kernel_rfl; exact fun _ _ _ h => h; exact Or.inr ⟨by rfl, rfl⟩; (try simp only [Act.put, List.setIfInBounds_toArray, List.set_cons_zero, List.set_cons_succ])))
  (first | (refine wpAnyH_take (i := 4) (oi := ?_) (v := ?_) ?_ (by kernel_rfl) ?_ ?_ ?_ ?_ (by assumption) ?_; rotate_left 2; (simp only [List.getElem?_toArray, List.getElem?_cons_zero, List.getElem?_cons_succ]; rfl); kernel_rfl; kernel_rfl; exact fun _ _ _ h => h; (refine Or.inl ⟨by rfl, ?_⟩; intro w hSw; (try dsimp only at hSw); go_simp; (first | done | with_reducible rfl)); (try simp only [Act.put, List.setIfInBounds_toArray, List.set_cons_zero, List.set_cons_succ])) | (refine wpAnyH_take (i := 4) (oi := ?_) (v := undef) ?_ (by kernel_rfl) ?_ ?_ ?_ ?_ (by assumption) ?_; rotate_left 1; (simp only [List.getElem?_toArray, List.getElem?_cons_zero, List.getElem?_cons_succ]; rfl); kernel_rfl; kernel_rfl; exact fun _ _ _ h => h; exact Or.inr ⟨by rfl, rfl⟩; (try simp only [Act.put, List.setIfInBounds_toArray, List.set_cons_zero, List.set_cons_succ])))
  (first | (refine wpAnyH_take (i := 5) (oi := ?_) (v := ?_) ?_ (by kernel_rfl) ?_ ?_ ?_ ?_ (by assumption) ?_; rotate_left 2; (simp only [List.getElem?_toArray, List.getElem?_cons_zero, List.getElem?_cons_succ]; rfl); kernel_rfl; kernel_rfl; exact fun _ _ _ h => h; (refine Or.inl ⟨by rfl, ?_⟩; intro w hSw; (try dsimp only at hSw); go_simp; (first | done | with_reducible rfl)); (try simp only [Act.put, List.setIfInBounds_toArray, List.set_cons_zero, List.set_cons_succ])) | (refine wpAnyH_take (i := 5) (oi := ?_) (v := undef) ?_ (by kernel_rfl) ?_ ?_ ?_ ?_ (by assumption) ?_; rotate_left 1; (simp only [List.getElem?_toArray, List.getElem?_cons_zero, List.getElem?_cons_succ]; rfl); kernel_rfl; kernel_rfl; exact fun _ _ _ h => h; exact Or.inr ⟨by rfl, rfl⟩; (try simp only [Act.put, List.setIfInBounds_toArray, List.set_cons_zero, List.set_cons_succ])))
  (first | (refine wpAnyH_take (i := 6) (oi := ?_) (v := ?_) ?_ (by kernel_rfl) ?_ ?_ ?_ ?_ (by assumption) ?_; rotate_left 2; (simp only [List.getElem?_toArray, List.getElem?_cons_zero, List.getElem?_cons_succ]; rfl); kernel_rfl; kernel_rfl; exact fun _ _ _ h => h; (refine Or.inl ⟨by rfl, ?_⟩; intro w hSw; (try dsimp only at hSw); go_simp; (first | done | with_reducible rfl)); (try simp only [Act.put, List.setIfInBounds_toArray, List.set_cons_zero, List.set_cons_succ])) | (refine wpAnyH_take (i := 6) (oi := ?_) (v := undef) ?_ (by kernel_rfl) ?_ ?_ ?_ ?_ (by assumption) ?_; rotate_left 1; (simp only [List.getElem?_toArray, List.getElem?_cons_zero, List.getElem?_cons_succ]; rfl); kernel_rfl; kernel_rfl; exact fun _ _ _ h => h; exact Or.inr ⟨by rfl, rfl⟩; (try simp only [Act.put, List.setIfInBounds_toArray, List.set_cons_zero, List.set_cons_succ])))
  (first | (refine wpAnyH_take (i := 7) (oi := ?_) (v := ?_) ?_ (by kernel_rfl) ?_ ?_ ?_ ?_ (by assumption) ?_; rotate_left 2; (simp only [List.getElem?_toArray, List.getElem?_cons_zero, List.getElem?_cons_succ]; rfl); kernel_rfl; kernel_rfl; exact fun _ _ _ h => h; (refine Or.inl ⟨by rfl, ?_⟩; intro w hSw; (try dsimp only at hSw); go_simp; (first | done | with_reducible rfl)); (try simp only [Act.put, List.setIfInBounds_toArray, List.set_cons_zero, List.set_cons_succ])) | (refine wpAnyH_take (i := 7) (oi := ?_) (v := undef) ?_ (by kernel_rfl) ?_ ?_ ?_ ?_ (by assumption) ?_; rotate_left 1; (simp only [List.getElem?_toArray, List.getElem?_cons_zero, List.getElem?_cons_succ]; rfl); kernel_rfl; kernel_rfl; exact fun _ _ _ h => h; exact Or.inr ⟨by rfl, rfl⟩; (try simp only [Act.put, List.setIfInBounds_toArray, List.set_cons_zero, List.set_cons_succ])))
  (refine wpAnyH_ready (rs := [8]) (by kernel_rfl) (by simp) ?_; refine AllReadyH.cons (o := ?_) ?_ (fun K hK => ?_) AllReadyH.nil; rotate_left 1; (simp only [List.getElem?_toArray, List.getElem?_cons_zero, List.getElem?_cons_succ]; rfl); go_simp)
  refine (lockFn_op ⟨key, ls, lp, val, recs⟩ A n c st pk pv _ (HI.out.upto (below_drew (Below.refl _ _))) HPK.out HPV.out).mono ?_
  obtain ⟨x, hx⟩ : ∃ x, x = lockOp st pk pv ⟨key, ls, lp, val, recs⟩ := ⟨_, rfl⟩
  rw [← hx]
  have HX := Lib.hid hx
  clear hx
  rintro e w2 ⟨A2, c2, rfl, hr2, hnew, hb2'⟩
  have hb2 : Below W0.heap.size W0 w2 := below_next (below_drew (Below.refl _ _)) hb2'
  have HR := Lib.hid hr2
  have HN := Lib.hid (show NewC W0.heap.size A2 x.1.recs.length c2 from hnew)
  have HB2 := Lib.hid hb2
  have hs2 : w.heap.size + 1 < w2.heap.size := by have := hb2.size; omega
  obtain ⟨z0, z1, z2, z3, z4, u0, u1, u2, u3, u4⟩ := zero_facts (HZ.out.keep (hb2.block _ hsz))
  have hL2 : LockCells w2 w.heap.size p1 p2 p3 bC q key ls lp val A n c st pk pv := HL.out.keep fun b o hb => hb2.cell (p := ⟨b, o, none⟩) (by show b < _; omega)
  have HL2 := Lib.hid hL2
  obtain ⟨⟨xk, xl, xp, xv, xr⟩, xe⟩ := x
  clear hr2 hnew hb2 hb2' hL2 hHeld
  (refine hK.out _ _ ?_ (fun hHeld => ?_); exact ⟨HL2.out.k0, HL2.out.k1, HL2.out.k2, HL2.out.k3, HL2.out.k4, HL2.out.h1, HL2.out.h2, HL2.out.h3, HL2.out.h4⟩; clear hK K)
  (first | (refine wpAnyH_take (i := 9) (oi := ?_) (v := ?_) ?_ (by kernel_rfl) ?_ ?_ ?_ ?_ (by assumption) ?_; rotate_left 2; (simp only [List.getElem?_toArray, List.getElem?_cons_zero, List.getElem?_cons_succ]; rfl); kernel_rfl; kernel_rfl; exact fun _ _ _ h => h; (refine Or.inl ⟨by rfl, ?_⟩; intro w hSw; (try dsimp only at hSw); go_simp; (first | done | with_reducible rfl)); (try simp only [Act.put, List.setIfInBounds_toArray, List.set_cons_zero, List.set_cons_succ])) | (refine wpAnyH_take (i := 9) (oi := ?_) (v := undef) ?_ (by kernel_rfl) ?_ ?_ ?_ ?_ (by assumption) ?_; rotate_left 1; (simp only [List.getElem?_toArray, List.getElem?_cons_zero, List.getElem?_cons_succ]; rfl); kernel_rfl; kernel_rfl; exact fun _ _ _ h => h; exact Or.inr ⟨by rfl, rfl⟩; (try simp only [Act.put, List.setIfInBounds_toArray, List.set_cons_zero, List.set_cons_succ])))
  (first | (refine wpAnyH_take (i := 10) (oi := ?_) (v := ?_) ?_ (by kernel_rfl) ?_ ?_ ?_ ?_ (by assumption) ?_; rotate_left 2; (simp only [List.getElem?_toArray, List.getElem?_cons_zero, List.getElem?_cons_succ]; rfl); kernel_rfl; kernel_rfl; exact fun _ _ _ h => h; (refine Or.inl ⟨by rfl, ?_⟩; intro w hSw; (try dsimp only at hSw); go_simp; (first | done | with_reducible rfl)); (try simp only [Act.put, List.setIfInBounds_toArray, List.set_cons_zero, List.set_cons_succ])) | (refine wpAnyH_take (i := 10) (oi := ?_) (v := undef) ?_ (by kernel_rfl) ?_ ?_ ?_ ?_ (by assumption) ?_; rotate_left 1; (simp only [List.getElem?_toArray, List.getElem?_cons_zero, List.getElem?_cons_succ]; rfl); kernel_rfl; kernel_rfl; exact fun _ _ _ h => h; exact Or.inr ⟨by rfl, rfl⟩; (try simp only [Act.put, List.setIfInBounds_toArray, List.set_cons_zero, List.set_cons_succ])))
  clear hHeld
  (refine wpAnyH_ready (rs := [11]) (by kernel_rfl) (by simp) ?_; refine AllReadyH.cons (o := ?_) ?_ (fun K hK => ?_) AllReadyH.nil; rotate_left 1; (simp only [List.getElem?_toArray, List.getElem?_cons_zero, List.getElem?_cons_succ]; rfl); go_simp)
  have hL3 : LockCells (set5 w2 (w.heap.size + 1) 0 (.string xk) (.int .i64 xl) (.string xp) (.string xv) (.slice A2 xr.length c2)) w.heap.size p1 p2 p3 bC q key ls lp val A n c st pk pv := HL2.out.keep fun b o hb => (set5_same w2 (w.heap.size + 1) 0 (.string xk) (.int .i64 xl) (.string xp) (.string xv) (.slice A2 xr.length c2)).cell _ fun e => by
    have e1 : b = w.heap.size + 1 := e.1
    omega
  have HL3 := Lib.hid hL3
  clear hL3
  (refine hK.out _ _ ?_ (fun hHeld => ?_); exact ⟨HL3.out.k0, HL3.out.k1, HL3.out.k2, HL3.out.k3, HL3.out.k4, HL3.out.h1, HL3.out.h2, HL3.out.h3, HL3.out.h4⟩; clear hK K)
  (first | (refine wpAnyH_take (i := 12) (oi := ?_) (v := ?_) ?_ (by kernel_rfl) ?_ ?_ ?_ ?_ (by assumption) ?_; rotate_left 2; (simp only [List.getElem?_toArray, List.getElem?_cons_zero, List.getElem?_cons_succ]; rfl); kernel_rfl; kernel_rfl; exact fun _ _ _ h => h; (refine Or.inl ⟨by rfl, ?_⟩; intro w hSw; (try dsimp only at hSw); go_simp; (first | done | with_reducible rfl)); (try simp only [Act.put, List.setIfInBounds_toArray, List.set_cons_zero, List.set_cons_succ])) | (refine wpAnyH_take (i := 12) (oi := ?_) (v := undef) ?_ (by kernel_rfl) ?_ ?_ ?_ ?_ (by assumption) ?_; rotate_left 1; (simp only [List.getElem?_toArray, List.getElem?_cons_zero, List.getElem?_cons_succ]; rfl); kernel_rfl; kernel_rfl; exact fun _ _ _ h => h; exact Or.inr ⟨by rfl, rfl⟩; (try simp only [Act.put, List.setIfInBounds_toArray, List.set_cons_zero, List.set_cons_succ])))
  refine wpAnyH_done (by kernel_rfl) ?_ _
  clear hHeld
  go_wp2
  obtain ⟨q1, q2, q3⟩ := opOut_end (x := (⟨xk, xl, xp, xv, xr⟩, xe)) HB.out HS.out HB2.out HR.out HN.out (.string xk) (.int .i64 xl) (.string xp) (.string xv) (.slice A2 xr.length c2)
  rw [← HX.out]
  exact bodyPost_ret (v := .tuple #[rowV xk xl xp xv A2 xr.length c2, .int .i64 xe]) (by simp [results, Tryz.results73, go_sem, z0, z1, z2, z3, z4]) rfl ⟨A2, c2, rfl, q1, q2, q3⟩
end Go.Proofs.YtambkjnhfejfaacGreatDoor

namespace Go.Proofs.YtambkjnhfejfaacGreatDoor
open Go.RowKit

theorem chg_found {rows : List RowM} {key : ByteArray} {op : RowM → RowM × Int} {r : RowM} {x : RowM × Int} (hk : hasK (rowKeys rows) key = true) (hr : r = rowAt rows key) (hx : x = op r) : chgRow rows key op = (if x.2 = 0 then rows.set (lowIx (rowKeys rows) key) x.1 else rows, x.2) := by
  rw [chgRow, if_pos hk, hx, hr]
theorem chg_full {rows : List RowM} {key : ByteArray} {op : RowM → RowM × Int} (hk : hasK (rowKeys rows) key = false) (h : 40 ≤ rows.length) : chgRow rows key op = (rows, 1) := by
  rw [chgRow, hk]; simp [h]
theorem chg_new {rows : List RowM} {key : ByteArray} {op : RowM → RowM × Int} {x : RowM × Int} (hk : hasK (rowKeys rows) key = false) (h : ¬ 40 ≤ rows.length) (hx : x = op (freshRow key)) : chgRow rows key op = (if x.2 = 0 then rows.take (lowIx (rowKeys rows) key) ++ x.1 :: rows.drop (lowIx (rowKeys rows) key) else rows, x.2) := by
  rw [chgRow, hk, hx]; simp [h]
theorem Same.drew {W W' : World} {S : Addr → Prop} (h : Same W W' S) : Same W W'.drew S := ⟨h.cell, h.fr, h.sz⟩
theorem Keeps.drew {B : Nat} {Z : Nat → Prop} {w w' : World} (h : Keeps B Z w w') : Keeps B Z w w'.drew := ⟨h.bel.drew, h.z⟩
theorem drew_heap (W : World) : W.drew.heap = W.heap := rfl
theorem turn_set5 {bx bR n rc : Nat} {w W : World} (hb : Below w.heap.size w W) (h0 : w.cell? ⟨bx, 0, none⟩ = some (.slice (some ⟨bR, 0, none⟩) n rc)) (o : Nat) (v0 v1 v2 v3 v4 : Value) : RowsTurn bx w (set5 W bR o v0 v1 v2 v3 v4).drew := by
  intro bR' n' rc' h' b hlt hne
  rw [h0] at h'
  have hbe : bR = bR' := by injection h' with h'; injection h' with h'; injection h' with h'; injection h'
  rw [drew_heap, set5_heap W bR o v0 v1 v2 v3 v4 (by omega)]
  exact hb.block b hlt
theorem newAt_mono {B B' : Nat} {A : Option Addr} (h : NewAt B A) (hB : B' ≤ B) : NewAt B' A := fun ad e => Nat.le_trans hB (h ad e)

theorem Own.drew {w : World} {t : Bool} {Z : Nat → Prop} {B bx bC : Nat} {wo : WoM} (h : Own w t Z B bx bC wo) : Own w.drew t Z B bx bC wo := h.upto (below_drew (Below.refl _ _))
theorem Own.loose {w : World} {t : Bool} {Z : Nat → Prop} {B bx bC : Nat} {wo : WoM} (h : Own w t Z B bx bC wo) : Own w false Z B bx bC wo := by
  obtain ⟨bR, rc, wb, c0, hrc, _, hco⟩ := h.core
  exact ⟨h.xB, h.xZ, h.zlt, h.xf, h.x1, h.x2, bR, rc, wb, c0, hrc, (fun e => by cases e), hco⟩

end Go.Proofs.YtambkjnhfejfaacGreatDoor
