/-
  Plain mathematics: the status of a transaction in a row (P1.4); the row as it comes to a function. Conditions: none.
-/
import Derived.Test.YtambkjnhfejfaaaIff
namespace Go.Proofs.Ytambkjnhfejfaaa
open Go.RowKit

/-- A row as it comes to a function: its records lie in memory, its strings are such as a machine holds. -/
structure RowIn (w : World) (key lp val : ByteArray) (A : Option Addr) (n : Nat) (l : List RecM) : Prop where
  n : n = l.length
  l : RecsAt w w.heap.size A l
  k : key.size ≤ maxLen
  p : lp.size ≤ maxLen
  v : val.size ≤ maxLen
theorem RowIn.upto {w W : World} {key lp val : ByteArray} {A : Option Addr} {n : Nat} {l : List RecM} (h : RowIn w key lp val A n l) (hb : Below w.heap.size w W) : RowIn W key lp val A n l :=
  ⟨h.n, h.l.upto hb, h.k, h.p, h.v⟩
/-- A row's value. -/
abbrev rowV (key : ByteArray) (ls : Int) (lp val : ByteArray) (A : Option Addr) (n c : Nat) : Value := .agg #[.string key, .int .i64 ls, .string lp, .string val, .slice A n c]

/-- P1.4: the status. -/
def stOf (ls st : Int) (l : List RecM) : Int := if ls = st then 1 else if hasRec st l then (if (recOf st l).c = 0 then 3 else 2) else 0
/-- P1.4: the Commit of a committed one. -/
def cmOf (ls st : Int) (l : List RecM) : Int := if ls = st then 0 else (recOf st l).c

theorem stOf_at {ls st : Int} {l : List RecM} {r : RecM} (hq : ¬ ls = st) (hf : firstOf st l = some r) : stOf ls st l = if r.c = 0 then 3 else 2 := by
  simp [stOf, hq, hasRec, recOf, hf]
theorem cmOf_at {ls st : Int} {l : List RecM} {r : RecM} (hq : ¬ ls = st) (hf : firstOf st l = some r) : cmOf ls st l = r.c := by simp [cmOf, hq, recOf, hf]
theorem getD_get {l : List RecM} {k : Nat} (h : k < l.length) : l.getD k default = l[k] := by simp [List.getD, h]

/-- Where the Starts increase, the last record of a transaction is its only one. -/
theorem lastIx_of {l : List RecM} (h : recsFrom 0 0 l = true) (st : Int) :
    (lastIx (fun r => r.s == st) l < 0 → firstOf st l = none) ∧ (∀ i : Nat, lastIx (fun r => r.s == st) l = (i : Int) → firstOf st l = some (l.getD i default)) := by
  obtain ⟨_, hp⟩ := (recsFrom_iff l 0 0).1 h
  rw [List.pairwise_iff_getElem] at hp
  refine ⟨fun h0 => ?_, fun i hi => ?_⟩
  · have := (lastIx_neg _ _).1 h0
    unfold firstOf
    rw [List.find?_eq_none]
    intro r hr
    simp [this r hr]
  · have hil : i < l.length := by have := (lastIx_bd (fun r => r.s == st) l).2; omega
    have hfit : (l.getD i default).s = st := by
      have key : ∀ k, lastUpto (fun r => r.s == st) l k = (i : Int) → (l.getD i default).s = st := by
        intro k
        induction k with
        | zero => intro e; simp [lastUpto] at e
        | succ k ih =>
          intro e
          simp only [lastUpto] at e
          split at e
          · rename_i hq
            have : k = i := by omega
            subst this
            simpa using hq
          · exact ih e
      exact key _ hi
    refine firstOf_at hil (fun j hj => ?_) hfit
    have hjl : j < l.length := by omega
    have := (hp j i hjl hil hj).1
    rw [getD_get hil] at hfit
    rw [getD_get hjl]
    omega
theorem recs_ok {key : ByteArray} {ls : Int} {lp val : ByteArray} {l : List RecM} (h : rowB key ls lp val l = true) : recsFrom 0 0 l = true := by
  simp only [rowB, Bool.and_eq_true] at h
  exact h.1.2
end Go.Proofs.Ytambkjnhfejfaaa
