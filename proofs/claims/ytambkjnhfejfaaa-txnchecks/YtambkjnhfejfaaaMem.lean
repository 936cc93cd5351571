/-
  Words for memory: a list of records that a slice leads to; what keeps it. No program text. Conditions: none.
-/
import Derived.Test.YtambkjnhfejfaaaPure
import Derived.WalkKit
import Derived.Below
import Derived.Deep.Draws
import Derived.Laws.OwnMore
import Derived.Lib.Hide
namespace Go.Proofs.Ytambkjnhfejfaaa
open Go.RowKit

/-- A record. -/
structure RecM where
  s : Int
  c : Int
  v : ByteArray
instance : Inhabited RecM := ⟨⟨0, 0, ByteArray.empty⟩⟩
/-- A record's value. -/
abbrev recV (r : RecM) : Value := .agg #[.int .i64 r.s, .int .i64 r.c, .string r.v]
/-- Its cells. -/
def recC (r : RecM) : List Value := [.int .i64 r.s, .int .i64 r.c, .string r.v]

def i64 (n : Int) : Prop := -9223372036854775808 ≤ n ∧ n ≤ 9223372036854775807
/-- Its numbers and its string are such as a machine holds. -/
structure RecOk (r : RecM) : Prop where
  s : i64 r.s
  c : i64 r.c
  v : r.v.size ≤ maxLen

/-- The three cells of a record at an address. -/
structure RecAt (w : World) (b o : Nat) (r : RecM) : Prop where
  s : w.cell? ⟨b, o, none⟩ = some (.int .i64 r.s)
  c : w.cell? ⟨b, o + 1, none⟩ = some (.int .i64 r.c)
  v : w.cell? ⟨b, o + 2, none⟩ = some (.string r.v)

/-- The slice at A holds the records l, and lies below block B. -/
def RecsAt (w : World) (B : Nat) (A : Option Addr) (l : List RecM) : Prop :=
  l.length ≤ 4398046511104 ∧ (∀ r ∈ l, RecOk r) ∧ (0 < l.length → ∃ b o, A = some ⟨b, o, none⟩ ∧ b < B ∧ ∀ i r, l[i]? = some r → RecAt w b (o + i * 3) r)

section
variable {w w' : World} {B B' : Nat} {A : Option Addr} {l : List RecM}
theorem RecsAt.len (h : RecsAt w B A l) : l.length ≤ 4398046511104 := h.1
theorem RecsAt.ok (h : RecsAt w B A l) {r : RecM} (hr : r ∈ l) : RecOk r := h.2.1 r hr
theorem RecsAt.at_ (h : RecsAt w B A l) {i : Nat} {r : RecM} (hr : l[i]? = some r) : ∃ b o, A = some ⟨b, o, none⟩ ∧ b < B ∧ RecAt w b (o + i * 3) r := by
  have hl : i < l.length := (List.getElem?_eq_some_iff.1 hr).1
  obtain ⟨b, o, hA, hb, hc⟩ := h.2.2 (by omega)
  exact ⟨b, o, hA, hb, hc i r hr⟩
theorem RecAt.keep {b o : Nat} {r : RecM} (h : RecAt w b o r) (hk : ∀ k, w'.cell? ⟨b, k, none⟩ = w.cell? ⟨b, k, none⟩) : RecAt w' b o r :=
  ⟨(hk _).trans h.s, (hk _).trans h.c, (hk _).trans h.v⟩
theorem RecsAt.keep (h : RecsAt w B A l) (hk : ∀ b k, b < B → w'.cell? ⟨b, k, none⟩ = w.cell? ⟨b, k, none⟩) : RecsAt w' B A l :=
  ⟨h.1, h.2.1, fun hn => by
    obtain ⟨b, o, hA, hb, hc⟩ := h.2.2 hn
    exact ⟨b, o, hA, hb, fun i r hr => (hc i r hr).keep fun k => hk b k hb⟩⟩
theorem RecsAt.more (h : RecsAt w B A l) (hB : B ≤ B') : RecsAt w B' A l :=
  ⟨h.1, h.2.1, fun hn => by
    obtain ⟨b, o, hA, hb, hc⟩ := h.2.2 hn
    exact ⟨b, o, hA, by omega, hc⟩⟩
theorem RecsAt.below (h : RecsAt w B A l) (hb : Below B w w') : RecsAt w' B A l := h.keep fun _ _ hp => hb.cell (p := ⟨_, _, none⟩) hp
theorem RecsAt.upto (h : RecsAt w w.heap.size A l) (hb : Below w.heap.size w w') : RecsAt w' w'.heap.size A l := (h.below hb).more hb.size
theorem RecsAt.drewN (h : RecsAt w B A l) (k : Nat) : RecsAt (w.drewN k) B A l := h.keep fun _ _ _ => rfl
theorem RecsAt.drew (h : RecsAt w B A l) : RecsAt w.drew B A l := h.keep fun _ _ _ => rfl
theorem RecsAt.alloc (h : RecsAt w B A l) (hB : B ≤ w.heap.size) (o : Obj) : RecsAt (w.alloc o) B A l := h.keep fun b k hp => World.cell?_alloc_lt w o ⟨b, k, none⟩ (by show b < _; omega)
theorem RecsAt.setCell (h : RecsAt w B A l) {p : Addr} (hB : B ≤ p.block) (u : Value) : RecsAt (w.setCell p u) B A l :=
  h.keep fun b k hq => World.cell?_setCell_other w p ⟨b, k, none⟩ u (fun e => by have : p.block = b := congrArg Addr.block e; omega)
theorem RecsAt.nil_ (w : World) (B : Nat) (A : Option Addr) : RecsAt w B A [] := ⟨by simp, by simp, fun h => absurd h (by simp)⟩
/-- The first records of a list that lies lie. -/
theorem RecsAt.take (h : RecsAt w B A l) (k : Nat) : RecsAt w B A (l.take k) := by
  refine ⟨by have := h.1; simp only [List.length_take]; omega, fun r hr => h.2.1 r (List.mem_of_mem_take hr), fun hn => ?_⟩
  have hn' : 0 < l.length := by simp only [List.length_take] at hn; omega
  obtain ⟨b, o, hA, hb, hc⟩ := h.2.2 hn'
  refine ⟨b, o, hA, hb, fun i r hr => hc i r ?_⟩
  rw [List.getElem?_take] at hr
  split at hr
  · exact hr
  · cases hr
end

/-- The index of the last of the first k records that fits; -1: none. -/
def lastUpto (p : RecM → Bool) (l : List RecM) : Nat → Int
  | 0 => -1
  | k + 1 => if p (l.getD k default) then (k : Int) else lastUpto p l k
def lastIx (p : RecM → Bool) (l : List RecM) : Int := lastUpto p l l.length
theorem lastUpto_bd (p : RecM → Bool) (l : List RecM) (k : Nat) : -1 ≤ lastUpto p l k ∧ lastUpto p l k < k := by
  induction k with
  | zero => simp [lastUpto]
  | succ k ih => simp only [lastUpto]; split <;> omega
theorem lastIx_bd (p : RecM → Bool) (l : List RecM) : -1 ≤ lastIx p l ∧ lastIx p l < l.length := lastUpto_bd p l _

/-- P1.2, a record by itself. -/
def recB (r : RecM) : Bool := inB r.s 1 1099511627776 && (if r.c = 0 then r.v.toList.isEmpty else decide (r.s < r.c) && decide (r.c ≤ 1099511627776) && decide (r.v.size ≤ 20))

/-- P1.2, the records: s, c: the greatest Start and Commit of the preceding ones. -/
def recsFrom : Int → Int → List RecM → Bool
  | _, _, [] => true
  | s, c, r :: l => decide (s < r.s) && recB r && !(r.c != 0 && decide (r.s < c)) && recsFrom r.s (if c < r.c then r.c else c) l
theorem lastUpto_neg (p : RecM → Bool) (l : List RecM) (k : Nat) : lastUpto p l k < 0 ↔ ∀ i, i < k → p (l.getD i default) = false := by
  induction k with
  | zero => simp [lastUpto]
  | succ k ih =>
    simp only [lastUpto]
    by_cases h : p (l.getD k default) = true
    · rw [if_pos h]
      refine ⟨fun h' => by omega, fun h' => ?_⟩
      have := h' k (by omega)
      rw [h] at this; cases this
    · rw [if_neg h, ih]
      refine ⟨fun h' i hi => ?_, fun h' i hi => h' i (by omega)⟩
      by_cases e : i = k
      · subst e; simpa using h
      · exact h' i (by omega)
theorem lastIx_neg (p : RecM → Bool) (l : List RecM) : lastIx p l < 0 ↔ ∀ r ∈ l, p r = false := by
  unfold lastIx
  rw [lastUpto_neg]
  refine ⟨fun h r hr => ?_, fun h i hi => h _ (by simp [List.getD, hi])⟩
  obtain ⟨i, hi, rfl⟩ := List.getElem_of_mem hr
  have := h i hi
  simpa [List.getD, hi] using this

/-- P1.2, the lock. -/
def lockB (ls : Int) (lp val : ByteArray) (l : List RecM) : Bool :=
  if ls = 0 then lp.toList.isEmpty && val.toList.isEmpty
  else inB ls 1 1099511627776 && keyB lp && decide (val.size ≤ 20) && decide (lastIx (fun r => r.s == ls || decide (ls < r.c)) l < 0)
/-- P1.2: how many records there may be. -/
def roomOf (ls : Int) : Int := if ls = 0 then 100 else 99
theorem roomOf_bd (ls : Int) : 99 ≤ roomOf ls ∧ roomOf ls ≤ 100 := by unfold roomOf; split <;> omega
/-- P1.2. -/
def rowB (key : ByteArray) (ls : Int) (lp val : ByteArray) (l : List RecM) : Bool :=
  keyB key && decide ((l.length : Int) ≤ roomOf ls) && recsFrom 0 0 l && lockB ls lp val l

/-- The first record of a transaction. -/
def firstOf (st : Int) (l : List RecM) : Option RecM := l.find? (fun r => r.s == st)
theorem firstOf_at {st : Int} {l : List RecM} {k : Nat} (hk : k < l.length) (h0 : ∀ j, j < k → (l.getD j default).s ≠ st) (h : (l.getD k default).s = st) : firstOf st l = some (l.getD k default) := by
  unfold firstOf
  rw [List.find?_eq_some_iff_getElem]
  refine ⟨by simpa using h, k, hk, by simp [List.getD, hk], fun j hj => ?_⟩
  have := h0 j hj
  have hj' : j < l.length := by omega
  simpa [List.getD, hj'] using this
theorem firstOf_none {st : Int} {l : List RecM} (h0 : ∀ j, j < l.length → (l.getD j default).s ≠ st) : firstOf st l = none := by
  unfold firstOf
  rw [List.find?_eq_none]
  intro r hr
  obtain ⟨i, hi, rfl⟩ := List.getElem_of_mem hr
  have := h0 i hi
  simpa [List.getD, hi] using this
/-- What recordOf returns. -/
def recOf (st : Int) (l : List RecM) : RecM := (firstOf st l).getD ⟨0, 0, ByteArray.empty⟩
def hasRec (st : Int) (l : List RecM) : Bool := (firstOf st l).isSome

section
variable {sn cn rs rc : Int} {rv : ByteArray} {t : List RecM}
theorem recsFrom_no1 (h : rs ≤ sn) : recsFrom sn cn (⟨rs, rc, rv⟩ :: t) = false := by
  have : ¬ sn < rs := by omega
  simp [recsFrom, this]
theorem recsFrom_no2 (h : recB ⟨rs, rc, rv⟩ = false) : recsFrom sn cn (⟨rs, rc, rv⟩ :: t) = false := by simp [recsFrom, h]
theorem recsFrom_no3 (h : (rc != 0) = true) (h' : rs < cn) : recsFrom sn cn (⟨rs, rc, rv⟩ :: t) = false := by simp [recsFrom, h, h']
theorem recsFrom_yes (h : sn < rs) (h2 : recB ⟨rs, rc, rv⟩ = true) (h3 : rc = 0 ∨ ¬ rs < cn) : recsFrom sn cn (⟨rs, rc, rv⟩ :: t) = recsFrom rs (if cn < rc then rc else cn) t := by
  rcases h3 with rfl | h3
  · simp [recsFrom, h, h2]
  · simp [recsFrom, h, h2, h3]
end
theorem drop_cons {l : List RecM} {k : Nat} (h : k < l.length) : l.drop k = l.getD k default :: l.drop (k + 1) := by
  rw [List.drop_eq_getElem_cons h]; simp [List.getD, h]

section
variable {w W W' : World}
theorem below_next (h : Below w.heap.size w W) (h' : Below W.heap.size W W') : Below w.heap.size w W' := h.trans (h'.mono h.size)
theorem below_alloc (h : Below w.heap.size w W) (o : Obj) : Below w.heap.size w (W.alloc o) := h.alloc h.size o
theorem below_drew (h : Below w.heap.size w W) : Below w.heap.size w W.drew := h.drew
theorem below_drewN (h : Below w.heap.size w W) (n : Nat) : Below w.heap.size w (W.drewN n) := ⟨h.os, h.tape, h.output, h.size, h.block⟩
theorem below_set (h : Below w.heap.size w W) {p : Addr} (hp : w.heap.size ≤ p.block) (u : Value) : Below w.heap.size w (W.setCell p u) := h.setCell hp u
end
/-- What a box of five cells holds in a later world. -/
theorem boxS {W0 w' : World} {g : Nat} {v0 v1 v2 v3 v4 : Value} (h0 : W0.cell? ⟨g, 0, none⟩ = some v0) (h1 : W0.cell? ⟨g, 1, none⟩ = some v1) (h2 : W0.cell? ⟨g, 2, none⟩ = some v2) (h3 : W0.cell? ⟨g, 3, none⟩ = some v3)
    (h4 : W0.cell? ⟨g, 4, none⟩ = some v4) (hb : Below W0.heap.size W0 w') :
    w'.cell? ⟨g, 0, none⟩ = some v0 ∧ w'.cell? ⟨g, 1, none⟩ = some v1 ∧ w'.cell? ⟨g, 2, none⟩ = some v2 ∧ w'.cell? ⟨g, 3, none⟩ = some v3 ∧ w'.cell? ⟨g, 4, none⟩ = some v4 ∧ Below W0.heap.size W0 w' := by
  have hg : g < W0.heap.size := World.block_lt_of_cell? W0 _ h0
  exact ⟨(hb.cell (p := ⟨g, 0, none⟩) hg).trans h0, (hb.cell (p := ⟨g, 1, none⟩) hg).trans h1, (hb.cell (p := ⟨g, 2, none⟩) hg).trans h2, (hb.cell (p := ⟨g, 3, none⟩) hg).trans h3, (hb.cell (p := ⟨g, 4, none⟩) hg).trans h4, hb⟩
/-- A new box of five cells. -/
theorem box_new (w : World) (v0 v1 v2 v3 v4 : Value) (t : TypeId) : ∃ W0, W0 = w.alloc (.cells #[v0, v1, v2, v3, v4] t) ∧ W0.cell? ⟨w.heap.size, 0, none⟩ = some v0 ∧ W0.cell? ⟨w.heap.size, 1, none⟩ = some v1 ∧ W0.cell? ⟨w.heap.size, 2, none⟩ = some v2 ∧
    W0.cell? ⟨w.heap.size, 3, none⟩ = some v3 ∧ W0.cell? ⟨w.heap.size, 4, none⟩ = some v4 ∧ Below w.heap.size w W0 ∧ W0.heap.size = w.heap.size + 1 :=
  ⟨_, rfl, by simp, by simp, by simp, by simp, by simp, below_alloc (Below.refl _ _) _, by simp⟩
/-- A callee that leaves the world alone, in a quiet region. -/
theorem quiet_left {P : Program} {f : FuncId} {args : Array Value} {w : World} {n : Nat} {v : Value}
    (h : Calls P f args (w.drewN n) fun e w' => e = .returned v ∧ w.drewN n = w') : Calls P f args (w.drewN n) fun e w'' => e = .returned v ∧ ∃ m, w'' = w.drewN m :=
  h.mono fun _ _ ⟨he, hm⟩ => ⟨he, n, hm.symm⟩
/-- Behind 'Below' all old cells read as before. -/
theorem bcell {W w1 : World} (hb : Below W.heap.size W w1) : (∀ b o, b < W.heap.size → w1.cell? ⟨b, o, none⟩ = W.cell? ⟨b, o, none⟩) ∧ (∀ b o, b < W.heap.size → w1.frozen? ⟨b, o, none⟩ = W.frozen? ⟨b, o, none⟩) :=
  ⟨fun b o h => hb.cell (p := ⟨b, o, none⟩) h, fun b o h => hb.frozen (p := ⟨b, o, none⟩) h⟩
end Go.Proofs.Ytambkjnhfejfaaa
