/-
  Contracts of functions of the program and words for memory, several texts in one: Pure, Mem, Iff, StatusPure, LockPure, ReadPure, InsPure, TPure, TFindPure, CopyMem, TMem, TOwn, Keys, Open, TOpen. Conditions: those stated with each.
-/
import Derived.WalkKit
import Derived.Below
import Derived.Deep.Draws
import Derived.Laws.OwnMore
import Derived.Lib.Hide
import Derived.Lib.Bytealg
import Derived.Test.YtambkjnhfejfaacGreatDoorRows
import Derived.Lib.SmallJoins
import Derived.Laws.MakeOwn
import Derived.Laws.CopyRow
import Derived.Laws.CopyOwn
import Derived.Outline
import Derived.ProofKit
import Derived.OpenShut
import Derived.ShutString
import Derived.ChangeOld
import Derived.SizedLaws
import Derived.Deep.Slices
import Derived.Deep.Fields
import Derived.Deep.Strs
import Derived.ChangeSame
namespace Go.Proofs.YtambkjnhfejfaacGreatDoor
open Go.RowKit

theorem ret_bool {a b : Bool} (h : a = b) : Ending.returned (.bool a) = .returned (.bool b) := by rw [h]
theorem ret_int {k : IntKind} {a b : Int} (h : a = b) : Ending.returned (.int k a) = .returned (.int k b) := by rw [h]

/-- n lies from lo to hi. -/
def inB (n lo hi : Int) : Bool := decide (lo ≤ n) && decide (n ≤ hi)
theorem inB_true {n lo hi : Int} : inB n lo hi = true ↔ lo ≤ n ∧ n ≤ hi := by simp [inB]
theorem inB_false {n lo hi : Int} : inB n lo hi = false ↔ n < lo ∨ hi < n := by
  simp only [inB, Bool.and_eq_false_iff, decide_eq_false_iff_not]; omega

def letter (c : UInt8) : Bool := inB (c.toNat : Int) 97 122
def letters (l : List UInt8) : Bool := l.all letter
theorem letters_snoc (l : List UInt8) (c : UInt8) : letters (l ++ [c]) = (letters l && letter c) := by simp [letters]
theorem take_snoc (s : ByteArray) (k : Nat) (h : k < s.size) : s.data.toList.take (k + 1) = s.data.toList.take k ++ [s[k]] := by
  rw [List.take_succ_eq_append_getElem (by simpa using h)]; rfl
/-- P1.1: a valid key. -/
def keyB (s : ByteArray) : Bool := inB (s.size : Int) 1 6 && letters s.data.toList
theorem keyB_no {s : ByteArray} {k : Nat} (h : k < s.size) (hc : letter s[k] = false) : keyB s = false := by
  have : letters s.data.toList = false := by
    simp only [letters, List.all_eq_false]
    exact ⟨s[k], by simp [ByteArray.getElem_eq_getElem_data], by simp [hc]⟩
  simp [keyB, this]
end Go.Proofs.YtambkjnhfejfaacGreatDoor

namespace Go.Proofs.YtambkjnhfejfaacGreatDoor
open Go.RowKit

/-- A record. -/
structure RecM where
  s : Int
  c : Int
  v : ByteArray
instance : Inhabited RecM := ⟨⟨0, 0, ByteArray.empty⟩⟩
/-- A record's value. -/
abbrev recV (r : RecM) : Value := .agg #[.int .i64 r.s, .int .i64 r.c, .string r.v]
/-- Its cells. -/
def recC (r : RecM) : List Value := [.int .i64 r.s, .int .i64 r.c, .string r.v]

def i64 (n : Int) : Prop := -9223372036854775808 ≤ n ∧ n ≤ 9223372036854775807
/-- Its numbers and its string are such as a machine holds. -/
structure RecOk (r : RecM) : Prop where
  s : i64 r.s
  c : i64 r.c
  v : r.v.size ≤ maxLen

/-- The three cells of a record at an address. -/
structure RecAt (w : World) (b o : Nat) (r : RecM) : Prop where
  s : w.cell? ⟨b, o, none⟩ = some (.int .i64 r.s)
  c : w.cell? ⟨b, o + 1, none⟩ = some (.int .i64 r.c)
  v : w.cell? ⟨b, o + 2, none⟩ = some (.string r.v)

/-- The slice at A holds the records l, and lies below block B. -/
def RecsAt (w : World) (B : Nat) (A : Option Addr) (l : List RecM) : Prop :=
  l.length ≤ 4398046511104 ∧ (∀ r ∈ l, RecOk r) ∧ (0 < l.length → ∃ b o, A = some ⟨b, o, none⟩ ∧ b < B ∧ ∀ i r, l[i]? = some r → RecAt w b (o + i * 3) r)

section
variable {w w' : World} {B B' : Nat} {A : Option Addr} {l : List RecM}
theorem RecsAt.len (h : RecsAt w B A l) : l.length ≤ 4398046511104 := h.1
theorem RecsAt.ok (h : RecsAt w B A l) {r : RecM} (hr : r ∈ l) : RecOk r := h.2.1 r hr
theorem RecsAt.at_ (h : RecsAt w B A l) {i : Nat} {r : RecM} (hr : l[i]? = some r) : ∃ b o, A = some ⟨b, o, none⟩ ∧ b < B ∧ RecAt w b (o + i * 3) r := by
  have hl : i < l.length := (List.getElem?_eq_some_iff.1 hr).1
  obtain ⟨b, o, hA, hb, hc⟩ := h.2.2 (by omega)
  exact ⟨b, o, hA, hb, hc i r hr⟩
theorem RecAt.keep {b o : Nat} {r : RecM} (h : RecAt w b o r) (hk : ∀ k, w'.cell? ⟨b, k, none⟩ = w.cell? ⟨b, k, none⟩) : RecAt w' b o r :=
  ⟨(hk _).trans h.s, (hk _).trans h.c, (hk _).trans h.v⟩
theorem RecsAt.keep (h : RecsAt w B A l) (hk : ∀ b k, b < B → w'.cell? ⟨b, k, none⟩ = w.cell? ⟨b, k, none⟩) : RecsAt w' B A l :=
  ⟨h.1, h.2.1, fun hn => by
    obtain ⟨b, o, hA, hb, hc⟩ := h.2.2 hn
    exact ⟨b, o, hA, hb, fun i r hr => (hc i r hr).keep fun k => hk b k hb⟩⟩
theorem RecsAt.more (h : RecsAt w B A l) (hB : B ≤ B') : RecsAt w B' A l :=
  ⟨h.1, h.2.1, fun hn => by
    obtain ⟨b, o, hA, hb, hc⟩ := h.2.2 hn
    exact ⟨b, o, hA, by omega, hc⟩⟩
theorem RecsAt.below (h : RecsAt w B A l) (hb : Below B w w') : RecsAt w' B A l := h.keep fun _ _ hp => hb.cell (p := ⟨_, _, none⟩) hp
theorem RecsAt.upto (h : RecsAt w w.heap.size A l) (hb : Below w.heap.size w w') : RecsAt w' w'.heap.size A l := (h.below hb).more hb.size
theorem RecsAt.drewN (h : RecsAt w B A l) (k : Nat) : RecsAt (w.drewN k) B A l := h.keep fun _ _ _ => rfl
theorem RecsAt.drew (h : RecsAt w B A l) : RecsAt w.drew B A l := h.keep fun _ _ _ => rfl
theorem RecsAt.alloc (h : RecsAt w B A l) (hB : B ≤ w.heap.size) (o : Obj) : RecsAt (w.alloc o) B A l := h.keep fun b k hp => World.cell?_alloc_lt w o ⟨b, k, none⟩ (by show b < _; omega)
theorem RecsAt.setCell (h : RecsAt w B A l) {p : Addr} (hB : B ≤ p.block) (u : Value) : RecsAt (w.setCell p u) B A l :=
  h.keep fun b k hq => World.cell?_setCell_other w p ⟨b, k, none⟩ u (fun e => by have : p.block = b := congrArg Addr.block e; omega)
theorem RecsAt.nil_ (w : World) (B : Nat) (A : Option Addr) : RecsAt w B A [] := ⟨by simp, by simp, fun h => absurd h (by simp)⟩
/-- The first records of a list that lies lie. -/
theorem RecsAt.take (h : RecsAt w B A l) (k : Nat) : RecsAt w B A (l.take k) := by
  refine ⟨by have := h.1; simp only [List.length_take]; omega, fun r hr => h.2.1 r (List.mem_of_mem_take hr), fun hn => ?_⟩
  have hn' : 0 < l.length := by simp only [List.length_take] at hn; omega
  obtain ⟨b, o, hA, hb, hc⟩ := h.2.2 hn'
  refine ⟨b, o, hA, hb, fun i r hr => hc i r ?_⟩
  rw [List.getElem?_take] at hr
  split at hr
  · exact hr
  · cases hr
end

/-- The index of the last of the first k records that fits; -1: none. -/
def lastUpto (p : RecM → Bool) (l : List RecM) : Nat → Int
  | 0 => -1
  | k + 1 => if p (l.getD k default) then (k : Int) else lastUpto p l k
def lastIx (p : RecM → Bool) (l : List RecM) : Int := lastUpto p l l.length
theorem lastUpto_bd (p : RecM → Bool) (l : List RecM) (k : Nat) : -1 ≤ lastUpto p l k ∧ lastUpto p l k < k := by
  induction k with
  | zero => simp [lastUpto]
  | succ k ih => simp only [lastUpto]; split <;> omega
theorem lastIx_bd (p : RecM → Bool) (l : List RecM) : -1 ≤ lastIx p l ∧ lastIx p l < l.length := lastUpto_bd p l _

/-- P1.2, a record by itself. -/
def recB (r : RecM) : Bool := inB r.s 1 1099511627776 && (if r.c = 0 then r.v.toList.isEmpty else decide (r.s < r.c) && decide (r.c ≤ 1099511627776) && decide (r.v.size ≤ 20))

/-- P1.2, the records: s, c: the greatest Start and Commit of the preceding ones. -/
def recsFrom : Int → Int → List RecM → Bool
  | _, _, [] => true
  | s, c, r :: l => decide (s < r.s) && recB r && !(r.c != 0 && decide (r.s < c)) && recsFrom r.s (if c < r.c then r.c else c) l
theorem lastUpto_neg (p : RecM → Bool) (l : List RecM) (k : Nat) : lastUpto p l k < 0 ↔ ∀ i, i < k → p (l.getD i default) = false := by
  induction k with
  | zero => simp [lastUpto]
  | succ k ih =>
    simp only [lastUpto]
    by_cases h : p (l.getD k default) = true
    · rw [if_pos h]
      refine ⟨fun h' => by omega, fun h' => ?_⟩
      have := h' k (by omega)
      rw [h] at this; cases this
    · rw [if_neg h, ih]
      refine ⟨fun h' i hi => ?_, fun h' i hi => h' i (by omega)⟩
      by_cases e : i = k
      · subst e; simpa using h
      · exact h' i (by omega)
theorem lastIx_neg (p : RecM → Bool) (l : List RecM) : lastIx p l < 0 ↔ ∀ r ∈ l, p r = false := by
  unfold lastIx
  rw [lastUpto_neg]
  refine ⟨fun h r hr => ?_, fun h i hi => h _ (by simp [List.getD, hi])⟩
  obtain ⟨i, hi, rfl⟩ := List.getElem_of_mem hr
  have := h i hi
  simpa [List.getD, hi] using this

/-- P1.2, the lock. -/
def lockB (ls : Int) (lp val : ByteArray) (l : List RecM) : Bool :=
  if ls = 0 then lp.toList.isEmpty && val.toList.isEmpty
  else inB ls 1 1099511627776 && keyB lp && decide (val.size ≤ 20) && decide (lastIx (fun r => r.s == ls || decide (ls < r.c)) l < 0)
/-- P1.2: how many records there may be. -/
def roomOf (ls : Int) : Int := if ls = 0 then 100 else 99
theorem roomOf_bd (ls : Int) : 99 ≤ roomOf ls ∧ roomOf ls ≤ 100 := by unfold roomOf; split <;> omega
/-- P1.2. -/
def rowB (key : ByteArray) (ls : Int) (lp val : ByteArray) (l : List RecM) : Bool :=
  keyB key && decide ((l.length : Int) ≤ roomOf ls) && recsFrom 0 0 l && lockB ls lp val l

/-- The first record of a transaction. -/
def firstOf (st : Int) (l : List RecM) : Option RecM := l.find? (fun r => r.s == st)
theorem firstOf_at {st : Int} {l : List RecM} {k : Nat} (hk : k < l.length) (h0 : ∀ j, j < k → (l.getD j default).s ≠ st) (h : (l.getD k default).s = st) : firstOf st l = some (l.getD k default) := by
  unfold firstOf
  rw [List.find?_eq_some_iff_getElem]
  refine ⟨by simpa using h, k, hk, by simp [List.getD, hk], fun j hj => ?_⟩
  have := h0 j hj
  have hj' : j < l.length := by omega
  simpa [List.getD, hj'] using this
theorem firstOf_none {st : Int} {l : List RecM} (h0 : ∀ j, j < l.length → (l.getD j default).s ≠ st) : firstOf st l = none := by
  unfold firstOf
  rw [List.find?_eq_none]
  intro r hr
  obtain ⟨i, hi, rfl⟩ := List.getElem_of_mem hr
  have := h0 i hi
  simpa [List.getD, hi] using this
/-- What recordOf returns. -/
def recOf (st : Int) (l : List RecM) : RecM := (firstOf st l).getD ⟨0, 0, ByteArray.empty⟩
def hasRec (st : Int) (l : List RecM) : Bool := (firstOf st l).isSome

section
variable {sn cn rs rc : Int} {rv : ByteArray} {t : List RecM}
theorem recsFrom_no1 (h : rs ≤ sn) : recsFrom sn cn (⟨rs, rc, rv⟩ :: t) = false := by
  have : ¬ sn < rs := by omega
  simp [recsFrom, this]
theorem recsFrom_no2 (h : recB ⟨rs, rc, rv⟩ = false) : recsFrom sn cn (⟨rs, rc, rv⟩ :: t) = false := by simp [recsFrom, h]
theorem recsFrom_no3 (h : (rc != 0) = true) (h' : rs < cn) : recsFrom sn cn (⟨rs, rc, rv⟩ :: t) = false := by simp [recsFrom, h, h']
theorem recsFrom_yes (h : sn < rs) (h2 : recB ⟨rs, rc, rv⟩ = true) (h3 : rc = 0 ∨ ¬ rs < cn) : recsFrom sn cn (⟨rs, rc, rv⟩ :: t) = recsFrom rs (if cn < rc then rc else cn) t := by
  rcases h3 with rfl | h3
  · simp [recsFrom, h, h2]
  · simp [recsFrom, h, h2, h3]
end
theorem drop_cons {l : List RecM} {k : Nat} (h : k < l.length) : l.drop k = l.getD k default :: l.drop (k + 1) := by
  rw [List.drop_eq_getElem_cons h]; simp [List.getD, h]

section
variable {w W W' : World}
theorem below_next (h : Below w.heap.size w W) (h' : Below W.heap.size W W') : Below w.heap.size w W' := h.trans (h'.mono h.size)
theorem below_alloc (h : Below w.heap.size w W) (o : Obj) : Below w.heap.size w (W.alloc o) := h.alloc h.size o
theorem below_drew (h : Below w.heap.size w W) : Below w.heap.size w W.drew := h.drew
theorem below_drewN (h : Below w.heap.size w W) (n : Nat) : Below w.heap.size w (W.drewN n) := ⟨h.os, h.tape, h.output, h.size, h.block⟩
theorem below_set (h : Below w.heap.size w W) {p : Addr} (hp : w.heap.size ≤ p.block) (u : Value) : Below w.heap.size w (W.setCell p u) := h.setCell hp u
end
/-- What a box of five cells holds in a later world. -/
theorem boxS {W0 w' : World} {g : Nat} {v0 v1 v2 v3 v4 : Value} (h0 : W0.cell? ⟨g, 0, none⟩ = some v0) (h1 : W0.cell? ⟨g, 1, none⟩ = some v1) (h2 : W0.cell? ⟨g, 2, none⟩ = some v2) (h3 : W0.cell? ⟨g, 3, none⟩ = some v3)
    (h4 : W0.cell? ⟨g, 4, none⟩ = some v4) (hb : Below W0.heap.size W0 w') :
    w'.cell? ⟨g, 0, none⟩ = some v0 ∧ w'.cell? ⟨g, 1, none⟩ = some v1 ∧ w'.cell? ⟨g, 2, none⟩ = some v2 ∧ w'.cell? ⟨g, 3, none⟩ = some v3 ∧ w'.cell? ⟨g, 4, none⟩ = some v4 ∧ Below W0.heap.size W0 w' := by
  have hg : g < W0.heap.size := World.block_lt_of_cell? W0 _ h0
  exact ⟨(hb.cell (p := ⟨g, 0, none⟩) hg).trans h0, (hb.cell (p := ⟨g, 1, none⟩) hg).trans h1, (hb.cell (p := ⟨g, 2, none⟩) hg).trans h2, (hb.cell (p := ⟨g, 3, none⟩) hg).trans h3, (hb.cell (p := ⟨g, 4, none⟩) hg).trans h4, hb⟩
/-- A new box of five cells. -/
theorem box_new (w : World) (v0 v1 v2 v3 v4 : Value) (t : TypeId) : ∃ W0, W0 = w.alloc (.cells #[v0, v1, v2, v3, v4] t) ∧ W0.cell? ⟨w.heap.size, 0, none⟩ = some v0 ∧ W0.cell? ⟨w.heap.size, 1, none⟩ = some v1 ∧ W0.cell? ⟨w.heap.size, 2, none⟩ = some v2 ∧
    W0.cell? ⟨w.heap.size, 3, none⟩ = some v3 ∧ W0.cell? ⟨w.heap.size, 4, none⟩ = some v4 ∧ Below w.heap.size w W0 ∧ W0.heap.size = w.heap.size + 1 :=
  ⟨_, rfl, by simp, by simp, by simp, by simp, by simp, below_alloc (Below.refl _ _) _, by simp⟩
/-- A callee that leaves the world alone, in a quiet region. -/
theorem quiet_left {P : Program} {f : FuncId} {args : Array Value} {w : World} {n : Nat} {v : Value}
    (h : Calls P f args (w.drewN n) fun e w' => e = .returned v ∧ w.drewN n = w') : Calls P f args (w.drewN n) fun e w'' => e = .returned v ∧ ∃ m, w'' = w.drewN m :=
  h.mono fun _ _ ⟨he, hm⟩ => ⟨he, n, hm.symm⟩
/-- Behind 'Below' all old cells read as before. -/
theorem bcell {W w1 : World} (hb : Below W.heap.size W w1) : (∀ b o, b < W.heap.size → w1.cell? ⟨b, o, none⟩ = W.cell? ⟨b, o, none⟩) ∧ (∀ b o, b < W.heap.size → w1.frozen? ⟨b, o, none⟩ = W.frozen? ⟨b, o, none⟩) :=
  ⟨fun b o h => hb.cell (p := ⟨b, o, none⟩) h, fun b o h => hb.frozen (p := ⟨b, o, none⟩) h⟩
end Go.Proofs.YtambkjnhfejfaacGreatDoor

namespace Go.Proofs.YtambkjnhfejfaacGreatDoor
open Go.RowKit

theorem recsFrom_iff (l : List RecM) : ∀ s c : Int, recsFrom s c l = true ↔
    (∀ r ∈ l, recB r = true ∧ s < r.s ∧ (r.c ≠ 0 → c ≤ r.s)) ∧ l.Pairwise (fun a b => a.s < b.s ∧ (b.c ≠ 0 → a.c ≤ b.s)) := by
  induction l with
  | nil => simp [recsFrom]
  | cons r l ih =>
    intro s c
    simp only [recsFrom, Bool.and_eq_true, decide_eq_true_eq, ih, List.pairwise_cons, List.mem_cons, forall_eq_or_imp]
    constructor
    · rintro ⟨⟨⟨h1, h2⟩, h3⟩, h4, h5⟩
      have h3' : r.c ≠ 0 → c ≤ r.s := by
        intro h
        simp only [Bool.not_eq_true', Bool.and_eq_false_iff, bne_eq_false_iff_eq, decide_eq_false_iff_not] at h3
        rcases h3 with h3 | h3
        · exact absurd h3 h
        · omega
      refine ⟨⟨⟨h2, h1, h3'⟩, fun x hx => ?_⟩, fun x hx => ?_, h5⟩
      · obtain ⟨a, b, d⟩ := h4 x hx
        exact ⟨a, by omega, fun hc => by have := d hc; split at this <;> omega⟩
      · obtain ⟨a, b, d⟩ := h4 x hx
        exact ⟨b, fun hc => by have := d hc; split at this <;> omega⟩
    · rintro ⟨⟨⟨h2, h1, h3⟩, h4⟩, h5, h6⟩
      refine ⟨⟨⟨h1, h2⟩, ?_⟩, fun x hx => ?_, h6⟩
      · simp only [Bool.not_eq_true', Bool.and_eq_false_iff, bne_eq_false_iff_eq, decide_eq_false_iff_not]
        by_cases hc : r.c = 0
        · exact .inl hc
        · exact .inr (by have := h3 hc; omega)
      · obtain ⟨a, b, d⟩ := h4 x hx
        obtain ⟨e, f⟩ := h5 x hx
        exact ⟨a, e, fun hc => by have := d hc; have := f hc; split <;> omega⟩

/-- What the reference asks of the record with index i. -/
structure RecMay (l : List RecM) (ls : Int) (i : Nat) : Prop where
  time : inB (l.getD i default).s 1 1099511627776 = true
  value : (l.getD i default).v.size ≤ 20
  prev : 0 < i → (l.getD (i - 1) default).s < (l.getD i default).s
  undone : (l.getD i default).c = 0 → (l.getD i default).v.toList.isEmpty = true
  done : (l.getD i default).c ≠ 0 → inB (l.getD i default).c ((l.getD i default).s + 1) 1099511627776 = true
  before : ∀ k, k < i → (l.getD i default).c ≠ 0 → (l.getD k default).c ≤ (l.getD i default).s
  lock : ls ≠ 0 → (l.getD i default).c ≤ ls

theorem isEmpty_size {b : ByteArray} (h : b.toList.isEmpty = true) : b.size = 0 := by
  have h1 : b.toList = [] := by simpa using h
  have h2 : b.toList = b.data.toList := ByteArray.toList_eq b
  rw [h2] at h1
  have : b.data.toList.length = 0 := by rw [h1]; rfl
  simpa using this

theorem recMay_of {l : List RecM} {ls : Int} (h : recsFrom 0 0 l = true) (hl : ls ≠ 0 → ∀ r ∈ l, r.c ≤ ls) {i : Nat} (hi : i < l.length) : RecMay l ls i := by
  obtain ⟨ha, hp⟩ := (recsFrom_iff l 0 0).1 h
  have hg : ∀ j (hj : j < l.length), l.getD j default = l[j] := fun j hj => by simp [List.getD, hj]
  have hm : l.getD i default ∈ l := by rw [hg i hi]; exact List.getElem_mem hi
  obtain ⟨hb, _, _⟩ := ha _ hm
  rw [List.pairwise_iff_getElem] at hp
  simp only [recB, Bool.and_eq_true] at hb
  obtain ⟨ht, hv⟩ := hb
  refine ⟨ht, ?_, fun h0 => ?_, fun hc => ?_, fun hc => ?_, fun k hk hc => ?_, fun h0 => hl h0 _ hm⟩
  · split at hv
    · rw [isEmpty_size hv]; omega
    · simp only [Bool.and_eq_true, decide_eq_true_eq] at hv; exact hv.2
  · have := (hp (i - 1) i (by omega) hi (by omega)).1
    rw [hg _ (by omega), hg _ hi]; exact this
  · rw [if_pos hc] at hv; exact hv
  · rw [if_neg hc] at hv
    simp only [Bool.and_eq_true, decide_eq_true_eq] at hv
    exact inB_true.2 ⟨by omega, hv.1.2⟩
  · rw [hg _ hi] at hc ⊢
    rw [hg _ (by omega)]
    exact (hp k i (by omega) hi hk).2 hc

theorem recs_of_may {l : List RecM} {ls : Int} (h : ∀ i, i < l.length → RecMay l ls i) : recsFrom 0 0 l = true := by
  rw [recsFrom_iff]
  have hg : ∀ j (hj : j < l.length), l.getD j default = l[j] := fun j hj => by simp [List.getD, hj]
  refine ⟨fun r hr => ?_, ?_⟩
  · obtain ⟨i, hi, rfl⟩ := List.getElem_of_mem hr
    have M := h i hi
    have ht := inB_true.1 M.time
    rw [hg i hi] at ht
    refine ⟨?_, by omega, fun _ => by omega⟩
    have t := M.time; have v := M.value; have u := M.undone; have d := M.done
    rw [hg i hi] at t v u d
    simp only [recB, t, Bool.true_and]
    split
    · exact u ‹_›
    · have := inB_true.1 (d ‹_›)
      simp only [Bool.and_eq_true, decide_eq_true_eq]
      exact ⟨⟨by omega, this.2⟩, v⟩
  · rw [List.pairwise_iff_getElem]
    intro i j hi hj hij
    refine ⟨?_, fun hc => ?_⟩
    · have key : ∀ d, i + d + 1 < l.length → (l.getD i default).s < (l.getD (i + d + 1) default).s := by
        intro d
        induction d with
        | zero => intro hd; exact (h (i + 1) hd).prev (by omega)
        | succ d ih =>
          intro hd
          have h1 := ih (by omega)
          have h2 := (h (i + (d + 1) + 1) hd).prev (by omega)
          have e : i + (d + 1) + 1 - 1 = i + d + 1 := by omega
          rw [e] at h2
          exact Int.lt_trans h1 h2
      have := key (j - i - 1) (by omega)
      rw [show i + (j - i - 1) + 1 = j by omega, hg _ hi, hg _ hj] at this
      exact this
    · have := (h j hj).before i hij (by rw [hg _ hj]; exact hc)
      rw [hg _ hi, hg _ hj] at this
      exact this

theorem hasRec_false {st : Int} {l : List RecM} : hasRec st l = false ↔ ∀ r ∈ l, r.s ≠ st := by
  unfold hasRec firstOf
  rw [Option.isSome_eq_false_iff, Option.isNone_iff_eq_none, List.find?_eq_none]
  simp

/-- What the reference asks of a row. -/
structure RowMay (key : ByteArray) (ls : Int) (lp val : ByteArray) (l : List RecM) : Prop where
  key : keyB key = true
  value : val.size ≤ 20
  free : ls = 0 → lp.toList.isEmpty = true ∧ val.toList.isEmpty = true
  held : ls ≠ 0 → hasRec ls l = false ∧ inB ls 1 1099511627776 = true ∧ keyB lp = true
  room : (l.length : Int) ≤ roomOf ls
  recs : ∀ i, i < l.length → RecMay l ls i

theorem rowB_iff (key : ByteArray) (ls : Int) (lp val : ByteArray) (l : List RecM) : rowB key ls lp val l = true ↔ RowMay key ls lp val l := by
  simp only [rowB, Bool.and_eq_true, decide_eq_true_eq]
  constructor
  · rintro ⟨⟨⟨h1, h2⟩, h3⟩, h4⟩
    by_cases h0 : ls = 0
    · rw [lockB, if_pos h0, Bool.and_eq_true] at h4
      exact ⟨h1, by rw [isEmpty_size h4.2]; omega, fun _ => h4, fun h => absurd h0 h, h2, fun i hi => recMay_of h3 (fun h => absurd h0 h) hi⟩
    · rw [lockB, if_neg h0] at h4
      simp only [Bool.and_eq_true, decide_eq_true_eq, lastIx_neg, Bool.or_eq_false_iff, decide_eq_false_iff_not, beq_eq_false_iff_ne] at h4
      obtain ⟨⟨⟨a, b⟩, d⟩, e⟩ := h4
      exact ⟨h1, d, fun h => absurd h h0, fun _ => ⟨hasRec_false.2 fun r hr => (e r hr).1, a, b⟩, h2, fun i hi => recMay_of h3 (fun _ r hr => by have := (e r hr).2; omega) hi⟩
  · rintro ⟨h1, h2, h3, h4, h5, h6⟩
    refine ⟨⟨⟨h1, h5⟩, recs_of_may h6⟩, ?_⟩
    by_cases h0 : ls = 0
    · rw [lockB, if_pos h0, Bool.and_eq_true]; exact h3 h0
    · rw [lockB, if_neg h0]
      simp only [Bool.and_eq_true, decide_eq_true_eq, lastIx_neg, Bool.or_eq_false_iff, decide_eq_false_iff_not, beq_eq_false_iff_ne]
      obtain ⟨a, b, d⟩ := h4 h0
      refine ⟨⟨⟨b, d⟩, h2⟩, fun r hr => ⟨hasRec_false.1 a r hr, ?_⟩⟩
      obtain ⟨i, hi, rfl⟩ := List.getElem_of_mem hr
      have := (h6 i hi).lock h0
      have hg : l.getD i default = l[i] := by simp [List.getD, hi]
      rw [hg] at this; omega
theorem rowB_no {key : ByteArray} {ls : Int} {lp val : ByteArray} {l : List RecM} (h : ¬ RowMay key ls lp val l) : rowB key ls lp val l = false := by
  cases e : rowB key ls lp val l
  · rfl
  · exact absurd ((rowB_iff ..).1 e) h

section
variable {key : ByteArray} {ls : Int} {lp val : ByteArray} {l : List RecM} {k : Nat} {rs rc : Int} {rv : ByteArray}
theorem recMay_mk (HR : (⟨rs, rc, rv⟩ : RecM) = l.getD k default) (q1 : inB rs 1 1099511627776 = true) (q2 : rv.size ≤ 20) (q3 : 0 < k → (l.getD (k - 1) default).s < rs) (q4 : rc = 0 → rv.toList.isEmpty = true)
    (q5 : rc ≠ 0 → inB rc (rs + 1) 1099511627776 = true) (q6 : ∀ j, j < k → rc ≠ 0 → (l.getD j default).c ≤ rs) (q7 : ls ≠ 0 → rc ≤ ls) : RecMay l ls k :=
  ⟨by rw [← HR]; exact q1, by rw [← HR]; exact q2, by rw [← HR]; exact q3, by rw [← HR]; exact q4, by rw [← HR]; exact q5, by rw [← HR]; exact q6, by rw [← HR]; exact q7⟩
theorem no_time (hm : k < l.length) (HR : (⟨rs, rc, rv⟩ : RecM) = l.getD k default) (h : inB rs 1 1099511627776 = false) : rowB key ls lp val l = false :=
  rowB_no fun M => by have := (M.recs k hm).time; rw [← HR, h] at this; cases this
theorem no_value (hm : k < l.length) (HR : (⟨rs, rc, rv⟩ : RecM) = l.getD k default) (h : 20 < rv.size) : rowB key ls lp val l = false :=
  rowB_no fun M => by have := (M.recs k hm).value; rw [← HR] at this; simp only at this; omega
theorem no_prev (hm : k < l.length) (HR : (⟨rs, rc, rv⟩ : RecM) = l.getD k default) (h0 : 0 < k) (h : rs ≤ (l.getD (k - 1) default).s) : rowB key ls lp val l = false :=
  rowB_no fun M => by have := (M.recs k hm).prev h0; rw [← HR] at this; simp only at this; omega
theorem no_undone (hm : k < l.length) (HR : (⟨rs, rc, rv⟩ : RecM) = l.getD k default) (h0 : rc = 0) (h : rv.toList.isEmpty = false) : rowB key ls lp val l = false :=
  rowB_no fun M => by have := (M.recs k hm).undone (by rw [← HR]; exact h0); rw [← HR, h] at this; cases this
theorem no_done (hm : k < l.length) (HR : (⟨rs, rc, rv⟩ : RecM) = l.getD k default) (h0 : rc ≠ 0) (h : inB rc (rs + 1) 1099511627776 = false) : rowB key ls lp val l = false :=
  rowB_no fun M => by have := (M.recs k hm).done (by rw [← HR]; exact h0); rw [← HR, h] at this; cases this
theorem no_before (hm : k < l.length) (HR : (⟨rs, rc, rv⟩ : RecM) = l.getD k default) {j : Nat} (hj : j < k) (h0 : rc ≠ 0) (h : rs < (l.getD j default).c) : rowB key ls lp val l = false :=
  rowB_no fun M => by have := (M.recs k hm).before j hj (by rw [← HR]; exact h0); rw [← HR] at this; simp only at this; omega
theorem no_lock (hm : k < l.length) (HR : (⟨rs, rc, rv⟩ : RecM) = l.getD k default) (h0 : ls ≠ 0) (h : ls < rc) : rowB key ls lp val l = false :=
  rowB_no fun M => by have := (M.recs k hm).lock h0; rw [← HR] at this; simp only at this; omega
theorem yes_of (a : keyB key = true) (b : val.size ≤ 20) (c : ls = 0 → lp.toList.isEmpty = true ∧ val.toList.isEmpty = true) (d : ls ≠ 0 → hasRec ls l = false ∧ inB ls 1 1099511627776 = true ∧ keyB lp = true) (e : (l.length : Int) ≤ roomOf ls)
    (f : ∀ i, i < l.length → RecMay l ls i) : rowB key ls lp val l = true := (rowB_iff ..).2 ⟨a, b, c, d, e, f⟩
end
end Go.Proofs.YtambkjnhfejfaacGreatDoor

namespace Go.Proofs.YtambkjnhfejfaacGreatDoor
open Go.RowKit

/-- A row as it comes to a function: its records lie in memory, its strings are such as a machine holds. -/
structure RowIn (w : World) (key lp val : ByteArray) (A : Option Addr) (n : Nat) (l : List RecM) : Prop where
  n : n = l.length
  l : RecsAt w w.heap.size A l
  k : key.size ≤ maxLen
  p : lp.size ≤ maxLen
  v : val.size ≤ maxLen
theorem RowIn.upto {w W : World} {key lp val : ByteArray} {A : Option Addr} {n : Nat} {l : List RecM} (h : RowIn w key lp val A n l) (hb : Below w.heap.size w W) : RowIn W key lp val A n l :=
  ⟨h.n, h.l.upto hb, h.k, h.p, h.v⟩
/-- A row's value. -/
abbrev rowV (key : ByteArray) (ls : Int) (lp val : ByteArray) (A : Option Addr) (n c : Nat) : Value := .agg #[.string key, .int .i64 ls, .string lp, .string val, .slice A n c]

/-- P1.4: the status. -/
def stOf (ls st : Int) (l : List RecM) : Int := if ls = st then 1 else if hasRec st l then (if (recOf st l).c = 0 then 3 else 2) else 0
/-- P1.4: the Commit of a committed one. -/
def cmOf (ls st : Int) (l : List RecM) : Int := if ls = st then 0 else (recOf st l).c

theorem stOf_at {ls st : Int} {l : List RecM} {r : RecM} (hq : ¬ ls = st) (hf : firstOf st l = some r) : stOf ls st l = if r.c = 0 then 3 else 2 := by
  simp [stOf, hq, hasRec, recOf, hf]
theorem cmOf_at {ls st : Int} {l : List RecM} {r : RecM} (hq : ¬ ls = st) (hf : firstOf st l = some r) : cmOf ls st l = r.c := by simp [cmOf, hq, recOf, hf]
theorem getD_get {l : List RecM} {k : Nat} (h : k < l.length) : l.getD k default = l[k] := by simp [List.getD, h]

/-- Where the Starts increase, the last record of a transaction is its only one. -/
theorem lastIx_of {l : List RecM} (h : recsFrom 0 0 l = true) (st : Int) :
    (lastIx (fun r => r.s == st) l < 0 → firstOf st l = none) ∧ (∀ i : Nat, lastIx (fun r => r.s == st) l = (i : Int) → firstOf st l = some (l.getD i default)) := by
  obtain ⟨_, hp⟩ := (recsFrom_iff l 0 0).1 h
  rw [List.pairwise_iff_getElem] at hp
  refine ⟨fun h0 => ?_, fun i hi => ?_⟩
  · have := (lastIx_neg _ _).1 h0
    unfold firstOf
    rw [List.find?_eq_none]
    intro r hr
    simp [this r hr]
  · have hil : i < l.length := by have := (lastIx_bd (fun r => r.s == st) l).2; omega
    have hfit : (l.getD i default).s = st := by
      have key : ∀ k, lastUpto (fun r => r.s == st) l k = (i : Int) → (l.getD i default).s = st := by
        intro k
        induction k with
        | zero => intro e; simp [lastUpto] at e
        | succ k ih =>
          intro e
          simp only [lastUpto] at e
          split at e
          · rename_i hq
            have : k = i := by omega
            subst this
            simpa using hq
          · exact ih e
      exact key _ hi
    refine firstOf_at hil (fun j hj => ?_) hfit
    have hjl : j < l.length := by omega
    have := (hp j i hjl hil hj).1
    rw [getD_get hil] at hfit
    rw [getD_get hjl]
    omega
theorem recs_ok {key : ByteArray} {ls : Int} {lp val : ByteArray} {l : List RecM} (h : rowB key ls lp val l = true) : recsFrom 0 0 l = true := by
  simp only [rowB, Bool.and_eq_true] at h
  exact h.1.2
end Go.Proofs.YtambkjnhfejfaacGreatDoor

namespace Go.Proofs.YtambkjnhfejfaacGreatDoor
open Go.RowKit

/-- Is there a record that was committed behind the start? -/
def lateB (st : Int) (l : List RecM) : Bool := decide (0 ≤ lastIx (fun r => decide (st < r.c)) l)
/-- P1.5: the error. -/
def lockE (key : ByteArray) (ls : Int) (lp val : ByteArray) (l : List RecM) (st : Int) (pk pv : ByteArray) : Int :=
  if rowB key ls lp val l = false then 6 else if inB st 1 1099511627776 = false then 2 else if keyB pk = false then 4 else if 20 < pv.size then 1 else if stOf ls st l = 3 then 9
  else if lateB st l = true then 8 else if ls ≠ 0 then 7 else if 100 ≤ l.length then 1 else 0

theorem lateB_false {st : Int} {l : List RecM} : lateB st l = false ↔ ∀ r ∈ l, r.c ≤ st := by
  unfold lateB
  rw [decide_eq_false_iff_not]
  have h := lastIx_neg (fun r => decide (st < r.c)) l
  constructor
  · intro h0 r hr
    have := h.1 (by omega) r hr
    simpa using this
  · intro h0 h1
    have := h.2 (fun r hr => by have := h0 r hr; simpa using this)
    omega
theorem late_at {st : Int} {l : List RecM} {k : Nat} (hk : k < l.length) (h : st < (l.getD k default).c) : lateB st l = true := by
  cases e : lateB st l
  · have := lateB_false.1 e (l.getD k default) (by simp [List.getD, hk])
    omega
  · rfl
theorem late_none {st : Int} {l : List RecM} (h : ∀ j, j < l.length → (l.getD j default).c ≤ st) : lateB st l = false := by
  refine lateB_false.2 fun r hr => ?_
  obtain ⟨i, hi, rfl⟩ := List.getElem_of_mem hr
  have := h i hi
  rwa [getD_get hi] at this
end Go.Proofs.YtambkjnhfejfaacGreatDoor

namespace Go.Proofs.YtambkjnhfejfaacGreatDoor
open Go.RowKit

/-- Committed up to a time. -/
def upTo (at_ : Int) (r : RecM) : Bool := r.c != 0 && decide (r.c ≤ at_)
/-- The last of the first k records that was committed up to a time; a zero record, if there is none. -/
def bestUpto (at_ : Int) (l : List RecM) : Nat → RecM
  | 0 => ⟨0, 0, ⟨#[]⟩⟩
  | k + 1 => if upTo at_ (l.getD k default) then l.getD k default else bestUpto at_ l k
def bestOf (at_ : Int) (l : List RecM) : RecM := bestUpto at_ l l.length

theorem best_last (at_ : Int) (l : List RecM) (k : Nat) :
    (lastUpto (upTo at_) l k < 0 → bestUpto at_ l k = ⟨0, 0, ⟨#[]⟩⟩) ∧ (∀ i : Nat, lastUpto (upTo at_) l k = (i : Int) → bestUpto at_ l k = l.getD i default ∧ upTo at_ (l.getD i default) = true) := by
  induction k with
  | zero => exact ⟨fun _ => rfl, fun i h => by simp [lastUpto] at h⟩
  | succ k ih =>
    simp only [lastUpto, bestUpto]
    by_cases h : upTo at_ (l.getD k default) = true
    · rw [if_pos h, if_pos h]
      refine ⟨fun h' => by omega, fun i hi => ?_⟩
      have : k = i := by omega
      subst this
      exact ⟨rfl, h⟩
    · rw [if_neg h, if_neg h]; exact ih

theorem commit_pos {l : List RecM} (h : recsFrom 0 0 l = true) {k : Nat} (hk : k < l.length) (hc : (l.getD k default).c ≠ 0) : (l.getD k default).s < (l.getD k default).c ∧ 1 ≤ (l.getD k default).s := by
  have M := recMay_of (ls := 0) h (fun h => absurd rfl h) hk
  have d := inB_true.1 (M.done hc)
  have t := inB_true.1 M.time
  omega

theorem best_lt {l : List RecM} (h : recsFrom 0 0 l = true) (at_ : Int) {k : Nat} (hk : k ≤ l.length) :
    0 ≤ (bestUpto at_ l k).c ∧ ∀ j, k ≤ j → j < l.length → (l.getD j default).c ≠ 0 → (bestUpto at_ l k).c < (l.getD j default).c := by
  induction k with
  | zero =>
    refine ⟨Int.le_refl _, fun j _ hj hc => ?_⟩
    have := commit_pos h hj hc
    show (0 : Int) < _
    omega
  | succ k ih =>
    simp only [bestUpto]
    by_cases hu : upTo at_ (l.getD k default) = true
    · rw [if_pos hu]
      have hc0 : (l.getD k default).c ≠ 0 := by simp only [upTo, Bool.and_eq_true, bne_iff_ne] at hu; exact hu.1
      have h1 := commit_pos h (by omega) hc0
      refine ⟨by omega, fun j hj hjl hc => ?_⟩
      have M := recMay_of (ls := 0) h (fun h => absurd rfl h) hjl
      have := M.before k (by omega) hc
      have := commit_pos h hjl hc
      omega
    · rw [if_neg hu]
      obtain ⟨a, b⟩ := ih (by omega)
      exact ⟨a, fun j hj hjl hc => b j (by omega) hjl hc⟩

/-- The reference's test finds the next best one. -/
theorem best_step {l : List RecM} (h : recsFrom 0 0 l = true) (at_ : Int) {k : Nat} (hk : k < l.length) :
    (decide ((l.getD k default).c ≤ at_) && decide ((bestUpto at_ l k).c < (l.getD k default).c)) = upTo at_ (l.getD k default) := by
  obtain ⟨h0, h1⟩ := best_lt h at_ (Nat.le_of_lt hk)
  unfold upTo
  by_cases hc : (l.getD k default).c = 0
  · rw [hc]; simp; intro _; omega
  · have h2 := h1 k (Nat.le_refl _) hk hc
    rw [decide_eq_true h2, show ((l.getD k default).c != 0) = true from by simpa using hc, Bool.and_true, Bool.true_and]

theorem held_pos {key : ByteArray} {ls : Int} {lp val : ByteArray} {l : List RecM} (h : rowB key ls lp val l = true) : ls = 0 ∨ (1 ≤ ls ∧ ls ≤ 1099511627776) := by
  by_cases h0 : ls = 0
  · exact .inl h0
  · exact .inr (inB_true.1 (((rowB_iff ..).1 h).held h0).2.1)
end Go.Proofs.YtambkjnhfejfaacGreatDoor

namespace Go.Proofs.YtambkjnhfejfaacGreatDoor
open Go.RowKit

/-- The place of a record with this Start. -/
def placeOf (st : Int) (l : List RecM) : Nat := (lastIx (fun x => decide (x.s < st)) l + 1).toNat
/-- The records with one more, as the program lays it. -/
def insRec (l : List RecM) (r : RecM) : List RecM := l.take (placeOf r.s l) ++ [r] ++ l.drop (placeOf r.s l)
/-- The records with one more, as the reference lays it. -/
def endRec (l : List RecM) (r : RecM) : List RecM := l.filter (fun x => decide (x.s < r.s)) ++ [r] ++ l.filter (fun x => decide (r.s < x.s))

theorem placeOf_le (st : Int) (l : List RecM) : placeOf st l ≤ l.length := by
  have := lastIx_bd (fun x => decide (x.s < st)) l
  unfold placeOf; omega
theorem placeOf_eq (st : Int) (l : List RecM) : lastIx (fun x => decide (x.s < st)) l + 1 = (placeOf st l : Int) := by
  have := lastIx_bd (fun x => decide (x.s < st)) l
  unfold placeOf; omega

theorem lastIx_fit (p : RecM → Bool) (l : List RecM) (i : Nat) (h : lastIx p l = (i : Int)) : p (l.getD i default) = true ∧ ∀ j, i < j → j < l.length → p (l.getD j default) = false := by
  have key : ∀ k, lastUpto p l k = (i : Int) → p (l.getD i default) = true ∧ ∀ j, i < j → j < k → p (l.getD j default) = false := by
    intro k
    induction k with
    | zero => intro e; simp [lastUpto] at e
    | succ k ih =>
      intro e
      simp only [lastUpto] at e
      split at e
      · rename_i hq
        have : k = i := by omega
        subst this
        exact ⟨hq, fun j h1 h2 => by omega⟩
      · rename_i hq
        obtain ⟨a, b⟩ := ih e
        refine ⟨a, fun j h1 h2 => ?_⟩
        by_cases ej : j = k
        · subst ej; simpa using hq
        · exact b j h1 (by omega)
  exact key _ h

/-- Where the Starts increase, the place parts the smaller ones from the others. -/
theorem place_parts {l : List RecM} (h : recsFrom 0 0 l = true) (st : Int) : (∀ j, j < placeOf st l → (l.getD j default).s < st) ∧ (∀ j, placeOf st l ≤ j → j < l.length → ¬ (l.getD j default).s < st) := by
  obtain ⟨_, hp⟩ := (recsFrom_iff l 0 0).1 h
  rw [List.pairwise_iff_getElem] at hp
  by_cases h0 : lastIx (fun x => decide (x.s < st)) l < 0
  · have e : placeOf st l = 0 := by have := lastIx_bd (fun x => decide (x.s < st)) l; unfold placeOf; omega
    rw [e]
    refine ⟨fun j hj => by omega, fun j _ hj => ?_⟩
    have := (lastIx_neg _ _).1 h0 (l.getD j default) (by simp [List.getD, hj])
    simpa using this
  · obtain ⟨i, hi⟩ : ∃ i : Nat, lastIx (fun x => decide (x.s < st)) l = (i : Int) := ⟨(lastIx (fun x => decide (x.s < st)) l).toNat, by omega⟩
    have hil : i < l.length := by have := (lastIx_bd (fun x => decide (x.s < st)) l).2; omega
    have e : placeOf st l = i + 1 := by unfold placeOf; omega
    obtain ⟨a, b⟩ := lastIx_fit _ l i hi
    rw [e]
    have a' : (l.getD i default).s < st := by simpa using a
    refine ⟨fun j hj => ?_, fun j hj hjl => by have := b j (by omega) hjl; simpa using this⟩
    by_cases ej : j = i
    · subst ej; exact a'
    · have := (hp j i (by omega) hil (by omega)).1
      rw [getD_get hil] at a'
      rw [getD_get (by omega)]
      omega

theorem filter_take_drop {l : List RecM} {k : Nat} (hk : k ≤ l.length) (p : RecM → Bool) (h1 : ∀ j, j < k → p (l.getD j default) = true) (h2 : ∀ j, k ≤ j → j < l.length → p (l.getD j default) = false) : l.filter p = l.take k := by
  have e : l = l.take k ++ l.drop k := (List.take_append_drop k l).symm
  have f1 : (l.take k).filter p = l.take k := by
    rw [List.filter_eq_self]
    intro x hx
    obtain ⟨i, hi, rfl⟩ := List.getElem_of_mem hx
    have hi' : i < k := by simp at hi; omega
    have := h1 i hi'
    rw [getD_get (by omega)] at this
    simpa using this
  have f2 : (l.drop k).filter p = [] := by
    rw [List.filter_eq_nil_iff]
    intro x hx
    obtain ⟨i, hi, rfl⟩ := List.getElem_of_mem hx
    have hi' : k + i < l.length := by simp at hi; omega
    have := h2 (k + i) (by omega) hi'
    rw [getD_get hi'] at this
    simpa using this
  conv => lhs; rw [e]
  rw [List.filter_append, f1, f2, List.append_nil]
theorem filter_drop {l : List RecM} {k : Nat} (p : RecM → Bool) (h1 : ∀ j, j < k → j < l.length → p (l.getD j default) = false) (h2 : ∀ j, k ≤ j → j < l.length → p (l.getD j default) = true) : l.filter p = l.drop k := by
  have e : l = l.take k ++ l.drop k := (List.take_append_drop k l).symm
  have f1 : (l.take k).filter p = [] := by
    rw [List.filter_eq_nil_iff]
    intro x hx
    obtain ⟨i, hi, rfl⟩ := List.getElem_of_mem hx
    have hi' : i < k ∧ i < l.length := by simp at hi; omega
    have := h1 i hi'.1 hi'.2
    rw [getD_get hi'.2] at this
    simpa using this
  have f2 : (l.drop k).filter p = l.drop k := by
    rw [List.filter_eq_self]
    intro x hx
    obtain ⟨i, hi, rfl⟩ := List.getElem_of_mem hx
    have hi' : k + i < l.length := by simp at hi; omega
    have := h2 (k + i) (by omega) hi'
    rw [getD_get hi'] at this
    simpa using this
  conv => lhs; rw [e]
  rw [List.filter_append, f1, f2, List.nil_append]

theorem ins_eq_end {l : List RecM} (h : recsFrom 0 0 l = true) (r : RecM) (hn : hasRec r.s l = false) : insRec l r = endRec l r := by
  obtain ⟨a, b⟩ := place_parts h r.s
  have hne : ∀ j, j < l.length → (l.getD j default).s ≠ r.s := fun j hj => hasRec_false.1 hn _ (by simp [List.getD, hj])
  unfold insRec endRec
  rw [filter_take_drop (placeOf_le r.s l) (fun x => decide (x.s < r.s)) (fun j hj => by simpa using a j hj) (fun j h1 h2 => by simpa using b j h1 h2),
    filter_drop (k := placeOf r.s l) (fun x => decide (r.s < x.s)) (fun j h1 h2 => decide_eq_false (by have := a j h1; omega)) (fun j h1 h2 => decide_eq_true (by have := b j h1 h2; have := hne j h2; omega))]
end Go.Proofs.YtambkjnhfejfaacGreatDoor

namespace Go.Proofs.YtambkjnhfejfaacGreatDoor
open Go.RowKit

/-- A write of a client. -/
structure WrM where
  k : ByteArray
  v : ByteArray
instance : Inhabited WrM := ⟨⟨ByteArray.empty, ByteArray.empty⟩⟩
/-- A row. -/
structure RowM where
  key : ByteArray
  ls : Int
  lp : ByteArray
  val : ByteArray
  recs : List RecM
instance : Inhabited RowM := ⟨⟨⟨#[]⟩, 0, ⟨#[]⟩, ⟨#[]⟩, []⟩⟩
/-- A client. -/
structure ClM where
  ph : Int
  st : Int
  cm : Int
  ws : List WrM
  at_ : Int
instance : Inhabited ClM := ⟨⟨0, 0, 0, [], 0⟩⟩
/-- A world. -/
structure WoM where
  rows : List RowM
  clock : Int
  cls : List ClM
instance : Inhabited WoM := ⟨⟨[], 0, []⟩⟩
/-- An act. -/
structure ActM where
  kind : Int
  c : Int
  key : ByteArray
  val : ByteArray
instance : Inhabited ActM := ⟨⟨0, 0, ⟨#[]⟩, ⟨#[]⟩⟩⟩
/-- An answer. -/
structure AnsM where
  code : Int
  is : Bool
  val : ByteArray
  ph : Int
  time : Int
instance : Inhabited AnsM := ⟨⟨0, false, ⟨#[]⟩, 0, 0⟩⟩

/-- One string is less than another. -/
def ltS (a b : ByteArray) : Bool := Op.bytesLess a.toList b.toList

theorem toList_data (a : ByteArray) : a.toList = a.data.toList := by
  have : ∀ (i : Nat) (r : List UInt8), ByteArray.toList.loop a i r = r.reverse ++ a.data.toList.drop i := by
    intro i
    induction h : a.size - i generalizing i with
    | zero =>
      intro r
      unfold ByteArray.toList.loop
      rw [if_neg (by omega), List.drop_eq_nil_of_le (by simp; omega), List.append_nil]
    | succ n ih =>
      intro r
      unfold ByteArray.toList.loop
      have hi : i < a.size := by omega
      rw [if_pos hi, ih (i + 1) (by omega)]
      have e : a.get! i = a.data.toList[i]'(by simpa using hi) := by
        have : a.get! i = a.data[i]! := rfl
        rw [this, getElem!_pos a.data i hi]
        simp
      rw [List.drop_eq_getElem_cons (i := i) (by simpa using hi), e]
      simp
  have := this 0 []
  simpa [ByteArray.toList] using this
theorem ba_ext {a b : ByteArray} (h : a.toList = b.toList) : a = b := by
  rw [toList_data, toList_data] at h
  obtain ⟨a⟩ := a
  obtain ⟨b⟩ := b
  simp only [ByteArray.mk.injEq]
  exact Array.toList_inj.1 h

theorem less_irrefl : ∀ l : List UInt8, Op.bytesLess l l = false
  | [] => rfl
  | a :: l => by simp [Op.bytesLess, less_irrefl l]
theorem less_trans : ∀ {a b c : List UInt8}, Op.bytesLess a b = true → Op.bytesLess b c = true → Op.bytesLess a c = true
  | _, [], _, h, _ => by simp [Op.bytesLess] at h
  | _, _ :: _, [], _, h => by simp [Op.bytesLess] at h
  | [], _ :: _, _ :: _, _, _ => by simp [Op.bytesLess]
  | x :: a, y :: b, z :: c, h1, h2 => by
    simp only [Op.bytesLess, Bool.or_eq_true, decide_eq_true_eq, Bool.and_eq_true, beq_iff_eq] at h1 h2 ⊢
    rcases h1 with h1 | ⟨rfl, h1⟩
    · rcases h2 with h2 | ⟨rfl, h2⟩
      · exact .inl (UInt8.lt_trans h1 h2)
      · exact .inl h1
    · rcases h2 with h2 | ⟨rfl, h2⟩
      · exact .inl h2
      · exact .inr ⟨rfl, less_trans h1 h2⟩
theorem less_total : ∀ {a b : List UInt8}, Op.bytesLess a b = false → Op.bytesLess b a = false → a = b
  | [], [], _, _ => rfl
  | [], _ :: _, h, _ => by simp [Op.bytesLess] at h
  | _ :: _, [], _, h => by simp [Op.bytesLess] at h
  | x :: a, y :: b, h1, h2 => by
    simp only [Op.bytesLess, Bool.or_eq_false_iff, decide_eq_false_iff_not, Bool.and_eq_false_imp, beq_iff_eq] at h1 h2
    have e : x = y := UInt8.le_antisymm (UInt8.not_lt.1 h2.1) (UInt8.not_lt.1 h1.1)
    subst e
    rw [less_total (h1.2 rfl) (h2.2 rfl)]
theorem ltS_irrefl (a : ByteArray) : ltS a a = false := less_irrefl _
theorem ltS_trans {a b c : ByteArray} (h : ltS a b = true) (h' : ltS b c = true) : ltS a c = true := less_trans h h'
theorem ltS_total {a b : ByteArray} (h : ltS a b = false) (h' : ltS b a = false) : a = b := ba_ext (less_total h h')
theorem ltS_asymm {a b : ByteArray} (h : ltS a b = true) : ltS b a = false := by
  cases e : ltS b a
  · rfl
  · have := ltS_trans h e; rw [ltS_irrefl] at this; cases this
theorem ltS_ne {a b : ByteArray} (h : ltS a b = true) : a ≠ b := fun e => by rw [e, ltS_irrefl] at h; cases h

/-- strings.Compare, in these words. -/
theorem compare_list : ∀ a b : List UInt8, (Lib.compareBytes a b < 0 ↔ Op.bytesLess a b = true) ∧ (Lib.compareBytes a b = 0 ↔ a = b) ∧ -1 ≤ Lib.compareBytes a b ∧ Lib.compareBytes a b ≤ 1
  | [], [] => by simp [Lib.compareBytes, Op.bytesLess]
  | [], _ :: _ => by simp [Lib.compareBytes, Op.bytesLess]
  | _ :: _, [] => by simp [Lib.compareBytes, Op.bytesLess]
  | x :: a, y :: b => by
    have ih := compare_list a b
    unfold Lib.compareBytes
    by_cases h : x < y
    · have hne : x ≠ y := fun e => by subst e; exact UInt8.lt_irrefl x h
      simp [h, Op.bytesLess, hne]
    · by_cases h' : y < x
      · have hne : x ≠ y := fun e => by subst e; exact UInt8.lt_irrefl x h'
        simp [h, h', Op.bytesLess, hne]
      · have e : x = y := UInt8.le_antisymm (UInt8.not_lt.1 h') (UInt8.not_lt.1 h)
        subst e
        simp only [h, if_false, Op.bytesLess, decide_false, Bool.false_or, beq_self_eq_true, Bool.true_and, List.cons.injEq, true_and]
        exact ih
/-- strings.Compare. -/
def cmpS (a b : ByteArray) : Int := Lib.compareBytes a.data.toList b.data.toList
theorem cmpS_lt {a b : ByteArray} : cmpS a b < 0 ↔ ltS a b = true := by
  unfold cmpS ltS; rw [toList_data, toList_data]; exact (compare_list _ _).1
theorem cmpS_eq {a b : ByteArray} : cmpS a b = 0 ↔ a = b := by
  unfold cmpS
  rw [(compare_list _ _).2.1]
  exact ⟨fun h => ba_ext (by rw [toList_data, toList_data]; exact h), fun h => by rw [h]⟩
theorem cmpS_bd (a b : ByteArray) : -1 ≤ cmpS a b ∧ cmpS a b ≤ 1 := (compare_list _ _).2.2

/-- P1.2 of a row. -/
def RowM.ok (r : RowM) : Bool := rowB r.key r.ls r.lp r.val r.recs
/-- No time in a row is after the clock. -/
def RowM.upTo (r : RowM) (clock : Int) : Bool := r.recs.all (fun x => decide (x.s ≤ clock) && decide (x.c ≤ clock)) && decide (r.ls ≤ clock)

/-- P2.1: the row at an index. -/
def rowAtB (clock : Int) (l : List RowM) (i : Nat) : Bool := (l.getD i default).ok && (i == 0 || ltS (l.getD (i - 1) default).key (l.getD i default).key) && (l.getD i default).upTo clock
def rowsB (clock : Int) (l : List RowM) : Bool := decide (l.length ≤ 40) && (List.range l.length).all (rowAtB clock l)
/-- P2.1: the write at an index. -/
def wrAtB (l : List WrM) (i : Nat) : Bool := keyB (l.getD i default).k && (i == 0 || ltS (l.getD (i - 1) default).k (l.getD i default).k) && decide ((l.getD i default).v.size ≤ 20)
def wrsB (l : List WrM) : Bool := decide (l.length ≤ 6) && (List.range l.length).all (wrAtB l)
/-- P2.1: the times of a client. -/
def timesB (c : ClM) (clock : Int) : Bool :=
  if c.ph = 0 then c.st == 0 && c.cm == 0
  else if c.ph = 3 ∨ c.ph = 4 then decide (1 ≤ c.st) && decide (c.st < c.cm) && decide (c.cm ≤ clock)
  else decide (1 ≤ c.st) && decide (c.st ≤ clock) && c.cm == 0
/-- P2.1: how far a client is. -/
def atB (c : ClM) : Bool :=
  if c.ph = 0 then c.ws.isEmpty && c.at_ == 0
  else if c.ph = 1 then c.at_ == 0
  else if c.ph = 2 then decide (1 ≤ (c.ws.length : Int)) && decide (0 ≤ c.at_) && decide (c.at_ ≤ c.ws.length)
  else if c.ph = 3 then decide (1 ≤ (c.ws.length : Int)) && c.at_ == 0
  else if c.ph = 4 then decide (1 ≤ c.at_) && decide (c.at_ ≤ (c.ws.length : Int) - 1)
  else false
def clB (clock : Int) (c : ClM) : Bool := wrsB c.ws && timesB c clock && atB c
def clsB (clock : Int) (l : List ClM) : Bool := decide (l.length ≤ 5) && (List.range l.length).all (fun i => clB clock (l.getD i default))
/-- P2.1. -/
def WoM.ok (w : WoM) : Bool := decide (0 ≤ w.clock) && decide (w.clock ≤ 1099511627376) && rowsB w.clock w.rows && clsB w.clock w.cls

theorem all_range_false {n k : Nat} {f : Nat → Bool} (hk : k < n) (h : f k = false) : (List.range n).all f = false := by
  rw [List.all_eq_false]
  exact ⟨k, List.mem_range.2 hk, by simp [h]⟩
theorem all_range_succ {k : Nat} {f : Nat → Bool} (h : (List.range k).all f = true) (h' : f k = true) : (List.range (k + 1)).all f = true := by
  rw [List.range_succ]; simp [h'] ; simpa using h
theorem all_range_iff {n : Nat} {f : Nat → Bool} : (List.range n).all f = true ↔ ∀ i, i < n → f i = true := by
  simp
end Go.Proofs.YtambkjnhfejfaacGreatDoor

namespace Go.Proofs.YtambkjnhfejfaacGreatDoor
open Go.RowKit

/-- How many of the first keys are less. -/
def lowIx (ks : List ByteArray) (key : ByteArray) : Nat := (ks.takeWhile (fun k => ltS k key)).length
/-- The keys increase. -/
def Inc (ks : List ByteArray) : Prop := ks.Pairwise (fun a b => ltS a b = true)

theorem lowIx_le (ks : List ByteArray) (key : ByteArray) : lowIx ks key ≤ ks.length := (List.takeWhile_prefix _).length_le
theorem lowIx_eq {ks : List ByteArray} {key : ByteArray} {i : Nat} (hi : i ≤ ks.length) (h1 : ∀ j, j < i → ltS (ks.getD j default) key = true) (h2 : i < ks.length → ltS (ks.getD i default) key = false) : lowIx ks key = i := by
  induction ks generalizing i with
  | nil => simp [lowIx] at *; omega
  | cons k ks ih =>
    cases i with
    | zero =>
      have := h2 (by simp)
      simp [List.getD] at this
      simp [lowIx, this]
    | succ i =>
      have h0 := h1 0 (by omega)
      simp [List.getD] at h0
      have := ih (i := i) (by simpa using hi) (fun j hj => by have := h1 (j + 1) (by omega); simpa [List.getD] using this) (fun h => by have := h2 (by simpa using h); simpa [List.getD] using this)
      simp only [lowIx, List.takeWhile_cons, h0, if_true, List.length_cons] at this ⊢
      omega
theorem lowIx_lt {ks : List ByteArray} {key : ByteArray} {j : Nat} (h : j < lowIx ks key) : ltS (ks.getD j default) key = true := by
  induction ks generalizing j with
  | nil => simp [lowIx] at h
  | cons k ks ih =>
    simp only [lowIx, List.takeWhile_cons] at h
    split at h
    · rename_i hk
      cases j with
      | zero => simpa [List.getD] using hk
      | succ j => have := ih (j := j) (by simpa [lowIx] using h); simpa [List.getD] using this
    · simp at h
theorem lowIx_ge {ks : List ByteArray} {key : ByteArray} (h : lowIx ks key < ks.length) : ltS (ks.getD (lowIx ks key) default) key = false := by
  induction ks with
  | nil => simp at h
  | cons k ks ih =>
    by_cases hk : ltS k key = true
    · have e : lowIx (k :: ks) key = lowIx ks key + 1 := by simp [lowIx, hk]
      rw [e] at h ⊢
      have := ih (by simpa using h)
      simpa [List.getD] using this
    · have e : lowIx (k :: ks) key = 0 := by simp [lowIx, hk]
      rw [e]
      simpa [List.getD] using hk
theorem inc_lt {ks : List ByteArray} (h : Inc ks) {i j : Nat} (hij : i < j) (hj : j < ks.length) : ltS (ks.getD i default) (ks.getD j default) = true := by
  have := List.pairwise_iff_getElem.1 h i j (by omega) hj hij
  simpa [List.getD, hj, show i < ks.length by omega] using this
/-- Is the key there? -/
def hasK (ks : List ByteArray) (key : ByteArray) : Bool := decide (lowIx ks key < ks.length) && decide (ks.getD (lowIx ks key) default = key)
theorem hasK_iff {ks : List ByteArray} (h : Inc ks) {key : ByteArray} : hasK ks key = true ↔ key ∈ ks := by
  constructor
  · intro h'
    simp only [hasK, Bool.and_eq_true, decide_eq_true_eq] at h'
    rw [← h'.2]
    simp [List.getD, h'.1]
  · intro h'
    obtain ⟨i, hi, rfl⟩ := List.getElem_of_mem h'
    have e : lowIx ks ks[i] = i := lowIx_eq (by omega) (fun j hj => by
      have := inc_lt h hj hi
      simpa [List.getD, hi, show j < ks.length by omega] using this) (fun _ => by simp [List.getD, hi, ltS_irrefl])
    simp [hasK, e, hi, List.getD]
end Go.Proofs.YtambkjnhfejfaacGreatDoor

namespace Go.Proofs.YtambkjnhfejfaacGreatDoor
open Go.RowKit

/-- The cells of a list of records. -/
def recsC (l : List RecM) : List Value := l.flatMap recC
theorem recsC_cons (r : RecM) (l : List RecM) : recsC (r :: l) = .int .i64 r.s :: .int .i64 r.c :: .string r.v :: recsC l := rfl
theorem recsC_append (a b : List RecM) : recsC (a ++ b) = recsC a ++ recsC b := by simp [recsC]
theorem recsC_length (l : List RecM) : (recsC l).length = l.length * 3 := by
  induction l with
  | nil => rfl
  | cons r l ih => rw [recsC_cons]; simp [ih]; omega
theorem recsC_one (l : List RecM) : ∀ v ∈ recsC l, v.oneCell' = true := by
  induction l with
  | nil => intro v h; cases h
  | cons r l ih =>
    intro v h
    rw [recsC_cons] at h
    simp only [List.mem_cons] at h
    rcases h with rfl | rfl | rfl | h
    · rfl
    · rfl
    · rfl
    · exact ih v h
theorem recsC_at {l : List RecM} {i : Nat} {r : RecM} (h : l[i]? = some r) : (recsC l)[i * 3]? = some (.int .i64 r.s) ∧ (recsC l)[i * 3 + 1]? = some (.int .i64 r.c) ∧ (recsC l)[i * 3 + 2]? = some (.string r.v) := by
  induction l generalizing i with
  | nil => cases h
  | cons x l ih =>
    rw [recsC_cons]
    cases i with
    | zero => simp only [List.getElem?_cons_zero, Option.some.injEq] at h; subst h; exact ⟨rfl, rfl, rfl⟩
    | succ i =>
      have := ih (i := i) (by simpa using h)
      have e : (i + 1) * 3 = i * 3 + 3 := by omega
      rw [e]
      exact this
/-- And back: what lies at an address of records. -/
theorem RecsAt.cells {w : World} {B b o : Nat} {l : List RecM} (h : RecsAt w B (some ⟨b, o, none⟩) l) : ∀ j v, (recsC l)[j]? = some v → w.cell? ⟨b, o + j, none⟩ = some v := by
  intro j v hj
  have hjl : j < l.length * 3 := by rw [← recsC_length]; exact (List.getElem?_eq_some_iff.1 hj).1
  have hi : j / 3 < l.length := by omega
  obtain ⟨b', o', hA, _, hr⟩ := h.at_ (i := j / 3) (List.getElem?_eq_getElem hi)
  have hA' : b = b' ∧ o = o' := by injection hA with hA; injection hA with h1 h2; exact ⟨h1, h2⟩
  obtain ⟨rfl, rfl⟩ := hA'
  obtain ⟨a0, a1, a2⟩ := recsC_at (List.getElem?_eq_getElem hi)
  have hm : j % 3 = 0 ∨ j % 3 = 1 ∨ j % 3 = 2 := by omega
  rcases hm with hm | hm | hm
  · rw [show j / 3 * 3 = j by omega] at a0
    rw [hj] at a0
    rw [a0, show o + j = o + j / 3 * 3 by omega]; exact hr.s
  · rw [show j / 3 * 3 + 1 = j by omega] at a1
    rw [hj] at a1
    rw [a1, show o + j = o + j / 3 * 3 + 1 by omega]; exact hr.c
  · rw [show j / 3 * 3 + 2 = j by omega] at a2
    rw [hj] at a2
    rw [a2, show o + j = o + j / 3 * 3 + 2 by omega]; exact hr.v
/-- A block whose first cells are records. -/
theorem recsAt_block {w : World} {B g : Nat} {l : List RecM} {cur : Array Value} {t : TypeId} {fr : Nat × Nat} (hlen : l.length ≤ 4398046511104) (hok : ∀ r ∈ l, RecOk r) (hB : g < B) (hg : w.heap[g]? = some (.cells cur t fr))
    (hc : ∀ (j : Nat) v, (recsC l)[j]? = some v → cur[j]? = some v) : RecsAt w B (some ⟨g, 0, none⟩) l :=
  ⟨hlen, hok, fun _ => ⟨g, 0, rfl, hB, fun i r hr => by
    obtain ⟨a0, a1, a2⟩ := recsC_at hr
    rw [Nat.zero_add]
    exact ⟨by rw [Joins.cell_of_block hg]; exact hc _ _ a0, by rw [Joins.cell_of_block hg]; exact hc _ _ a1, by rw [Joins.cell_of_block hg]; exact hc _ _ a2⟩⟩⟩

/-- A slice that leads to nothing older than block B. -/
def NewAt (B : Nat) (A : Option Addr) : Prop := ∀ ad, A = some ad → B ≤ ad.block
/-- A slice of new memory, no longer than its capacity. -/
def NewC (B : Nat) (A : Option Addr) (n c : Nat) : Prop := NewAt B A ∧ n ≤ c
theorem newAt_none (B : Nat) : NewAt B none := fun _ h => by cases h
theorem RecsAt.setLow {w : World} {B B' : Nat} {A : Option Addr} {l : List RecM} (h : RecsAt w B A l) (hn : NewAt B' A) {p : Addr} (hp : p.block < B') (u : Value) : RecsAt (w.setCell p u) B A l :=
  ⟨h.1, h.2.1, fun h0 => by
    obtain ⟨b, o, hA, hb, hc⟩ := h.2.2 h0
    have hB : B' ≤ b := hn _ hA
    exact ⟨b, o, hA, hb, fun i r hr => (hc i r hr).keep fun k => World.cell?_setCell_other w p ⟨b, k, none⟩ u (fun e => by have : p.block = b := congrArg Addr.block e; omega)⟩⟩
/-- Three new blocks. -/
theorem three_blocks (w : World) (o1 o2 o3 : Obj) : (((w.alloc o1).alloc o2).alloc o3).heap[w.heap.size]? = some o1 ∧ (((w.alloc o1).alloc o2).alloc o3).heap[w.heap.size + 1]? = some o2 ∧ (((w.alloc o1).alloc o2).alloc o3).heap[w.heap.size + 2]? = some o3 := by
  have h1 := heap_alloc_new w o1
  have h2 := heap_alloc_new (w.alloc o1) o2
  have h3 := heap_alloc_new ((w.alloc o1).alloc o2) o3
  have s1 : (w.alloc o1).heap.size = w.heap.size + 1 := by simp
  have s2 : ((w.alloc o1).alloc o2).heap.size = w.heap.size + 2 := by simp
  rw [s1] at h2
  rw [s2] at h3
  exact ⟨((Below.heap_alloc _ o3 _ (by omega)).trans (Below.heap_alloc _ o2 _ (by omega))).trans h1, (Below.heap_alloc _ o3 _ (by omega)).trans h2, h3⟩

theorem rec_info : (Tryz.prog.info? 47).map (fun i => (i.zero, i.size, i.bytes)) = some (some (.agg #[.int .i64 0, .int .i64 0, .string ⟨#[]⟩]), 3, 32) := by kernel_rfl

/-- make([]Record, n). -/
theorem make_recs (n : Nat) (hn : n ≤ 4398046511104) : ∃ Z : Array Value, Z.size = n * 3 ∧ ∀ W : World, (Instr.makeSlice 43 (.int .i64 (n : Int)) (.int .i64 (n : Int))).run Tryz.prog W =
    .ok (.slice (some ⟨W.heap.size, 0, none⟩) n n) (W.alloc (.cells Z 47)) := by
  obtain ⟨i0, hi0, hz0, hz1, hz2⟩ := info_parts rec_info
  refine ⟨madeCells (Value.agg #[.int .i64 0, .int .i64 0, .string ⟨#[]⟩]).cells (n * 3), by rw [size_madeCells], fun W => ?_⟩
  have h := run_make (P := Tryz.prog) W 43 47 i0 _ Tryz.underlying43 hi0 hz0 .i64 .i64 (n : Int) (n : Int) (by omega) (by omega) (by rw [hz2]; omega) (by omega)
  simp only [Int.toNat_natCast, hz1] at h
  exact h

/-- copy of n records into a row of that size. -/
theorem copy_recs (W : World) (ty : TypeId) (g n c B : Nat) (A : Option Addr) (l : List RecM) (Z : Array Value) (hn : n = l.length) (hl : RecsAt W B A l) (hZ : Z.size = n * 3) (hg : W.heap[g]? = some (.cells Z 47 (0, 0))) :
    (Builtin.copy_ #[43, 43] ty #[.slice (some ⟨g, 0, none⟩) n n, .slice A n c]).run Tryz.prog W = .ok (goInt n) (W.setRow g (recsC l).toArray) := by
  obtain ⟨i0, hi0, _, hz1, _⟩ := info_parts rec_info
  rcases Nat.eq_zero_or_pos n with h0 | h0
  · subst h0
    have : l = [] := List.eq_nil_of_length_eq_zero hn.symm
    subst this
    have hZ0 : Z = #[] := Array.eq_empty_of_size_eq_zero (by omega)
    subst hZ0
    have e : W.setRow g (recsC []).toArray = W := setRow_self W g #[] _ _ hg
    rw [e]
    cases A with
    | none => simp [Builtin.copy_, run_underlying Tryz.underlying43, Builtin.lenOf, Builtin.firstCells, sizeOf, typeInfo, hi0, storeCells]
    | some a =>
      have h1 := run_loadCells_list (P := Tryz.prog) W a [] (by simp)
      simp only [List.length_nil] at h1
      simp [Builtin.copy_, run_underlying Tryz.underlying43, Builtin.lenOf, Builtin.firstCells, sizeOf, typeInfo, hi0, storeCells, h1]
  · obtain ⟨b, o, rfl, _, _⟩ := hl.2.2 (by omega)
    have hsrc : ∀ j v, (recsC l)[j]? = some v → W.cell? ((⟨b, o, none⟩ : Addr).add j) = some v := by
      intro j v hj
      have e : (⟨b, o, none⟩ : Addr).add j = ⟨b, o + j, none⟩ := by unfold Addr.add; split <;> simp_all
      rw [e]
      exact hl.cells j v hj
    have h1 := run_loadCells_list (P := Tryz.prog) W ⟨b, o, none⟩ (recsC l) hsrc
    have h2 := run_storeCells_at Tryz.prog g 0 47 (recsC l) 0 Z W hg (by rw [recsC_length]; omega) (recsC_one l)
    have hd : Z.toList.drop (recsC l).length = [] := List.drop_eq_nil_of_le (by rw [recsC_length]; simp; omega)
    have hlen : (recsC l).length = n * 3 := by rw [recsC_length, hn]
    rw [hlen] at h1
    simp only [Nat.zero_add, List.take_zero, List.nil_append, hd, List.append_nil] at h2
    simp [Builtin.copy_, run_underlying Tryz.underlying43, Builtin.lenOf, Builtin.firstCells, sizeOf, typeInfo, hi0, hz1, h1, h2]
end Go.Proofs.YtambkjnhfejfaacGreatDoor

namespace Go.Proofs.YtambkjnhfejfaacGreatDoor
open Go.RowKit

/-- A slice at A leads to the list l: elements of sz cells, in a block that P lets in. -/
def SeqAt {α : Type} (P : Nat → Prop) (sz mx : Nat) (E : Nat → Nat → α → Prop) (A : Option Addr) (l : List α) : Prop :=
  l.length ≤ mx ∧ (0 < l.length → ∃ b o, A = some ⟨b, o, none⟩ ∧ P b ∧ ∀ i x, l[i]? = some x → E b (o + i * sz) x)
section
variable {α : Type} {P P' : Nat → Prop} {sz mx : Nat} {E E' : Nat → Nat → α → Prop} {A : Option Addr} {l : List α}
theorem SeqAt.mono (h : SeqAt P sz mx E A l) (hP : ∀ b, P b → P' b) (hE : ∀ b o x, x ∈ l → P b → E b o x → E' b o x) : SeqAt P' sz mx E' A l :=
  ⟨h.1, fun h0 => by
    obtain ⟨b, o, hA, hb, hc⟩ := h.2 h0
    exact ⟨b, o, hA, hP b hb, fun i x hx => hE b _ x (List.mem_of_getElem? hx) hb (hc i x hx)⟩⟩
theorem SeqAt.at_ (h : SeqAt P sz mx E A l) {i : Nat} {x : α} (hx : l[i]? = some x) : ∃ b o, A = some ⟨b, o, none⟩ ∧ P b ∧ E b (o + i * sz) x := by
  have hl : i < l.length := (List.getElem?_eq_some_iff.1 hx).1
  obtain ⟨b, o, hA, hb, hc⟩ := h.2 (by omega)
  exact ⟨b, o, hA, hb, hc i x hx⟩
theorem SeqAt.nil_ (A : Option Addr) : SeqAt P sz mx E A ([] : List α) := ⟨Nat.zero_le _, fun h => absurd h (by simp)⟩
theorem SeqAt.block {g : Nat} (hl : l.length ≤ mx) (hg : P g) (h : ∀ i x, l[i]? = some x → E g (i * sz) x) : SeqAt P sz mx E (some ⟨g, 0, none⟩) l :=
  ⟨hl, fun _ => ⟨g, 0, rfl, hg, fun i x hx => by rw [Nat.zero_add]; exact h i x hx⟩⟩
theorem getD_some {α : Type} {d : α} {l : List α} {k : Nat} (h : k < l.length) : l[k]? = some (l.getD k d) := by simp [List.getD, h]
theorem getD_mem {α : Type} {d : α} {l : List α} {k : Nat} (h : k < l.length) : l.getD k d ∈ l := by simp [List.getD, h]
end

/-- Records in a block that P lets in. -/
def RecsIn (w : World) (P : Nat → Prop) (A : Option Addr) (l : List RecM) : Prop :=
  l.length ≤ 4398046511104 ∧ (∀ r ∈ l, RecOk r) ∧ (0 < l.length → ∃ b o, A = some ⟨b, o, none⟩ ∧ P b ∧ ∀ i r, l[i]? = some r → RecAt w b (o + i * 3) r)
theorem RecsIn.mono {w w' : World} {P P' : Nat → Prop} {A : Option Addr} {l : List RecM} (h : RecsIn w P A l) (hP : ∀ b, P b → P' b) (hk : ∀ b k, P b → w'.cell? ⟨b, k, none⟩ = w.cell? ⟨b, k, none⟩) : RecsIn w' P' A l :=
  ⟨h.1, h.2.1, fun h0 => by
    obtain ⟨b, o, hA, hb, hc⟩ := h.2.2 h0
    exact ⟨b, o, hA, hP b hb, fun i r hr => (hc i r hr).keep fun k => hk b k hb⟩⟩
theorem RecsIn.recs {w : World} {P : Nat → Prop} {B : Nat} {A : Option Addr} {l : List RecM} (h : RecsIn w P A l) (hP : ∀ b, P b → b < B) : RecsAt w B A l := h.mono hP (fun _ _ _ => rfl)
theorem RecsAt.in_ {w : World} {P : Nat → Prop} {B : Nat} {A : Option Addr} {l : List RecM} (h : RecsAt w B A l) (hP : ∀ ad, A = some ad → ad.block < B → P ad.block) : RecsIn w P A l :=
  ⟨h.1, h.2.1, fun h0 => by
    obtain ⟨b, o, hA, hb, hc⟩ := h.2.2 h0
    exact ⟨b, o, hA, hP _ hA hb, hc⟩⟩

/-- A row's numbers and strings are such as a machine holds. -/
structure RowOk (r : RowM) : Prop where
  k : r.key.size ≤ maxLen
  p : r.lp.size ≤ maxLen
  v : r.val.size ≤ maxLen
  s : i64 r.ls
/-- The five cells of a row at an address, and its records. -/
structure RowAt (w : World) (P : Nat → Prop) (b o : Nat) (r : RowM) : Prop where
  ck : w.cell? ⟨b, o, none⟩ = some (.string r.key)
  cs : w.cell? ⟨b, o + 1, none⟩ = some (.int .i64 r.ls)
  cp : w.cell? ⟨b, o + 2, none⟩ = some (.string r.lp)
  cv : w.cell? ⟨b, o + 3, none⟩ = some (.string r.val)
  cr : ∃ A c, w.cell? ⟨b, o + 4, none⟩ = some (.slice A r.recs.length c) ∧ r.recs.length ≤ c ∧ RecsIn w P A r.recs
  ok : RowOk r
theorem RowAt.mono {w w' : World} {P P' : Nat → Prop} {b o : Nat} {r : RowM} (h : RowAt w P b o r) (hP : ∀ b, P b → P' b) (hk : ∀ b k, P b → w'.cell? ⟨b, k, none⟩ = w.cell? ⟨b, k, none⟩) (hb : ∀ k, o ≤ k → k < o + 5 → w'.cell? ⟨b, k, none⟩ = w.cell? ⟨b, k, none⟩) : RowAt w' P' b o r := by
  obtain ⟨A, c, h4, hc, hr⟩ := h.cr
  exact ⟨(hb o (by omega) (by omega)).trans h.ck, (hb _ (by omega) (by omega)).trans h.cs, (hb _ (by omega) (by omega)).trans h.cp, (hb _ (by omega) (by omega)).trans h.cv, ⟨A, c, (hb _ (by omega) (by omega)).trans h4, hc, hr.mono hP hk⟩, h.ok⟩
/-- A row that lies in memory is a row that comes to a function. -/
theorem RowAt.rowIn {w : World} {P : Nat → Prop} {b o : Nat} {r : RowM} (h : RowAt w P b o r) (hP : ∀ b, P b → b < w.heap.size) : ∃ A c, w.cell? ⟨b, o + 4, none⟩ = some (.slice A r.recs.length c) ∧ r.recs.length ≤ c ∧ RowIn w r.key r.lp r.val A r.recs.length r.recs := by
  obtain ⟨A, c, h4, hc, hr⟩ := h.cr
  exact ⟨A, c, h4, hc, rfl, hr.recs hP, h.ok.k, h.ok.p, h.ok.v⟩

/-- The two cells of a write. -/
structure WrAt (w : World) (b o : Nat) (x : WrM) : Prop where
  k : w.cell? ⟨b, o, none⟩ = some (.string x.k)
  v : w.cell? ⟨b, o + 1, none⟩ = some (.string x.v)
  ok : x.k.size ≤ maxLen ∧ x.v.size ≤ maxLen
theorem WrAt.keep {w w' : World} {b o : Nat} {x : WrM} (h : WrAt w b o x) (hk : ∀ k, w'.cell? ⟨b, k, none⟩ = w.cell? ⟨b, k, none⟩) : WrAt w' b o x := ⟨(hk _).trans h.k, (hk _).trans h.v, h.ok⟩
/-- The writes of a client. -/
abbrev WrsAt (w : World) (P : Nat → Prop) (A : Option Addr) (l : List WrM) : Prop := SeqAt P 2 4398046511104 (WrAt w) A l
theorem SeqAt.wrs {w w' : World} {P P' : Nat → Prop} {A : Option Addr} {l : List WrM} (h : WrsAt w P A l) (hP : ∀ b, P b → P' b) (hk : ∀ b k, P b → w'.cell? ⟨b, k, none⟩ = w.cell? ⟨b, k, none⟩) : WrsAt w' P' A l :=
  SeqAt.mono h hP fun b _ _ _ hb hx => hx.keep fun k => hk b k hb

/-- A client's numbers. -/
structure ClOk (c : ClM) : Prop where
  p : i64 c.ph
  s : i64 c.st
  m : i64 c.cm
  a : i64 c.at_
/-- The five cells of a client, and its writes. -/
structure ClAt (w : World) (P : Nat → Prop) (b o : Nat) (c : ClM) : Prop where
  cp : w.cell? ⟨b, o, none⟩ = some (.int .i64 c.ph)
  cs : w.cell? ⟨b, o + 1, none⟩ = some (.int .i64 c.st)
  cm : w.cell? ⟨b, o + 2, none⟩ = some (.int .i64 c.cm)
  cw : ∃ A k, w.cell? ⟨b, o + 3, none⟩ = some (.slice A c.ws.length k) ∧ c.ws.length ≤ k ∧ WrsAt w P A c.ws
  ca : w.cell? ⟨b, o + 4, none⟩ = some (.int .i64 c.at_)
  ok : ClOk c
theorem ClAt.mono {w w' : World} {P P' : Nat → Prop} {b o : Nat} {c : ClM} (h : ClAt w P b o c) (hP : ∀ b, P b → P' b) (hk : ∀ b k, P b → w'.cell? ⟨b, k, none⟩ = w.cell? ⟨b, k, none⟩) (hb : ∀ k, o ≤ k → k < o + 5 → w'.cell? ⟨b, k, none⟩ = w.cell? ⟨b, k, none⟩) : ClAt w' P' b o c := by
  obtain ⟨A, q, h4, hc, hr⟩ := h.cw
  exact ⟨(hb o (by omega) (by omega)).trans h.cp, (hb _ (by omega) (by omega)).trans h.cs, (hb _ (by omega) (by omega)).trans h.cm, ⟨A, q, (hb _ (by omega) (by omega)).trans h4, hc, SeqAt.wrs hr hP hk⟩, (hb _ (by omega) (by omega)).trans h.ca, h.ok⟩

/-- The rows of a world. -/
abbrev RowsAt (w : World) (P : Nat → Prop) (A : Option Addr) (l : List RowM) : Prop := SeqAt P 5 1759218604441 (RowAt w P) A l
/-- The clients of a world. -/
abbrev ClsAt (w : World) (P : Nat → Prop) (A : Option Addr) (l : List ClM) : Prop := SeqAt P 5 2513169434917 (ClAt w P) A l
theorem SeqAt.rows {w w' : World} {P P' : Nat → Prop} {A : Option Addr} {l : List RowM} (h : RowsAt w P A l) (hP : ∀ b, P b → P' b) (hk : ∀ b k, P b → w'.cell? ⟨b, k, none⟩ = w.cell? ⟨b, k, none⟩) : RowsAt w' P' A l :=
  SeqAt.mono h hP fun b _ _ _ hb hx => hx.mono hP hk fun k _ _ => hk b k hb
theorem SeqAt.cls {w w' : World} {P P' : Nat → Prop} {A : Option Addr} {l : List ClM} (h : ClsAt w P A l) (hP : ∀ b, P b → P' b) (hk : ∀ b k, P b → w'.cell? ⟨b, k, none⟩ = w.cell? ⟨b, k, none⟩) : ClsAt w' P' A l :=
  SeqAt.mono h hP fun b _ _ _ hb hx => hx.mono hP hk fun k _ _ => hk b k hb

/-- A world's value. -/
abbrev woV (RA : Option Addr) (n rc : Nat) (k : Int) (CA : Option Addr) (m cc : Nat) : Value := .agg #[.slice RA n rc, .int .i64 k, .slice CA m cc]
/-- A world as it comes to a function. -/
structure WoIn (w : World) (RA : Option Addr) (n rc : Nat) (CA : Option Addr) (m cc : Nat) (wo : WoM) : Prop where
  hn : n = wo.rows.length
  hrc : n ≤ rc
  rows : RowsAt w (· < w.heap.size) RA wo.rows
  hm : m = wo.cls.length
  hcc : m ≤ cc
  cls : ClsAt w (· < w.heap.size) CA wo.cls
  ck : i64 wo.clock
theorem WoIn.upto {w W : World} {RA CA : Option Addr} {n rc m cc : Nat} {wo : WoM} (h : WoIn w RA n rc CA m cc wo) (hb : Below w.heap.size w W) : WoIn W RA n rc CA m cc wo :=
  ⟨h.hn, h.hrc, h.rows.rows (fun _ hp => Nat.lt_of_lt_of_le hp hb.size) (fun _ _ hp => hb.cell (p := ⟨_, _, none⟩) hp), h.hm, h.hcc, h.cls.cls (fun _ hp => Nat.lt_of_lt_of_le hp hb.size) (fun _ _ hp => hb.cell (p := ⟨_, _, none⟩) hp), h.ck⟩
theorem below_mem {w W : World} (hb : Below w.heap.size w W) : (∀ b, b < w.heap.size → b < W.heap.size) ∧ ∀ b k, b < w.heap.size → W.cell? ⟨b, k, none⟩ = w.cell? ⟨b, k, none⟩ :=
  ⟨fun _ hp => Nat.lt_of_lt_of_le hp hb.size, fun _ _ hp => hb.cell (p := ⟨_, _, none⟩) hp⟩
end Go.Proofs.YtambkjnhfejfaacGreatDoor

namespace Go.Proofs.YtambkjnhfejfaacGreatDoor
open Go.RowKit

/-- Two memories that differ only where S says so. -/
structure Same (W W' : World) (S : Addr → Prop) : Prop where
  cell : ∀ p, ¬ S p → W'.cell? p = W.cell? p
  fr : ∀ p, W'.frozen? p = W.frozen? p
  sz : W'.heap.size = W.heap.size
theorem Same.refl (W : World) (S : Addr → Prop) : Same W W S := ⟨fun _ _ => rfl, fun _ => rfl, rfl⟩
theorem Same.set {W W' : World} {S : Addr → Prop} (h : Same W W' S) {p : Addr} (hp : S p) (u : Value) : Same W (W'.setCell p u) S :=
  ⟨fun q hq => (World.cell?_setCell_other W' p q u (fun e => hq (e ▸ hp))).trans (h.cell q hq), fun q => (by rw [World.frozen?_setCell]; exact h.fr q), (by simp [World.setCell]; exact h.sz)⟩
theorem Same.drewN {W W' : World} {S : Addr → Prop} (h : Same W W' S) (n : Nat) : Same W (W'.drewN n) S := ⟨h.cell, h.fr, h.sz⟩

/-- Five cells stored one behind the other. -/
abbrev set5 (W : World) (g o : Nat) (v0 v1 v2 v3 v4 : Value) : World :=
  ((((W.setCell ⟨g, o, none⟩ v0).setCell ⟨g, o + 1, none⟩ v1).setCell ⟨g, o + 2, none⟩ v2).setCell ⟨g, o + 3, none⟩ v3).setCell ⟨g, o + 4, none⟩ v4
/-- The places of five cells. -/
def five (g o : Nat) (p : Addr) : Prop := p.block = g ∧ o ≤ p.off ∧ p.off < o + 5
theorem set5_same (W : World) (g o : Nat) (v0 v1 v2 v3 v4 : Value) : Same W (set5 W g o v0 v1 v2 v3 v4) (five g o) :=
  ((((((Same.refl W _).set ⟨rfl, Nat.le_refl _, by show o < o + 5; omega⟩ _).set ⟨rfl, by show o ≤ o + 1; omega, by show o + 1 < o + 5; omega⟩ _).set ⟨rfl, by show o ≤ o + 2; omega, by show o + 2 < o + 5; omega⟩ _).set ⟨rfl, by show o ≤ o + 3; omega, by show o + 3 < o + 5; omega⟩ _).set ⟨rfl, by show o ≤ o + 4; omega, by show o + 4 < o + 5; omega⟩ _)
theorem set5_at {W : World} {g o : Nat} {u0 u1 u2 u3 u4 : Value} (h0 : W.cell? ⟨g, o, none⟩ = some u0) (h1 : W.cell? ⟨g, o + 1, none⟩ = some u1) (h2 : W.cell? ⟨g, o + 2, none⟩ = some u2) (h3 : W.cell? ⟨g, o + 3, none⟩ = some u3) (h4 : W.cell? ⟨g, o + 4, none⟩ = some u4) (v0 v1 v2 v3 v4 : Value) :
    (set5 W g o v0 v1 v2 v3 v4).cell? ⟨g, o, none⟩ = some v0 ∧ (set5 W g o v0 v1 v2 v3 v4).cell? ⟨g, o + 1, none⟩ = some v1 ∧ (set5 W g o v0 v1 v2 v3 v4).cell? ⟨g, o + 2, none⟩ = some v2 ∧ (set5 W g o v0 v1 v2 v3 v4).cell? ⟨g, o + 3, none⟩ = some v3 ∧ (set5 W g o v0 v1 v2 v3 v4).cell? ⟨g, o + 4, none⟩ = some v4 := by
  have ne : ∀ i j : Nat, i ≠ j → (⟨g, o + i, none⟩ : Addr) ≠ ⟨g, o + j, none⟩ := fun i j h e => h (by injection e with _ e; omega)
  have ne0 : ∀ j : Nat, j ≠ 0 → (⟨g, o + j, none⟩ : Addr) ≠ ⟨g, o, none⟩ := fun j h e => h (by injection e with _ e; omega)
  have ne0' : ∀ j : Nat, j ≠ 0 → (⟨g, o, none⟩ : Addr) ≠ ⟨g, o + j, none⟩ := fun j h e => h (by injection e with _ e; omega)
  refine ⟨?_, ?_, ?_, ?_, ?_⟩
  · rw [World.cell?_setCell_other _ _ _ _ (ne0 4 (by decide)), World.cell?_setCell_other _ _ _ _ (ne0 3 (by decide)), World.cell?_setCell_other _ _ _ _ (ne0 2 (by decide)), World.cell?_setCell_other _ _ _ _ (ne0 1 (by decide))]
    exact World.cell?_setCell_same _ _ _ h0
  · rw [World.cell?_setCell_other _ _ _ _ (ne 4 1 (by decide)), World.cell?_setCell_other _ _ _ _ (ne 3 1 (by decide)), World.cell?_setCell_other _ _ _ _ (ne 2 1 (by decide))]
    exact World.cell?_setCell_same _ _ _ (u := u1) (by rw [World.cell?_setCell_other _ _ _ _ (ne0' 1 (by decide))]; exact h1)
  · rw [World.cell?_setCell_other _ _ _ _ (ne 4 2 (by decide)), World.cell?_setCell_other _ _ _ _ (ne 3 2 (by decide))]
    exact World.cell?_setCell_same _ _ _ (u := u2) (by rw [World.cell?_setCell_other _ _ _ _ (ne 1 2 (by decide)), World.cell?_setCell_other _ _ _ _ (ne0' 2 (by decide))]; exact h2)
  · rw [World.cell?_setCell_other _ _ _ _ (ne 4 3 (by decide))]
    exact World.cell?_setCell_same _ _ _ (u := u3) (by rw [World.cell?_setCell_other _ _ _ _ (ne 2 3 (by decide)), World.cell?_setCell_other _ _ _ _ (ne 1 3 (by decide)), World.cell?_setCell_other _ _ _ _ (ne0' 3 (by decide))]; exact h3)
  · exact World.cell?_setCell_same _ _ _ (u := u4) (by rw [World.cell?_setCell_other _ _ _ _ (ne 3 4 (by decide)), World.cell?_setCell_other _ _ _ _ (ne 2 4 (by decide)), World.cell?_setCell_other _ _ _ _ (ne 1 4 (by decide)), World.cell?_setCell_other _ _ _ _ (ne0' 4 (by decide))]; exact h4)
theorem below_set5 {w W : World} {B : Nat} (h : Below B w W) {g : Nat} (hg : B ≤ g) (o : Nat) (v0 v1 v2 v3 v4 : Value) : Below B w (set5 W g o v0 v1 v2 v3 v4) :=
  ((((h.setCell hg _).setCell hg _).setCell hg _).setCell hg _).setCell hg _

theorem set5_heap (W : World) (g o : Nat) (v0 v1 v2 v3 v4 : Value) {k : Nat} (h : k ≠ g) : (set5 W g o v0 v1 v2 v3 v4).heap[k]? = W.heap[k]? := by
  rw [Below.heap_setCell _ _ _ _ h, Below.heap_setCell _ _ _ _ h, Below.heap_setCell _ _ _ _ h, Below.heap_setCell _ _ _ _ h, Below.heap_setCell _ _ _ _ h]
/-- Three cells stored one behind the other. -/
abbrev set3 (W : World) (g : Nat) (v0 v1 v2 : Value) : World := ((W.setCell ⟨g, 0, none⟩ v0).setCell ⟨g, 1, none⟩ v1).setCell ⟨g, 2, none⟩ v2
theorem set3_same (W : World) (g : Nat) (v0 v1 v2 : Value) : Same W (set3 W g v0 v1 v2) (fun p => p.block = g) := by
  refine Same.set (Same.set (Same.set (Same.refl W _) ?_ _) ?_ _) ?_ _ <;> rfl
theorem set3_heap (W : World) (g : Nat) (v0 v1 v2 : Value) {k : Nat} (h : k ≠ g) : (set3 W g v0 v1 v2).heap[k]? = W.heap[k]? := by
  rw [Below.heap_setCell _ _ _ _ h, Below.heap_setCell _ _ _ _ h, Below.heap_setCell _ _ _ _ h]

/-- The blocks in which the records of an owned world may lie. -/
def OwnP (s : Nat) (X : Nat → Prop) (bR bC : Nat) (wb : Nat → Nat) (m b : Nat) : Prop := b < s ∧ ¬ X b ∧ b ≠ bR ∧ b ≠ bC ∧ ∀ i, i < m → b ≠ wb i
/-- A world of the call's own: rows in block bR, clients in block bC, the writes of client i in block wb i, all of them B or later; X: what is none of them. -/
structure Core (w : World) (B : Nat) (X : Nat → Prop) (bR bC : Nat) (wb : Nat → Nat) (wo : WoM) : Prop where
  rB : B ≤ bR ∧ bR < w.heap.size ∧ ¬ X bR
  cB : B ≤ bC ∧ bC < w.heap.size ∧ ¬ X bC
  ne : bR ≠ bC
  wB : ∀ i, i < wo.cls.length → B ≤ wb i ∧ wb i < w.heap.size ∧ ¬ X (wb i) ∧ wb i ≠ bR ∧ wb i ≠ bC
  inj : ∀ i j, i < wo.cls.length → j < wo.cls.length → wb i = wb j → i = j
  rf : ∀ o, w.frozen? ⟨bR, o, none⟩ = false
  cf : ∀ o, w.frozen? ⟨bC, o, none⟩ = false
  wf : ∀ i o, i < wo.cls.length → w.frozen? ⟨wb i, o, none⟩ = false
  rows : ∀ i r, wo.rows[i]? = some r → RowAt w (OwnP w.heap.size X bR bC wb wo.cls.length) bR (i * 5) r
  cls : ∀ i c, wo.cls[i]? = some c → ClAt w (· = wb i) bC (i * 5) c
  rl : wo.rows.length ≤ 1759218604441
  cl : wo.cls.length ≤ 2513169434917
  ck : i64 wo.clock

section
variable {w w' : World} {B : Nat} {X X' : Nat → Prop} {bR bC : Nat} {wb : Nat → Nat} {wo : WoM}
/-- Behind new memory. -/
theorem Core.upto (h : Core w B X bR bC wb wo) (hb : Below w.heap.size w w') (hX : ∀ b, b < w.heap.size → ¬ X b → ¬ X' b) : Core w' B X' bR bC wb wo := by
  obtain ⟨h1, h2⟩ := below_mem hb
  have hf : ∀ b o, b < w.heap.size → w'.frozen? ⟨b, o, none⟩ = w.frozen? ⟨b, o, none⟩ := (bcell hb).2
  refine ⟨⟨h.rB.1, h1 _ h.rB.2.1, hX _ h.rB.2.1 h.rB.2.2⟩, ⟨h.cB.1, h1 _ h.cB.2.1, hX _ h.cB.2.1 h.cB.2.2⟩, h.ne, fun i hi => ?_, h.inj, fun o => (hf _ o h.rB.2.1).trans (h.rf o), fun o => (hf _ o h.cB.2.1).trans (h.cf o), fun i o hi => (hf _ o (h.wB i hi).2.1).trans (h.wf i o hi), fun i r hr => ?_, fun i c hc => ?_, h.rl, h.cl, h.ck⟩
  · obtain ⟨a, b, c, d⟩ := h.wB i hi
    exact ⟨a, h1 _ b, hX _ b c, d⟩
  · exact (h.rows i r hr).mono (fun b hb => ⟨h1 _ hb.1, hX _ hb.1 hb.2.1, hb.2.2⟩) (fun b k hb => h2 b k hb.1) (fun k _ _ => h2 _ k h.rB.2.1)
  · have hi := (List.getElem?_eq_some_iff.1 hc).1
    exact (h.cls i c hc).mono (fun b hb => hb) (fun b k hb => h2 b k (by rw [hb]; exact (h.wB i hi).2.1)) (fun k _ _ => h2 _ k h.cB.2.1)
/-- An owned world is one that comes to a function. -/
theorem Core.in_ (h : Core w B X bR bC wb wo) {rc cc : Nat} (hr : wo.rows.length ≤ rc) (hc : wo.cls.length ≤ cc) : WoIn w (some ⟨bR, 0, none⟩) wo.rows.length rc (some ⟨bC, 0, none⟩) wo.cls.length cc wo :=
  ⟨rfl, hr, SeqAt.block h.rl h.rB.2.1 fun i r hr => (h.rows i r hr).mono (fun _ hb => hb.1) (fun _ _ _ => rfl) (fun _ _ _ => rfl), rfl, hc,
    SeqAt.block h.cl h.cB.2.1 fun i c hc => (h.cls i c hc).mono (fun _ hb => by rw [hb]; exact (h.wB i (List.getElem?_eq_some_iff.1 hc).1).2.1) (fun _ _ _ => rfl) (fun _ _ _ => rfl), h.ck⟩
/-- The clock is another. -/
theorem Core.tick (h : Core w B X bR bC wb wo) {S : Addr → Prop} (hs : Same w w' S) (hS : ∀ p, S p → X p.block) (k : Int) (hk : i64 k) : Core w' B X bR bC wb { wo with clock := k } := by
  have hc : ∀ b o, ¬ X b → w'.cell? ⟨b, o, none⟩ = w.cell? ⟨b, o, none⟩ := fun b o hb => hs.cell _ fun e => hb (hS _ e)
  refine ⟨⟨h.rB.1, by rw [hs.sz]; exact h.rB.2.1, h.rB.2.2⟩, ⟨h.cB.1, by rw [hs.sz]; exact h.cB.2.1, h.cB.2.2⟩, h.ne, fun i hi => by rw [hs.sz]; exact h.wB i hi, h.inj, fun o => (hs.fr _).trans (h.rf o), fun o => (hs.fr _).trans (h.cf o), fun i o hi => (hs.fr _).trans (h.wf i o hi), fun i r hr => ?_, fun i c hc' => ?_, h.rl, h.cl, hk⟩
  · rw [hs.sz]
    exact (h.rows i r hr).mono (fun b hb => hb) (fun b k hb => hc b k hb.2.1) (fun k _ _ => hc _ k h.rB.2.2)
  · have hi := (List.getElem?_eq_some_iff.1 hc').1
    exact (h.cls i c hc').mono (fun b hb => hb) (fun b k hb => hc b k (by rw [hb]; exact (h.wB i hi).2.2.1)) (fun k _ _ => hc _ k h.cB.2.2)
/-- One client is another; its writes lie where they lay, or there are none. -/
theorem Core.client (h : Core w B X bR bC wb wo) {C : Nat} {c : ClM} (hC : C < wo.cls.length) (hs : Same w w' (five bC (C * 5))) (hc : ClAt w' (· = wb C) bC (C * 5) c) : Core w' B X bR bC wb { wo with cls := wo.cls.set C c } := by
  have hb : ∀ b o, b ≠ bC → w'.cell? ⟨b, o, none⟩ = w.cell? ⟨b, o, none⟩ := fun b o hb => hs.cell _ fun e => hb e.1
  refine ⟨⟨h.rB.1, by rw [hs.sz]; exact h.rB.2.1, h.rB.2.2⟩, ⟨h.cB.1, by rw [hs.sz]; exact h.cB.2.1, h.cB.2.2⟩, h.ne, fun i hi => by rw [hs.sz]; exact h.wB i (by simpa using hi), fun i j hi hj => h.inj i j (by simpa using hi) (by simpa using hj), fun o => (hs.fr _).trans (h.rf o), fun o => (hs.fr _).trans (h.cf o), fun i o hi => (hs.fr _).trans (h.wf i o (by simpa using hi)), fun i r hr => ?_, fun i x hx => ?_, h.rl, by simpa using h.cl, h.ck⟩
  · rw [hs.sz, List.length_set]
    exact (h.rows i r hr).mono (fun b hb => hb) (fun b k hp => hb b k hp.2.2.2.1) (fun k _ _ => hb _ k h.ne)
  · rw [List.getElem?_set] at hx
    by_cases e : C = i
    · subst e
      rw [if_pos rfl, if_pos hC] at hx
      injection hx with hx
      subst hx
      exact hc
    · rw [if_neg e] at hx
      have hi := (List.getElem?_eq_some_iff.1 hx).1
      exact (h.cls i x hx).mono (fun b hb => hb) (fun b k hp => hb b k (by rw [hp]; exact (h.wB i hi).2.2.2.2)) (fun k h1 h2 => hs.cell _ fun e' => by
        have h3 : C * 5 ≤ k := e'.2.1
        have h4 : k < C * 5 + 5 := e'.2.2
        omega)
/-- One client has other writes, in a block of their own; its cells and those of that block may have turned. -/
theorem Core.writes (h : Core w B X bR bC wb wo) {C g : Nat} {c : ClM} (hC : C < wo.cls.length) (hk : ∀ b o, b < w.heap.size → b ≠ bC → b ≠ wb C → w'.cell? ⟨b, o, none⟩ = w.cell? ⟨b, o, none⟩) (hk' : ∀ o, ¬ (C * 5 ≤ o ∧ o < C * 5 + 5) → w'.cell? ⟨bC, o, none⟩ = w.cell? ⟨bC, o, none⟩)
    (hfr : ∀ b o, b < w.heap.size → w'.frozen? ⟨b, o, none⟩ = w.frozen? ⟨b, o, none⟩) (hsz : w.heap.size ≤ w'.heap.size) (hX : ∀ b, X b → b < w.heap.size) (hg : g = wb C ∨ w.heap.size ≤ g) (hg' : g < w'.heap.size) (hgf : ∀ o, w'.frozen? ⟨g, o, none⟩ = false) (hBg : B ≤ w.heap.size) (hc : ClAt w' (· = g) bC (C * 5) c) :
    Core w' B X bR bC (fun i => if i = C then g else wb i) { wo with cls := wo.cls.set C c } := by
  have old : ∀ i, i < wo.cls.length → i ≠ C → wb i < w.heap.size ∧ wb i ≠ bC ∧ wb i ≠ wb C := fun i hi e => ⟨(h.wB i hi).2.1, (h.wB i hi).2.2.2.2, fun e' => e (h.inj i C hi hC e')⟩
  have gX : ¬ X g := by
    rcases hg with rfl | hg
    · exact (h.wB C hC).2.2.1
    · intro e; have := hX g e; omega
  have gR : g ≠ bR ∧ g ≠ bC := by
    rcases hg with rfl | hg
    · exact ⟨(h.wB C hC).2.2.2.1, (h.wB C hC).2.2.2.2⟩
    · have := h.rB.2.1; have := h.cB.2.1; omega
  refine ⟨⟨h.rB.1, Nat.lt_of_lt_of_le h.rB.2.1 hsz, h.rB.2.2⟩, ⟨h.cB.1, Nat.lt_of_lt_of_le h.cB.2.1 hsz, h.cB.2.2⟩, h.ne, fun i hi => ?_, fun i j hi hj => ?_, fun o => (hfr _ o h.rB.2.1).trans (h.rf o), fun o => (hfr _ o h.cB.2.1).trans (h.cf o), fun i o hi => ?_, fun i r hr => ?_, fun i x hx => ?_, h.rl, by simpa using h.cl, h.ck⟩
  · have hi' : i < wo.cls.length := by simpa using hi
    by_cases e : i = C
    · simp only [e, if_true]
      refine ⟨?_, hg', gX, gR⟩
      rcases hg with rfl | hg
      · exact (h.wB C hC).1
      · omega
    · simp only [e, if_false]
      obtain ⟨a, b, c, d⟩ := h.wB i hi'
      exact ⟨a, Nat.lt_of_lt_of_le b hsz, c, d⟩
  · have hi' : i < wo.cls.length := by simpa using hi
    have hj' : j < wo.cls.length := by simpa using hj
    by_cases e : i = C <;> by_cases e' : j = C
    · intro _; rw [e, e']
    · simp only [e, e', if_true, if_false]
      intro h'
      obtain ⟨o1, _, o3⟩ := old j hj' e'
      rcases hg with rfl | hg
      · exact absurd h'.symm o3
      · omega
    · simp only [e, e', if_true, if_false]
      intro h'
      obtain ⟨o1, _, o3⟩ := old i hi' e
      rcases hg with rfl | hg
      · exact absurd h' o3
      · omega
    · simp only [e, e', if_false]
      exact h.inj i j hi' hj'
  · have hi' : i < wo.cls.length := by simpa using hi
    by_cases e : i = C
    · simp only [e, if_true]; exact hgf o
    · simp only [e, if_false]; exact (hfr _ o (h.wB i hi').2.1).trans (h.wf i o hi')
  · rw [List.length_set]
    refine (h.rows i r hr).mono (fun b hb => ⟨Nat.lt_of_lt_of_le hb.1 hsz, hb.2.1, hb.2.2.1, hb.2.2.2.1, fun j hj => ?_⟩) (fun b k hp => hk b k hp.1 hp.2.2.2.1 (hp.2.2.2.2 C hC)) (fun k _ _ => hk _ k h.rB.2.1 h.ne (fun e => (h.wB C hC).2.2.2.1 e.symm))
    by_cases e : j = C
    · simp only [e, if_true]
      rcases hg with rfl | hg
      · exact hb.2.2.2.2 C hC
      · have := hb.1; omega
    · simp only [e, if_false]; exact hb.2.2.2.2 j hj
  · rw [List.getElem?_set] at hx
    by_cases e : C = i
    · subst e
      rw [if_pos rfl, if_pos hC] at hx
      injection hx with hx
      subst hx
      simpa using hc
    · rw [if_neg e] at hx
      have hi := (List.getElem?_eq_some_iff.1 hx).1
      obtain ⟨o1, o2, o3⟩ := old i hi (fun e' => e e'.symm)
      have e' : ¬ i = C := fun e' => e e'.symm
      simp only [e', if_false]
      exact (h.cls i x hx).mono (fun b hb => hb) (fun b k hp => hk b k (by rw [hp]; exact o1) (by rw [hp]; exact o2) (by rw [hp]; exact o3)) (fun k h1 h2 => hk' _ fun e'' => by omega)
/-- One row is another; its records lie in new memory. -/
theorem Core.row (h : Core w B X bR bC wb wo) {i : Nat} {r : RowM} (hi : i < wo.rows.length) (hs : Same w w' (five bR (i * 5))) (hr : RowAt w' (OwnP w.heap.size X bR bC wb wo.cls.length) bR (i * 5) r) : Core w' B X bR bC wb { wo with rows := wo.rows.set i r } := by
  have hb : ∀ b o, b ≠ bR → w'.cell? ⟨b, o, none⟩ = w.cell? ⟨b, o, none⟩ := fun b o hb => hs.cell _ fun e => hb e.1
  refine ⟨⟨h.rB.1, by rw [hs.sz]; exact h.rB.2.1, h.rB.2.2⟩, ⟨h.cB.1, by rw [hs.sz]; exact h.cB.2.1, h.cB.2.2⟩, h.ne, fun j hj => by rw [hs.sz]; exact h.wB j hj, h.inj, fun o => (hs.fr _).trans (h.rf o), fun o => (hs.fr _).trans (h.cf o), fun j o hj => (hs.fr _).trans (h.wf j o hj), fun j x hx => ?_, fun j c hc => ?_, by simpa using h.rl, h.cl, h.ck⟩
  · rw [hs.sz]
    rw [List.getElem?_set] at hx
    by_cases e : i = j
    · subst e
      rw [if_pos rfl, if_pos hi] at hx
      injection hx with hx
      subst hx
      exact hr
    · rw [if_neg e] at hx
      exact (h.rows j x hx).mono (fun b hb => hb) (fun b k hp => hb b k hp.2.2.1) (fun k h1 h2 => hs.cell _ fun e' => by
        have h3 : i * 5 ≤ k := e'.2.1
        have h4 : k < i * 5 + 5 := e'.2.2
        omega)
  · have hj := (List.getElem?_eq_some_iff.1 hc).1
    exact (h.cls j c hc).mono (fun b hb => hb) (fun b k hp => hb b k (by rw [hp]; exact (h.wB j hj).2.2.2.1)) (fun k _ _ => hb _ k (fun e => h.ne e.symm))
end

/-- An owned world in its box: block bx; t: its rows fill their block; Z: blocks that it is apart from. -/
structure Own (w : World) (t : Bool) (Z : Nat → Prop) (B bx bC : Nat) (wo : WoM) : Prop where
  xB : B ≤ bx ∧ bx < w.heap.size
  xZ : ¬ Z bx
  zlt : ∀ b, Z b → b < w.heap.size
  xf : ∀ o, w.frozen? ⟨bx, o, none⟩ = false
  x1 : w.cell? ⟨bx, 1, none⟩ = some (.int .i64 wo.clock)
  x2 : w.cell? ⟨bx, 2, none⟩ = some (.slice (some ⟨bC, 0, none⟩) wo.cls.length wo.cls.length)
  core : ∃ bR rc wb, w.cell? ⟨bx, 0, none⟩ = some (.slice (some ⟨bR, 0, none⟩) wo.rows.length rc) ∧ wo.rows.length ≤ rc ∧ (t = true → rc = wo.rows.length) ∧ Core w B (fun b => b = bx ∨ Z b) bR bC wb wo
theorem Own.turn {w w' : World} {t : Bool} {Z Z' : Nat → Prop} {B bx bC : Nat} {wo : WoM} (h : Own w t Z B bx bC wo) (hb : Below w.heap.size w w') (hz : ∀ b, b < w.heap.size → Z' b → Z b) (hz' : ∀ b, Z' b → b < w'.heap.size) : Own w' t Z' B bx bC wo := by
  obtain ⟨bR, rc, wb, c0, hrc, ht, hco⟩ := h.core
  obtain ⟨h1, h2⟩ := below_mem hb
  exact ⟨⟨h.xB.1, h1 _ h.xB.2⟩, fun e => h.xZ (hz _ h.xB.2 e), hz', fun o => ((bcell hb).2 _ o h.xB.2).trans (h.xf o), (h2 _ _ h.xB.2).trans h.x1, (h2 _ _ h.xB.2).trans h.x2, bR, rc, wb, (h2 _ _ h.xB.2).trans c0, hrc, ht, hco.upto hb fun b hlt h e => h (e.imp id (hz b hlt))⟩
theorem Own.upto {w w' : World} {t : Bool} {Z : Nat → Prop} {B bx bC : Nat} {wo : WoM} (h : Own w t Z B bx bC wo) (hb : Below w.heap.size w w') : Own w' t Z B bx bC wo :=
  h.turn hb (fun _ _ e => e) (fun b e => Nat.lt_of_lt_of_le (h.zlt b e) hb.size)
/-- A new block is apart. -/
theorem Own.more {w w' : World} {t : Bool} {Z : Nat → Prop} {B bx bC : Nat} {wo : WoM} (h : Own w t Z B bx bC wo) (hb : Below w.heap.size w w') {g : Nat} (hg : w.heap.size ≤ g) (hg' : g < w'.heap.size) : Own w' t (fun b => Z b ∨ b = g) B bx bC wo :=
  h.turn hb (fun b hlt e => e.elim id fun e => by omega) (fun b e => e.elim (fun e => Nat.lt_of_lt_of_le (h.zlt b e) hb.size) fun e => by omega)
theorem Own.less {w : World} {t : Bool} {Z Z' : Nat → Prop} {B bx bC : Nat} {wo : WoM} (h : Own w t Z B bx bC wo) (hz : ∀ b, Z' b → Z b) : Own w t Z' B bx bC wo :=
  h.turn (Below.refl _ _) (fun b _ e => hz b e) (fun b e => h.zlt b (hz b e))

/-- What is below B, and what lies in Z, is as it was. -/
structure Keeps (B : Nat) (Z : Nat → Prop) (w w' : World) : Prop where
  bel : Below B w w'
  z : ∀ b, b < w.heap.size → Z b → w'.heap[b]? = w.heap[b]?
section
variable {B : Nat} {Z Z' : Nat → Prop} {w w' w'' : World}
theorem Keeps.refl (B : Nat) (Z : Nat → Prop) (w : World) : Keeps B Z w w := ⟨Below.refl _ _, fun _ _ _ => rfl⟩
theorem Keeps.trans (h : Keeps B Z w w') (h' : Keeps B Z w' w'') : Keeps B Z w w'' := ⟨h.bel.trans h'.bel, fun b hb hz => (h'.z b (Nat.lt_of_lt_of_le hb h.bel.size) hz).trans (h.z b hb hz)⟩
theorem Keeps.new (hB : B ≤ w.heap.size) (h : Below w.heap.size w w') : Keeps B Z w w' := ⟨h.mono hB, fun b hb _ => h.block b hb⟩
theorem Keeps.less (h : Keeps B Z w w') (hz : ∀ b, Z' b → Z b) : Keeps B Z' w w' := ⟨h.bel, fun b hb e => h.z b hb (hz b e)⟩
theorem Keeps.next (h : Keeps B Z w w') (h' : Below w'.heap.size w' w'') (hB : B ≤ w.heap.size) : Keeps B Z w w'' := h.trans (Keeps.new (Nat.le_trans hB h.bel.size) h')
theorem Keeps.set (h : Keeps B Z w w') {p : Addr} (hp : B ≤ p.block) (hz : ¬ Z p.block) (u : Value) : Keeps B Z w (w'.setCell p u) :=
  ⟨h.bel.setCell hp u, fun b hb e => (Below.heap_setCell _ _ _ _ (fun e' => hz (e' ▸ e))).trans (h.z b hb e)⟩
theorem Keeps.set5 (h : Keeps B Z w w') {g : Nat} (hp : B ≤ g) (hz : ¬ Z g) (o : Nat) (v0 v1 v2 v3 v4 : Value) : Keeps B Z w (set5 w' g o v0 v1 v2 v3 v4) :=
  ((((h.set hp hz _).set hp hz _).set hp hz _).set hp hz _).set hp hz _
theorem Keeps.cell (h : Keeps B Z w w') {b : Nat} (hb : b < w.heap.size) (hz : Z b) (o : Nat) : w'.cell? ⟨b, o, none⟩ = w.cell? ⟨b, o, none⟩ := World.cell?_of_block (w := w) (a := ⟨b, o, none⟩) (h.z b hb hz)
theorem Keeps.frozen (h : Keeps B Z w w') {b : Nat} (hb : b < w.heap.size) (hz : Z b) (o : Nat) : w'.frozen? ⟨b, o, none⟩ = w.frozen? ⟨b, o, none⟩ := World.frozen?_of_block (w := w) (a := ⟨b, o, none⟩) (h.z b hb hz)
end
end Go.Proofs.YtambkjnhfejfaacGreatDoor

namespace Go.Proofs.YtambkjnhfejfaacGreatDoor
open Go.RowKit

set_option maxHeartbeats 400000 in
theorem key_any (s : ByteArray) (w : World) (hs : s.size ≤ maxLen) :
    Calls Tryz.prog 50 #[.string s] w fun e w' => e = .returned (.bool (keyB s)) ∧ w = w' := by
  unfold maxLen at hs
  by_cases h1 : 1 ≤ s.size
  · by_cases h2 : s.size ≤ 6
    · have g1 : ¬ s.size < 1 := by omega
      have g2 : ¬ 6 < s.size := by omega
      go_enter Tryz.func50, Tryz.ntmps50
      go_wp2
      go_loop [3] (fun i => ∃ k : Nat, k ≤ s.size ∧ i = .int .i64 k ∧ letters (s.data.toList.take k) = true) (fun i => s.size - (intOf i).toNat)
      case atStart => exact ⟨0, Nat.zero_le _, rfl, rfl⟩
      case round =>
        obtain ⟨k, hk, rfl, hl⟩ := hrel
        have HL := Lib.hid hl
        clear hl
        by_cases hlt : k < s.size
        · by_cases c1 : 97 ≤ (s[k].toNat : Int)
          · by_cases c2 : (s[k].toNat : Int) ≤ 122
            · have d1 : ¬ (s[k].toNat : Int) < 97 := by omega
              have d2 : ¬ 122 < (s[k].toNat : Int) := by omega
              go_wp2
              go_round
              case rel => exact ⟨k + 1, by omega, by go_num, by rw [take_snoc s k hlt, letters_snoc, HL.out]; simp [letter, inB, c1, c2]⟩
              case measure => simp [intOf]; omega
            · have d1 : ¬ (s[k].toNat : Int) < 97 := by omega
              have d2 : 122 < (s[k].toNat : Int) := by omega
              go_wp2
              go_ret
              exact ⟨ret_bool (keyB_no hlt (inB_false.2 (.inr d2))).symm, rfl⟩
          · have d1 : (s[k].toNat : Int) < 97 := by omega
            go_wp2
            go_ret
            exact ⟨ret_bool (keyB_no hlt (inB_false.2 (.inl d1))).symm, rfl⟩
        · go_wp2
          go_ret
          have hk' : k = s.size := by omega
          have hl := HL.out
          rw [List.take_of_length_le (by simp; omega)] at hl
          exact ⟨ret_bool (by simp [keyB, hl, inB]; omega), rfl⟩
    · have g1 : ¬ s.size < 1 := by omega
      have g2 : 6 < s.size := by omega
      go_enter Tryz.func50, Tryz.ntmps50
      go_wp2
      go_ret
      exact ⟨ret_bool (by simp [keyB, inB]; omega), rfl⟩
  · have g1 : s.size < 1 := by omega
    go_enter Tryz.func50, Tryz.ntmps50
    go_wp2
    go_ret
    exact ⟨ret_bool (by simp [keyB, inB]; omega), rfl⟩

theorem isTime_any (n : Int) (w : World) :
    Calls Tryz.prog 85 #[.int .i64 n] w fun e w' => e = .returned (.bool (inB n 1 1099511627776)) ∧ w = w' := by
  by_cases h1 : 1 ≤ n <;> by_cases h2 : n ≤ 1099511627776
  all_goals
    go_enter Tryz.func85, Tryz.ntmps85
    go_wp2
    go_ret
    exact ⟨ret_bool (by simp [inB, h1, h2]), rfl⟩
end Go.Proofs.YtambkjnhfejfaacGreatDoor

namespace Go.Proofs.YtambkjnhfejfaacGreatDoor
open Go.ChangeShapes Go.WideShapes Go.ChangeAt Go.RowKit Go.Deep

set_option maxRecDepth 100000
theorem own_knob : ownKnob Tryz.prog.godebug = none := by kernel_rfl
theorem laidOut : laidOutB Tryz.prog = true := by kernel_rfl
theorem cells_row : Tryz.prog.cellsOf 45 = 5 := by kernel_rfl
theorem cells_lock : Tryz.prog.cellsOf 42 = 2 := by kernel_rfl
theorem cells_string : Tryz.prog.cellsOf 9 = 1 := by kernel_rfl
theorem cells_int : Tryz.prog.cellsOf 3 = 1 := by kernel_rfl
theorem cells_recs : Tryz.prog.cellsOf 43 = 1 := by kernel_rfl
theorem cells_rec : Tryz.prog.cellsOf 47 = 3 := by kernel_rfl
theorem bytes_rec : Tryz.prog.bytesOf 47 = 32 := by kernel_rfl

theorem i64_of_wf {n : Int} (h : (Lit.int .i64 n).wf = true) : i64 n := by
  have := bounds_i64 h
  unfold i64
  omega

section
variable {H : Type} {enc : TypeId × Value → H} {W : World}

/-- One record of a slice that came in. -/
theorem open_rec {n b o : Nat} {cs : List Value} {x : DataW H × List MemPlace} {spare : Nat → Bool} {held : Bool} (hc : W.cells? 0 ⟨b, o, none⟩ 3 = some cs) (h : DataW.trod enc Tryz.prog W 0 spare held n 47 cs = some x) :
    ∃ r : RecM, RecOk r ∧ RecAt W b o r := by
  obtain ⟨_, hcl, hat⟩ := World.cells?_some hc
  obtain ⟨ys, n', _, _, hlen, hyl, hf⟩ := DataW.trod_struct Tryz.underlying47 h
  match cs, hcl with
  | [v0, v1, v2], _ =>
    have f0 : DataW.trod enc Tryz.prog W 0 spare held n' 3 (([v0, v1, v2].drop 0).take (Tryz.prog.cellsOf 3)) = ys[0]? := hf 0 _ rfl
    have f1 : DataW.trod enc Tryz.prog W 0 spare held n' 3 (([v0, v1, v2].drop 1).take (Tryz.prog.cellsOf 3)) = ys[1]? := hf 1 _ rfl
    have f2 : DataW.trod enc Tryz.prog W 0 spare held n' 9 (([v0, v1, v2].drop 2).take (Tryz.prog.cellsOf 9)) = ys[2]? := hf 2 _ rfl
    rw [cells_int] at f0 f1
    rw [cells_string] at f2
    match ys, hyl with
    | [y0, y1, y2], _ =>
      simp only [List.drop_zero, List.take_succ_cons, List.take_zero, List.drop_succ_cons, List.getElem?_cons_zero, List.getElem?_cons_succ] at f0 f1 f2
      obtain ⟨s, e0, _, ws⟩ := DataW.trod_int Tryz.underlying3 f0
      obtain ⟨c, e1, _, wc⟩ := DataW.trod_int Tryz.underlying3 f1
      obtain ⟨v, e2, _, wv⟩ := DataW.trod_string Tryz.underlying9 f2
      simp only [List.cons.injEq, and_true] at e0 e1 e2
      subst e0 e1 e2
      refine ⟨⟨s, c, v⟩, ⟨i64_of_wf ws, i64_of_wf wc, wv⟩, ?_, ?_, ?_⟩
      · simpa [Addr.add] using hat 0 (by omega)
      · simpa [Addr.add] using hat 1 (by omega)
      · simpa [Addr.add] using hat 2 (by omega)

/-- The records of a slice that came in. -/
theorem open_recs {fuel : Nat} {A : Option Addr} {n c : Nat} {x : DataW H × List MemPlace} (h : DataW.trod enc Tryz.prog W 0 (fun _ => true) true fuel 43 [.slice A n c] = some x)
    (hz : ∀ k ∈ x.1.weights Tryz.prog 43, k ≤ reachBytes) : ∃ l : List RecM, n = l.length ∧ RecsAt W W.heap.size A l ∧ n ≤ c := by
  rcases open_slice Tryz.underlying43 h with ⟨hcs, _⟩ | ⟨a, len, cap, m, n', D, Pl, hcs, hb, hl, hm, hmm, hx, hi⟩
  · simp only [List.cons.injEq, Value.slice.injEq, and_true] at hcs
    obtain ⟨_, rfl, rfl⟩ := hcs
    exact ⟨[], rfl, RecsAt.nil_ _ _ _, Nat.le_refl _⟩
  · simp only [List.cons.injEq, Value.slice.injEq, and_true] at hcs
    obtain ⟨rfl, rfl, rfl⟩ := hcs
    simp only [if_true] at hmm
    subst hmm
    have hw : (n + (m - n)) * 32 ≤ reachBytes := by
      have := hz ((n + (m - n)) * Tryz.prog.bytesOf 47) (by
        rw [hx]
        simp only [DataW.weights, Tryz.underlying43]
        simp)
      rwa [bytes_rec] at this
    have hn : n ≤ 4398046511104 := by unfold reachBytes at hw; omega
    rcases Nat.eq_zero_or_pos n with h0 | h0
    · subst h0
      exact ⟨[], rfl, RecsAt.nil_ _ _ _, Nat.zero_le _⟩
    · obtain ⟨b, o, spot⟩ := a
      rw [cells_rec] at hi
      have hsp : spot = none := by
        obtain ⟨cs, hc, _⟩ := hi 0 (by omega)
        obtain ⟨_, hcl, hat⟩ := World.cells?_some hc
        have h3 := hat 0 (by omega)
        have : cs[0]? = some (cs[0]'(by omega)) := List.getElem?_eq_getElem (by omega)
        rw [this] at h3
        simpa [Addr.add] using World.cell?_spot h3
      subst hsp
      have hr : ∀ i, i < n → ∃ r : RecM, RecOk r ∧ RecAt W b (o + i * 3) r := by
        intro i hin
        obtain ⟨cs, hc, ht⟩ := hi i (by omega)
        have e : (⟨b, o, none⟩ : Addr).add (i * 3) = ⟨b, o + i * 3, none⟩ := by
          unfold Addr.add
          split
          · rename_i h; rw [h]; rfl
          · rfl
        rw [e] at hc
        exact open_rec hc ht
      obtain ⟨f, hf⟩ := choose_lt hr
      refine ⟨(List.range n).map f, by simp, ⟨by simpa using hn, fun r hrm => ?_, fun _ => ⟨b, o, rfl, ?_, fun i r hir => ?_⟩⟩, hl⟩
      · obtain ⟨i, hin, rfl⟩ := List.mem_map.1 hrm
        exact (hf i (List.mem_range.1 hin)).1
      · exact World.block_lt_of_cell? W _ (hf 0 h0).2.s
      · have hin : i < n := by have := (List.getElem?_eq_some_iff.1 hir).1; simpa using this
        have : r = f i := by simpa [hin] using hir.symm
        rw [this]
        exact (hf i hin).2

/-- A row that came in. -/
theorem open_row {r0 : Reach} {base : Nat} {v : Value} {d : DataW H} {p : List MemPlace} (hv : Value.okWide Tryz.prog W r0 base 45 v) (h : DataW.Trod enc Tryz.prog W 0 (fun _ => true) true 45 v d p)
    (hz : ∀ k ∈ d.weights Tryz.prog 45, k ≤ reachBytes) :
    ∃ (key lp val : ByteArray) (ls : Int) (A : Option Addr) (n c : Nat) (l : List RecM), v = .agg #[.string key, .int .i64 ls, .string lp, .string val, .slice A n c] ∧ key.size ≤ maxLen ∧ lp.size ≤ maxLen ∧ val.size ≤ maxLen ∧ i64 ls ∧
      n = l.length ∧ RecsAt W W.heap.size A l ∧ n ≤ c := by
  obtain ⟨cs, rfl, hsz⟩ := okWide_struct Tryz.underlying45 hv
  obtain ⟨lst⟩ := cs
  match lst, hsz.trans cells_row with
  | [v0, v1, v2, v3, v4], _ =>
    obtain ⟨fuel, hf⟩ := h
    obtain ⟨ys, n', _, hx, hlen, hyl, hg⟩ := DataW.trod_struct Tryz.underlying45 hf
    have f0 : DataW.trod enc Tryz.prog W 0 (fun _ => true) true n' 9 (([v0, v1, v2, v3, v4].drop 0).take (Tryz.prog.cellsOf 9)) = ys[0]? := hg 0 _ rfl
    have f1 : DataW.trod enc Tryz.prog W 0 (fun _ => true) true n' 42 (([v0, v1, v2, v3, v4].drop 1).take (Tryz.prog.cellsOf 42)) = ys[1]? := hg 1 _ rfl
    have f2 : DataW.trod enc Tryz.prog W 0 (fun _ => true) true n' 9 (([v0, v1, v2, v3, v4].drop 3).take (Tryz.prog.cellsOf 9)) = ys[2]? := hg 2 _ rfl
    have f3 : DataW.trod enc Tryz.prog W 0 (fun _ => true) true n' 43 (([v0, v1, v2, v3, v4].drop 4).take (Tryz.prog.cellsOf 43)) = ys[3]? := hg 3 _ rfl
    rw [cells_string] at f0 f2
    rw [cells_lock] at f1
    rw [cells_recs] at f3
    match ys, hyl with
    | [y0, y1, y2, y3], _ =>
      simp only [List.drop_zero, List.take_succ_cons, List.take_zero, List.drop_succ_cons, List.getElem?_cons_zero, List.getElem?_cons_succ] at f0 f1 f2 f3
      obtain ⟨key, e0, _, wk⟩ := DataW.trod_string Tryz.underlying9 f0
      obtain ⟨val, e2, _, wv⟩ := DataW.trod_string Tryz.underlying9 f2
      obtain ⟨zs, n'', _, _, _, hzl, hg'⟩ := DataW.trod_struct Tryz.underlying42 f1
      have g0 : DataW.trod enc Tryz.prog W 0 (fun _ => true) true n'' 3 (([v1, v2].drop 0).take (Tryz.prog.cellsOf 3)) = zs[0]? := hg' 0 _ rfl
      have g1 : DataW.trod enc Tryz.prog W 0 (fun _ => true) true n'' 9 (([v1, v2].drop 1).take (Tryz.prog.cellsOf 9)) = zs[1]? := hg' 1 _ rfl
      rw [cells_int] at g0
      rw [cells_string] at g1
      match zs, hzl with
      | [z0, z1], _ =>
        simp only [List.drop_zero, List.take_succ_cons, List.take_zero, List.drop_succ_cons, List.getElem?_cons_zero, List.getElem?_cons_succ] at g0 g1
        obtain ⟨ls, e3, _, wl⟩ := DataW.trod_int Tryz.underlying3 g0
        obtain ⟨lp, e4, _, wp⟩ := DataW.trod_string Tryz.underlying9 g1
        simp only [List.cons.injEq, and_true] at e0 e2 e3 e4
        subst e0 e2 e3 e4
        have hd : d = .agg [y0.1, y1.1, y2.1, y3.1] := by simp only [Prod.mk.injEq] at hx; simpa using hx.1
        have hz3 : ∀ k ∈ y3.1.weights Tryz.prog 43, k ≤ reachBytes := by
          intro k hk
          refine hz k ?_
          rw [hd]
          simp only [DataW.weights, Tryz.underlying45]
          exact DataW.weights_mem_each (j := 3) (t := 43) (d := y3.1) (by simp) (by simp) k hk
        rcases open_slice Tryz.underlying43 f3 with ⟨hcs, _⟩ | ⟨a, len, cap, _, _, _, _, hcs, _⟩
        · simp only [List.cons.injEq, and_true] at hcs
          subst hcs
          obtain ⟨l, hl, hr, hcap⟩ := open_recs f3 hz3
          exact ⟨key, lp, val, ls, _, _, _, l, rfl, wk, wp, wv, i64_of_wf wl, hl, hr, hcap⟩
        · simp only [List.cons.injEq, and_true] at hcs
          subst hcs
          obtain ⟨l, hl, hr, hcap⟩ := open_recs f3 hz3
          exact ⟨key, lp, val, ls, _, _, _, l, rfl, wk, wp, wv, i64_of_wf wl, hl, hr, hcap⟩
/-- What the reach says of one argument. -/
theorem reach_at {ts : List TypeId} {ds : List (DataW H)} {j : Nat} {t : TypeId} {d : DataW H} (h : (DataW.weightsEach Tryz.prog ts ds).all (fun x => decide (x ≤ reachBytes)) = true) (ht : ts[j]? = some t) (hd : ds[j]? = some d) :
    ∀ k ∈ d.weights Tryz.prog t, k ≤ reachBytes := fun k hk => by
  have := List.all_eq_true.1 h k (DataW.weights_mem_each ht hd k hk)
  simpa using this
end
end Go.Proofs.YtambkjnhfejfaacGreatDoor

namespace Go.Proofs.YtambkjnhfejfaacGreatDoor
open Go.ChangeShapes Go.WideShapes Go.ChangeAt Go.RowKit Go.Deep

set_option maxRecDepth 100000
theorem cells_world : Tryz.prog.cellsOf 29 = 3 := by kernel_rfl
theorem cells_client : Tryz.prog.cellsOf 75 = 5 := by kernel_rfl
theorem cells_write : Tryz.prog.cellsOf 107 = 2 := by kernel_rfl
theorem cells_rowsS : Tryz.prog.cellsOf 26 = 1 := by kernel_rfl
theorem cells_clientsS : Tryz.prog.cellsOf 27 = 1 := by kernel_rfl
theorem cells_writesS : Tryz.prog.cellsOf 73 = 1 := by kernel_rfl
theorem bytes_row : Tryz.prog.bytesOf 45 = 80 := by kernel_rfl
theorem bytes_client : Tryz.prog.bytesOf 75 = 56 := by kernel_rfl
theorem bytes_write : Tryz.prog.bytesOf 107 = 32 := by kernel_rfl

section
variable {H : Type} {enc : TypeId × Value → H} {W : World}

theorem weights_all {P : Program} {e : TypeId} {l : List (DataW H)} {d : DataW H} (hd : d ∈ l) : ∀ k ∈ d.weights P e, k ∈ DataW.weightsAll P e l := by
  induction l with
  | nil => cases hd
  | cons x l ih =>
    intro k hk
    simp only [DataW.weightsAll, List.mem_append]
    rcases List.mem_cons.1 hd with rfl | hd
    · exact .inl hk
    · exact .inr (ih hd k hk)

/-- A slice of elements that came in. -/
theorem open_seq {α : Type} [Inhabited α] {E : Nat → Nat → α → Prop} {t e : TypeId} {sz by_ mx : Nat} (hu : Tryz.prog.underlying t = some (.slice e)) (hce : Tryz.prog.cellsOf e = sz) (hs0 : 0 < sz) (hbe : Tryz.prog.bytesOf e = by_) (hmx : ∀ n, n * by_ ≤ reachBytes → n ≤ mx)
    {fuel : Nat} {A : Option Addr} {n c : Nat} {x : DataW H × List MemPlace} (h : DataW.trod enc Tryz.prog W 0 (fun _ => true) true fuel t [.slice A n c] = some x) (hz : ∀ k ∈ x.1.weights Tryz.prog t, k ≤ reachBytes)
    (hE : ∀ (b o n' : Nat) (cs : List Value) (y : DataW H × List MemPlace), W.cells? 0 ⟨b, o, none⟩ sz = some cs → DataW.trod enc Tryz.prog W 0 (fun _ => true) true n' e cs = some y → (∀ k ∈ y.1.weights Tryz.prog e, k ≤ reachBytes) → ∃ r, E b o r) :
    ∃ l : List α, n = l.length ∧ SeqAt (· < W.heap.size) sz mx E A l ∧ n ≤ c := by
  rcases open_slice hu h with ⟨hcs, _⟩ | ⟨a, len, cap, m, n', D, Pl, hcs, hb, hl, hm, hmm, hx, hi⟩
  · simp only [List.cons.injEq, Value.slice.injEq, and_true] at hcs
    obtain ⟨_, rfl, rfl⟩ := hcs
    exact ⟨[], rfl, SeqAt.nil_ _, Nat.le_refl _⟩
  · simp only [List.cons.injEq, Value.slice.injEq, and_true] at hcs
    obtain ⟨rfl, rfl, rfl⟩ := hcs
    simp only [if_true] at hmm
    subst hmm
    have hw : (n + (m - n)) * by_ ≤ reachBytes := by
      have := hz ((n + (m - n)) * Tryz.prog.bytesOf e) (by
        rw [hx]
        simp only [DataW.weights, hu]
        simp)
      rwa [hbe] at this
    have hn : n ≤ mx := hmx n (Nat.le_trans (Nat.mul_le_mul_right _ (by omega)) hw)
    rcases Nat.eq_zero_or_pos n with h0 | h0
    · subst h0
      exact ⟨[], rfl, SeqAt.nil_ _, Nat.zero_le _⟩
    · obtain ⟨b, o, spot⟩ := a
      rw [hce] at hi
      have hone : ∀ i, i < n → ∃ cs v, W.cells? 0 ((⟨b, o, spot⟩ : Addr).add (i * sz)) sz = some cs ∧ W.cell? (((⟨b, o, spot⟩ : Addr).add (i * sz)).add 0) = some v := by
        intro i hin
        obtain ⟨cs, hc, _⟩ := hi i (by omega)
        obtain ⟨_, hcl, hat⟩ := World.cells?_some hc
        have h3 := hat 0 (by omega)
        have : cs[0]? = some (cs[0]'(by omega)) := List.getElem?_eq_getElem (by omega)
        rw [this] at h3
        exact ⟨cs, _, hc, h3⟩
      have hsp : spot = none := by
        obtain ⟨cs, v, _, h3⟩ := hone 0 h0
        simpa [Addr.add] using World.cell?_spot h3
      subst hsp
      have ea : ∀ j, (⟨b, o, none⟩ : Addr).add j = ⟨b, o + j, none⟩ := by
        intro j
        unfold Addr.add
        split
        · rename_i h; rw [h]; rfl
        · rfl
      have hr : ∀ i, i < n → ∃ r : α, E b (o + i * sz) r := by
        intro i hin
        obtain ⟨cs, hc, ht⟩ := hi i (by omega)
        rw [ea] at hc
        refine hE b _ _ cs _ hc ht fun k hk => hz k ?_
        rw [hx]
        simp only [DataW.weights, hu]
        refine List.mem_cons_of_mem _ (List.mem_append_left _ (weights_all (List.mem_map.2 ⟨i, List.mem_range.2 hin, rfl⟩) k hk))
      obtain ⟨f, hf⟩ := choose_lt hr
      refine ⟨(List.range n).map f, by simp, ⟨by simpa using hn, fun _ => ⟨b, o, rfl, ?_, fun i r hir => ?_⟩⟩, hl⟩
      · obtain ⟨cs, v, _, h3⟩ := hone 0 h0
        have h4 := World.block_lt_of_cell? W _ h3
        rw [ea] at h4
        rw [show (⟨b, o + 0 * sz, none⟩ : Addr).add 0 = ⟨b, o + 0 * sz, none⟩ from by unfold Addr.add; split <;> simp_all] at h4
        exact h4
      · have hin : i < n := by have := (List.getElem?_eq_some_iff.1 hir).1; simpa using this
        have : r = f i := by simpa [hin] using hir.symm
        rw [this]
        exact hf i hin

/-- A row in memory that came in. -/
theorem open_rowAt {n b o : Nat} {cs : List Value} {x : DataW H × List MemPlace} (hc : W.cells? 0 ⟨b, o, none⟩ 5 = some cs) (h : DataW.trod enc Tryz.prog W 0 (fun _ => true) true n 45 cs = some x) (hz : ∀ k ∈ x.1.weights Tryz.prog 45, k ≤ reachBytes) :
    ∃ r : RowM, RowAt W (· < W.heap.size) b o r := by
  obtain ⟨_, hcl, hat⟩ := World.cells?_some hc
  obtain ⟨ys, n', _, hx, hlen, hyl, hg⟩ := DataW.trod_struct Tryz.underlying45 h
  match cs, hcl with
  | [v0, v1, v2, v3, v4], _ =>
    have f0 : DataW.trod enc Tryz.prog W 0 (fun _ => true) true n' 9 (([v0, v1, v2, v3, v4].drop 0).take (Tryz.prog.cellsOf 9)) = ys[0]? := hg 0 _ rfl
    have f1 : DataW.trod enc Tryz.prog W 0 (fun _ => true) true n' 42 (([v0, v1, v2, v3, v4].drop 1).take (Tryz.prog.cellsOf 42)) = ys[1]? := hg 1 _ rfl
    have f2 : DataW.trod enc Tryz.prog W 0 (fun _ => true) true n' 9 (([v0, v1, v2, v3, v4].drop 3).take (Tryz.prog.cellsOf 9)) = ys[2]? := hg 2 _ rfl
    have f3 : DataW.trod enc Tryz.prog W 0 (fun _ => true) true n' 43 (([v0, v1, v2, v3, v4].drop 4).take (Tryz.prog.cellsOf 43)) = ys[3]? := hg 3 _ rfl
    rw [cells_string] at f0 f2
    rw [cells_lock] at f1
    rw [cells_recs] at f3
    match ys, hyl with
    | [y0, y1, y2, y3], _ =>
      simp only [List.drop_zero, List.take_succ_cons, List.take_zero, List.drop_succ_cons, List.getElem?_cons_zero, List.getElem?_cons_succ] at f0 f1 f2 f3
      obtain ⟨key, e0, _, wk⟩ := DataW.trod_string Tryz.underlying9 f0
      obtain ⟨val, e2, _, wv⟩ := DataW.trod_string Tryz.underlying9 f2
      obtain ⟨zs, n'', _, _, _, hzl, hg'⟩ := DataW.trod_struct Tryz.underlying42 f1
      have g0 : DataW.trod enc Tryz.prog W 0 (fun _ => true) true n'' 3 (([v1, v2].drop 0).take (Tryz.prog.cellsOf 3)) = zs[0]? := hg' 0 _ rfl
      have g1 : DataW.trod enc Tryz.prog W 0 (fun _ => true) true n'' 9 (([v1, v2].drop 1).take (Tryz.prog.cellsOf 9)) = zs[1]? := hg' 1 _ rfl
      rw [cells_int] at g0
      rw [cells_string] at g1
      match zs, hzl with
      | [z0, z1], _ =>
        simp only [List.drop_zero, List.take_succ_cons, List.take_zero, List.drop_succ_cons, List.getElem?_cons_zero, List.getElem?_cons_succ] at g0 g1
        obtain ⟨ls, e3, _, wl⟩ := DataW.trod_int Tryz.underlying3 g0
        obtain ⟨lp, e4, _, wp⟩ := DataW.trod_string Tryz.underlying9 g1
        simp only [List.cons.injEq, and_true] at e0 e2 e3 e4
        subst e0 e2 e3 e4
        have hd : x.1 = .agg [y0.1, y1.1, y2.1, y3.1] := by rw [hx]; simp
        have hz3 : ∀ k ∈ y3.1.weights Tryz.prog 43, k ≤ reachBytes := by
          intro k hk
          refine hz k ?_
          rw [hd]
          simp only [DataW.weights, Tryz.underlying45]
          exact DataW.weights_mem_each (j := 3) (t := 43) (d := y3.1) (by simp) (by simp) k hk
        have a0 : W.cell? ⟨b, o, none⟩ = some (.string key) := by simpa [Addr.add] using hat 0 (by omega)
        have a1 : W.cell? ⟨b, o + 1, none⟩ = some (.int .i64 ls) := by simpa [Addr.add] using hat 1 (by omega)
        have a2 : W.cell? ⟨b, o + 2, none⟩ = some (.string lp) := by simpa [Addr.add] using hat 2 (by omega)
        have a3 : W.cell? ⟨b, o + 3, none⟩ = some (.string val) := by simpa [Addr.add] using hat 3 (by omega)
        have a4 : W.cell? ⟨b, o + 4, none⟩ = some v4 := by simpa [Addr.add] using hat 4 (by omega)
        have hv4 : ∃ A m c, v4 = .slice A m c := by
          rcases open_slice Tryz.underlying43 f3 with ⟨hcs, _⟩ | ⟨a, len, cap, _, _, _, _, hcs, _⟩
          · simp only [List.cons.injEq, and_true] at hcs; exact ⟨_, _, _, hcs⟩
          · simp only [List.cons.injEq, and_true] at hcs; exact ⟨_, _, _, hcs⟩
        obtain ⟨A, m, c, rfl⟩ := hv4
        obtain ⟨l, hl, hr, hcap⟩ := open_recs f3 hz3
        subst hl
        exact ⟨⟨key, ls, lp, val, l⟩, a0, a1, a2, a3, ⟨A, c, a4, hcap, hr⟩, wk, wp, wv, i64_of_wf wl⟩

/-- A write in memory that came in. -/
theorem open_wrAt {n b o : Nat} {cs : List Value} {x : DataW H × List MemPlace} (hc : W.cells? 0 ⟨b, o, none⟩ 2 = some cs) (h : DataW.trod enc Tryz.prog W 0 (fun _ => true) true n 107 cs = some x) : ∃ r : WrM, WrAt W b o r := by
  obtain ⟨_, hcl, hat⟩ := World.cells?_some hc
  obtain ⟨ys, n', _, hx, hlen, hyl, hg⟩ := DataW.trod_struct Tryz.underlying107 h
  match cs, hcl with
  | [v0, v1], _ =>
    have f0 : DataW.trod enc Tryz.prog W 0 (fun _ => true) true n' 9 (([v0, v1].drop 0).take (Tryz.prog.cellsOf 9)) = ys[0]? := hg 0 _ rfl
    have f1 : DataW.trod enc Tryz.prog W 0 (fun _ => true) true n' 9 (([v0, v1].drop 1).take (Tryz.prog.cellsOf 9)) = ys[1]? := hg 1 _ rfl
    rw [cells_string] at f0 f1
    match ys, hyl with
    | [y0, y1], _ =>
      simp only [List.drop_zero, List.take_succ_cons, List.take_zero, List.drop_succ_cons, List.getElem?_cons_zero, List.getElem?_cons_succ] at f0 f1
      obtain ⟨k, e0, _, wk⟩ := DataW.trod_string Tryz.underlying9 f0
      obtain ⟨v, e1, _, wv⟩ := DataW.trod_string Tryz.underlying9 f1
      simp only [List.cons.injEq, and_true] at e0 e1
      subst e0 e1
      exact ⟨⟨k, v⟩, by simpa [Addr.add] using hat 0 (by omega), by simpa [Addr.add] using hat 1 (by omega), wk, wv⟩

/-- A client in memory that came in. -/
theorem open_clAt {n b o : Nat} {cs : List Value} {x : DataW H × List MemPlace} (hc : W.cells? 0 ⟨b, o, none⟩ 5 = some cs) (h : DataW.trod enc Tryz.prog W 0 (fun _ => true) true n 75 cs = some x) (hz : ∀ k ∈ x.1.weights Tryz.prog 75, k ≤ reachBytes) :
    ∃ r : ClM, ClAt W (· < W.heap.size) b o r := by
  obtain ⟨_, hcl, hat⟩ := World.cells?_some hc
  obtain ⟨ys, n', _, hx, hlen, hyl, hg⟩ := DataW.trod_struct Tryz.underlying75 h
  match cs, hcl with
  | [v0, v1, v2, v3, v4], _ =>
    have f0 : DataW.trod enc Tryz.prog W 0 (fun _ => true) true n' 3 (([v0, v1, v2, v3, v4].drop 0).take (Tryz.prog.cellsOf 3)) = ys[0]? := hg 0 _ rfl
    have f1 : DataW.trod enc Tryz.prog W 0 (fun _ => true) true n' 3 (([v0, v1, v2, v3, v4].drop 1).take (Tryz.prog.cellsOf 3)) = ys[1]? := hg 1 _ rfl
    have f2 : DataW.trod enc Tryz.prog W 0 (fun _ => true) true n' 3 (([v0, v1, v2, v3, v4].drop 2).take (Tryz.prog.cellsOf 3)) = ys[2]? := hg 2 _ rfl
    have f3 : DataW.trod enc Tryz.prog W 0 (fun _ => true) true n' 73 (([v0, v1, v2, v3, v4].drop 3).take (Tryz.prog.cellsOf 73)) = ys[3]? := hg 3 _ rfl
    have f4 : DataW.trod enc Tryz.prog W 0 (fun _ => true) true n' 3 (([v0, v1, v2, v3, v4].drop 4).take (Tryz.prog.cellsOf 3)) = ys[4]? := hg 4 _ rfl
    rw [cells_int] at f0 f1 f2 f4
    rw [cells_writesS] at f3
    match ys, hyl with
    | [y0, y1, y2, y3, y4], _ =>
      simp only [List.drop_zero, List.take_succ_cons, List.take_zero, List.drop_succ_cons, List.getElem?_cons_zero, List.getElem?_cons_succ] at f0 f1 f2 f3 f4
      obtain ⟨p, e0, _, w0⟩ := DataW.trod_int Tryz.underlying3 f0
      obtain ⟨s, e1, _, w1⟩ := DataW.trod_int Tryz.underlying3 f1
      obtain ⟨m, e2, _, w2⟩ := DataW.trod_int Tryz.underlying3 f2
      obtain ⟨a, e4, _, w4⟩ := DataW.trod_int Tryz.underlying3 f4
      simp only [List.cons.injEq, and_true] at e0 e1 e2 e4
      subst e0 e1 e2 e4
      have hd : x.1 = .agg [y0.1, y1.1, y2.1, y3.1, y4.1] := by rw [hx]; simp
      have hz3 : ∀ k ∈ y3.1.weights Tryz.prog 73, k ≤ reachBytes := by
        intro k hk
        refine hz k ?_
        rw [hd]
        simp only [DataW.weights, Tryz.underlying75]
        exact DataW.weights_mem_each (j := 3) (t := 73) (d := y3.1) (by simp) (by simp) k hk
      have a0 : W.cell? ⟨b, o, none⟩ = some (.int .i64 p) := by simpa [Addr.add] using hat 0 (by omega)
      have a1 : W.cell? ⟨b, o + 1, none⟩ = some (.int .i64 s) := by simpa [Addr.add] using hat 1 (by omega)
      have a2 : W.cell? ⟨b, o + 2, none⟩ = some (.int .i64 m) := by simpa [Addr.add] using hat 2 (by omega)
      have a3 : W.cell? ⟨b, o + 3, none⟩ = some v3 := by simpa [Addr.add] using hat 3 (by omega)
      have a4 : W.cell? ⟨b, o + 4, none⟩ = some (.int .i64 a) := by simpa [Addr.add] using hat 4 (by omega)
      have hv3 : ∃ A m c, v3 = .slice A m c := by
        rcases open_slice Tryz.underlying73 f3 with ⟨hcs, _⟩ | ⟨a, len, cap, _, _, _, _, hcs, _⟩
        · simp only [List.cons.injEq, and_true] at hcs; exact ⟨_, _, _, hcs⟩
        · simp only [List.cons.injEq, and_true] at hcs; exact ⟨_, _, _, hcs⟩
      obtain ⟨A, q, c, rfl⟩ := hv3
      obtain ⟨l, hl, hr, hcap⟩ := open_seq (E := WrAt W) (sz := 2) (by_ := 32) (mx := 4398046511104) Tryz.underlying73 cells_write (by omega) bytes_write (fun n h => by unfold reachBytes at h; omega) f3 hz3 (fun b o n' cs y hc ht _ => open_wrAt hc ht)
      subst hl
      exact ⟨⟨p, s, m, l, a⟩, a0, a1, a2, ⟨A, c, a3, hcap, hr⟩, a4, i64_of_wf w0, i64_of_wf w1, i64_of_wf w2, i64_of_wf w4⟩

/-- A world that came in. -/
theorem open_world {r0 : Reach} {base : Nat} {v : Value} {d : DataW H} {p : List MemPlace} (hv : Value.okWide Tryz.prog W r0 base 29 v) (h : DataW.Trod enc Tryz.prog W 0 (fun _ => true) true 29 v d p)
    (hz : ∀ k ∈ d.weights Tryz.prog 29, k ≤ reachBytes) :
    ∃ (wo : WoM) (RA : Option Addr) (n rc : Nat) (CA : Option Addr) (m cc : Nat), v = woV RA n rc wo.clock CA m cc ∧ WoIn W RA n rc CA m cc wo := by
  obtain ⟨cs, rfl, hsz⟩ := okWide_struct Tryz.underlying29 hv
  obtain ⟨lst⟩ := cs
  match lst, hsz.trans cells_world with
  | [v0, v1, v2], _ =>
    obtain ⟨fuel, hf⟩ := h
    obtain ⟨ys, n', _, hx, hlen, hyl, hg⟩ := DataW.trod_struct Tryz.underlying29 hf
    have f0 : DataW.trod enc Tryz.prog W 0 (fun _ => true) true n' 26 (([v0, v1, v2].drop 0).take (Tryz.prog.cellsOf 26)) = ys[0]? := hg 0 _ rfl
    have f1 : DataW.trod enc Tryz.prog W 0 (fun _ => true) true n' 3 (([v0, v1, v2].drop 1).take (Tryz.prog.cellsOf 3)) = ys[1]? := hg 1 _ rfl
    have f2 : DataW.trod enc Tryz.prog W 0 (fun _ => true) true n' 27 (([v0, v1, v2].drop 2).take (Tryz.prog.cellsOf 27)) = ys[2]? := hg 2 _ rfl
    rw [cells_rowsS] at f0
    rw [cells_int] at f1
    rw [cells_clientsS] at f2
    match ys, hyl with
    | [y0, y1, y2], _ =>
      simp only [List.drop_zero, List.take_succ_cons, List.take_zero, List.drop_succ_cons, List.getElem?_cons_zero, List.getElem?_cons_succ] at f0 f1 f2
      obtain ⟨k, e1, _, w1⟩ := DataW.trod_int Tryz.underlying3 f1
      simp only [List.cons.injEq, and_true] at e1
      subst e1
      have hd : d = .agg [y0.1, y1.1, y2.1] := by simp only [Prod.mk.injEq] at hx; simpa using hx.1
      have hz0 : ∀ k ∈ y0.1.weights Tryz.prog 26, k ≤ reachBytes := by
        intro k hk
        refine hz k ?_
        rw [hd]
        simp only [DataW.weights, Tryz.underlying29]
        exact DataW.weights_mem_each (j := 0) (t := 26) (d := y0.1) (by simp) (by simp) k hk
      have hz2 : ∀ k ∈ y2.1.weights Tryz.prog 27, k ≤ reachBytes := by
        intro k hk
        refine hz k ?_
        rw [hd]
        simp only [DataW.weights, Tryz.underlying29]
        exact DataW.weights_mem_each (j := 2) (t := 27) (d := y2.1) (by simp) (by simp) k hk
      have hv0 : ∃ A m c, v0 = .slice A m c := by
        rcases open_slice Tryz.underlying26 f0 with ⟨hcs, _⟩ | ⟨a, len, cap, _, _, _, _, hcs, _⟩
        · simp only [List.cons.injEq, and_true] at hcs; exact ⟨_, _, _, hcs⟩
        · simp only [List.cons.injEq, and_true] at hcs; exact ⟨_, _, _, hcs⟩
      have hv2 : ∃ A m c, v2 = .slice A m c := by
        rcases open_slice Tryz.underlying27 f2 with ⟨hcs, _⟩ | ⟨a, len, cap, _, _, _, _, hcs, _⟩
        · simp only [List.cons.injEq, and_true] at hcs; exact ⟨_, _, _, hcs⟩
        · simp only [List.cons.injEq, and_true] at hcs; exact ⟨_, _, _, hcs⟩
      obtain ⟨RA, n, rc, rfl⟩ := hv0
      obtain ⟨CA, m, cc, rfl⟩ := hv2
      obtain ⟨l, hl, hr, hcap⟩ := open_seq (E := RowAt W (· < W.heap.size)) (sz := 5) (by_ := 80) (mx := 1759218604441) Tryz.underlying26 cells_row (by omega) bytes_row (fun n h => by unfold reachBytes at h; omega) f0 hz0 (fun b o n' cs y hc ht hz => open_rowAt hc ht hz)
      obtain ⟨l', hl', hr', hcap'⟩ := open_seq (E := ClAt W (· < W.heap.size)) (sz := 5) (by_ := 56) (mx := 2513169434917) Tryz.underlying27 cells_client (by omega) bytes_client (fun n h => by unfold reachBytes at h; omega) f2 hz2 (fun b o n' cs y hc ht hz => open_clAt hc ht hz)
      exact ⟨⟨l, k, l'⟩, RA, n, rc, CA, m, cc, rfl, hl, hcap, hr, hl', hcap', hr', i64_of_wf w1⟩
end
end Go.Proofs.YtambkjnhfejfaacGreatDoor
