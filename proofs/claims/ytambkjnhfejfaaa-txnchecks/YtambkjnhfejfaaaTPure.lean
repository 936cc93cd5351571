/-
  Plain mathematics of worlds: rows, clients, acts, answers; the order of strings. No program text. Conditions: none.
-/
import Derived.Test.YtambkjnhfejfaaaInsPure
import Derived.Test.YtambkjnhfejfaaaLockPure
import Derived.Lib.Bytealg
namespace Go.Proofs.Ytambkjnhfejfaaa
open Go.RowKit

/-- A write of a client. -/
structure WrM where
  k : ByteArray
  v : ByteArray
instance : Inhabited WrM := ⟨⟨ByteArray.empty, ByteArray.empty⟩⟩
/-- A row. -/
structure RowM where
  key : ByteArray
  ls : Int
  lp : ByteArray
  val : ByteArray
  recs : List RecM
instance : Inhabited RowM := ⟨⟨⟨#[]⟩, 0, ⟨#[]⟩, ⟨#[]⟩, []⟩⟩
/-- A client. -/
structure ClM where
  ph : Int
  st : Int
  cm : Int
  ws : List WrM
  at_ : Int
instance : Inhabited ClM := ⟨⟨0, 0, 0, [], 0⟩⟩
/-- A world. -/
structure WoM where
  rows : List RowM
  clock : Int
  cls : List ClM
instance : Inhabited WoM := ⟨⟨[], 0, []⟩⟩
/-- An act. -/
structure ActM where
  kind : Int
  c : Int
  key : ByteArray
  val : ByteArray
instance : Inhabited ActM := ⟨⟨0, 0, ⟨#[]⟩, ⟨#[]⟩⟩⟩
/-- An answer. -/
structure AnsM where
  code : Int
  is : Bool
  val : ByteArray
  ph : Int
  time : Int
instance : Inhabited AnsM := ⟨⟨0, false, ⟨#[]⟩, 0, 0⟩⟩

/-- One string is less than another. -/
def ltS (a b : ByteArray) : Bool := Op.bytesLess a.toList b.toList

theorem toList_data (a : ByteArray) : a.toList = a.data.toList := by
  have : ∀ (i : Nat) (r : List UInt8), ByteArray.toList.loop a i r = r.reverse ++ a.data.toList.drop i := by
    intro i
    induction h : a.size - i generalizing i with
    | zero =>
      intro r
      unfold ByteArray.toList.loop
      rw [if_neg (by omega), List.drop_eq_nil_of_le (by simp; omega), List.append_nil]
    | succ n ih =>
      intro r
      unfold ByteArray.toList.loop
      have hi : i < a.size := by omega
      rw [if_pos hi, ih (i + 1) (by omega)]
      have e : a.get! i = a.data.toList[i]'(by simpa using hi) := by
        have : a.get! i = a.data[i]! := rfl
        rw [this, getElem!_pos a.data i hi]
        simp
      rw [List.drop_eq_getElem_cons (i := i) (by simpa using hi), e]
      simp
  have := this 0 []
  simpa [ByteArray.toList] using this
theorem ba_ext {a b : ByteArray} (h : a.toList = b.toList) : a = b := by
  rw [toList_data, toList_data] at h
  obtain ⟨a⟩ := a
  obtain ⟨b⟩ := b
  simp only [ByteArray.mk.injEq]
  exact Array.toList_inj.1 h

theorem less_irrefl : ∀ l : List UInt8, Op.bytesLess l l = false
  | [] => rfl
  | a :: l => by simp [Op.bytesLess, less_irrefl l]
theorem less_trans : ∀ {a b c : List UInt8}, Op.bytesLess a b = true → Op.bytesLess b c = true → Op.bytesLess a c = true
  | _, [], _, h, _ => by simp [Op.bytesLess] at h
  | _, _ :: _, [], _, h => by simp [Op.bytesLess] at h
  | [], _ :: _, _ :: _, _, _ => by simp [Op.bytesLess]
  | x :: a, y :: b, z :: c, h1, h2 => by
    simp only [Op.bytesLess, Bool.or_eq_true, decide_eq_true_eq, Bool.and_eq_true, beq_iff_eq] at h1 h2 ⊢
    rcases h1 with h1 | ⟨rfl, h1⟩
    · rcases h2 with h2 | ⟨rfl, h2⟩
      · exact .inl (UInt8.lt_trans h1 h2)
      · exact .inl h1
    · rcases h2 with h2 | ⟨rfl, h2⟩
      · exact .inl h2
      · exact .inr ⟨rfl, less_trans h1 h2⟩
theorem less_total : ∀ {a b : List UInt8}, Op.bytesLess a b = false → Op.bytesLess b a = false → a = b
  | [], [], _, _ => rfl
  | [], _ :: _, h, _ => by simp [Op.bytesLess] at h
  | _ :: _, [], _, h => by simp [Op.bytesLess] at h
  | x :: a, y :: b, h1, h2 => by
    simp only [Op.bytesLess, Bool.or_eq_false_iff, decide_eq_false_iff_not, Bool.and_eq_false_imp, beq_iff_eq] at h1 h2
    have e : x = y := UInt8.le_antisymm (UInt8.not_lt.1 h2.1) (UInt8.not_lt.1 h1.1)
    subst e
    rw [less_total (h1.2 rfl) (h2.2 rfl)]
theorem ltS_irrefl (a : ByteArray) : ltS a a = false := less_irrefl _
theorem ltS_trans {a b c : ByteArray} (h : ltS a b = true) (h' : ltS b c = true) : ltS a c = true := less_trans h h'
theorem ltS_total {a b : ByteArray} (h : ltS a b = false) (h' : ltS b a = false) : a = b := ba_ext (less_total h h')
theorem ltS_asymm {a b : ByteArray} (h : ltS a b = true) : ltS b a = false := by
  cases e : ltS b a
  · rfl
  · have := ltS_trans h e; rw [ltS_irrefl] at this; cases this
theorem ltS_ne {a b : ByteArray} (h : ltS a b = true) : a ≠ b := fun e => by rw [e, ltS_irrefl] at h; cases h

/-- strings.Compare, in these words. -/
theorem compare_list : ∀ a b : List UInt8, (Lib.compareBytes a b < 0 ↔ Op.bytesLess a b = true) ∧ (Lib.compareBytes a b = 0 ↔ a = b) ∧ -1 ≤ Lib.compareBytes a b ∧ Lib.compareBytes a b ≤ 1
  | [], [] => by simp [Lib.compareBytes, Op.bytesLess]
  | [], _ :: _ => by simp [Lib.compareBytes, Op.bytesLess]
  | _ :: _, [] => by simp [Lib.compareBytes, Op.bytesLess]
  | x :: a, y :: b => by
    have ih := compare_list a b
    unfold Lib.compareBytes
    by_cases h : x < y
    · have hne : x ≠ y := fun e => by subst e; exact UInt8.lt_irrefl x h
      simp [h, Op.bytesLess, hne]
    · by_cases h' : y < x
      · have hne : x ≠ y := fun e => by subst e; exact UInt8.lt_irrefl x h'
        simp [h, h', Op.bytesLess, hne]
      · have e : x = y := UInt8.le_antisymm (UInt8.not_lt.1 h') (UInt8.not_lt.1 h)
        subst e
        simp only [h, if_false, Op.bytesLess, decide_false, Bool.false_or, beq_self_eq_true, Bool.true_and, List.cons.injEq, true_and]
        exact ih
/-- strings.Compare. -/
def cmpS (a b : ByteArray) : Int := Lib.compareBytes a.data.toList b.data.toList
theorem cmpS_lt {a b : ByteArray} : cmpS a b < 0 ↔ ltS a b = true := by
  unfold cmpS ltS; rw [toList_data, toList_data]; exact (compare_list _ _).1
theorem cmpS_eq {a b : ByteArray} : cmpS a b = 0 ↔ a = b := by
  unfold cmpS
  rw [(compare_list _ _).2.1]
  exact ⟨fun h => ba_ext (by rw [toList_data, toList_data]; exact h), fun h => by rw [h]⟩
theorem cmpS_bd (a b : ByteArray) : -1 ≤ cmpS a b ∧ cmpS a b ≤ 1 := (compare_list _ _).2.2

/-- P1.2 of a row. -/
def RowM.ok (r : RowM) : Bool := rowB r.key r.ls r.lp r.val r.recs
/-- No time in a row is after the clock. -/
def RowM.upTo (r : RowM) (clock : Int) : Bool := r.recs.all (fun x => decide (x.s ≤ clock) && decide (x.c ≤ clock)) && decide (r.ls ≤ clock)

/-- P2.1: the row at an index. -/
def rowAtB (clock : Int) (l : List RowM) (i : Nat) : Bool := (l.getD i default).ok && (i == 0 || ltS (l.getD (i - 1) default).key (l.getD i default).key) && (l.getD i default).upTo clock
def rowsB (clock : Int) (l : List RowM) : Bool := decide (l.length ≤ 40) && (List.range l.length).all (rowAtB clock l)
/-- P2.1: the write at an index. -/
def wrAtB (l : List WrM) (i : Nat) : Bool := keyB (l.getD i default).k && (i == 0 || ltS (l.getD (i - 1) default).k (l.getD i default).k) && decide ((l.getD i default).v.size ≤ 20)
def wrsB (l : List WrM) : Bool := decide (l.length ≤ 6) && (List.range l.length).all (wrAtB l)
/-- P2.1: the times of a client. -/
def timesB (c : ClM) (clock : Int) : Bool :=
  if c.ph = 0 then c.st == 0 && c.cm == 0
  else if c.ph = 3 ∨ c.ph = 4 then decide (1 ≤ c.st) && decide (c.st < c.cm) && decide (c.cm ≤ clock)
  else decide (1 ≤ c.st) && decide (c.st ≤ clock) && c.cm == 0
/-- P2.1: how far a client is. -/
def atB (c : ClM) : Bool :=
  if c.ph = 0 then c.ws.isEmpty && c.at_ == 0
  else if c.ph = 1 then c.at_ == 0
  else if c.ph = 2 then decide (1 ≤ (c.ws.length : Int)) && decide (0 ≤ c.at_) && decide (c.at_ ≤ c.ws.length)
  else if c.ph = 3 then decide (1 ≤ (c.ws.length : Int)) && c.at_ == 0
  else if c.ph = 4 then decide (1 ≤ c.at_) && decide (c.at_ ≤ (c.ws.length : Int) - 1)
  else false
def clB (clock : Int) (c : ClM) : Bool := wrsB c.ws && timesB c clock && atB c
def clsB (clock : Int) (l : List ClM) : Bool := decide (l.length ≤ 5) && (List.range l.length).all (fun i => clB clock (l.getD i default))
/-- P2.1. -/
def WoM.ok (w : WoM) : Bool := decide (0 ≤ w.clock) && decide (w.clock ≤ 1099511627376) && rowsB w.clock w.rows && clsB w.clock w.cls

theorem all_range_false {n k : Nat} {f : Nat → Bool} (hk : k < n) (h : f k = false) : (List.range n).all f = false := by
  rw [List.all_eq_false]
  exact ⟨k, List.mem_range.2 hk, by simp [h]⟩
theorem all_range_succ {k : Nat} {f : Nat → Bool} (h : (List.range k).all f = true) (h' : f k = true) : (List.range (k + 1)).all f = true := by
  rw [List.range_succ]; simp [h'] ; simpa using h
theorem all_range_iff {n : Nat} {f : Nat → Bool} : (List.range n).all f = true ↔ ∀ i, i < n → f i = true := by
  simp
end Go.Proofs.Ytambkjnhfejfaaa
