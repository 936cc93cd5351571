/-
  Contracts of functions of the program and words for memory, several texts in one: Ended, Two, TDoPure, TValid, TOwn1, TValid2, TOwn2, TOwn3. Conditions: those stated with each.
-/
import Derived.Test.YtambkjnhfejfaacGreatDoorG00
import Derived.Test.YtambkjnhfejfaacGreatDoorG09
import Derived.Test.YtambkjnhfejfaacGreatDoorG11
import Derived.Test.YtambkjnhfejfaacGreatDoorG12
import Derived.Deep.RegionLaw
import Derived.BigQuiet
import Derived.Deep.QuietTactic
namespace Go.Proofs.YtambkjnhfejfaacGreatDoor
open Go.RowKit

/-- The row that is being made, at block g; its records so far. -/
structure EndInv (W3 wr : World) (g : Nat) (key : ByteArray) (L : Int) (P V : ByteArray) (As : Option Addr) (m c : Nat) (l : List RecM) : Prop where
  blk : wr.heap[g]? = some (.cells #[.string key, .int .i64 L, .string P, .string V, .slice As m c] 45 (0, 0))
  own : OwnsRecs wr (g + 1) (.slice As m c) l
  len : m = l.length
  bel : Below g W3 wr
section
variable {W3 wr w2 : World} {g : Nat} {key : ByteArray} {L : Int} {P V : ByteArray} {As A2 : Option Addr} {m c c2 : Nat} {l : List RecM} {r : RecM}
theorem EndInv.draw (h : EndInv W3 wr g key L P V As m c l) (n : Nat) : EndInv W3 (wr.drewN n) g key L P V As m c l := ⟨h.blk, h.own, h.len, ⟨h.bel.os, h.bel.tape, h.bel.output, h.bel.size, h.bel.block⟩⟩
theorem EndInv.lt (h : EndInv W3 wr g key L P V As m c l) : g < wr.heap.size := (Array.getElem?_eq_some_iff.1 h.blk).1
theorem EndInv.cells (h : EndInv W3 wr g key L P V As m c l) : wr.cell? ⟨g, 0, none⟩ = some (.string key) ∧ wr.cell? ⟨g, 1, none⟩ = some (.int .i64 L) ∧ wr.cell? ⟨g, 2, none⟩ = some (.string P) ∧ wr.cell? ⟨g, 3, none⟩ = some (.string V) ∧ wr.cell? ⟨g, 4, none⟩ = some (.slice As m c) ∧ wr.frozen? ⟨g, 4, none⟩ = false :=
  ⟨by rw [Joins.cell_of_block h.blk]; rfl, by rw [Joins.cell_of_block h.blk]; rfl, by rw [Joins.cell_of_block h.blk]; rfl, by rw [Joins.cell_of_block h.blk]; rfl, by rw [Joins.cell_of_block h.blk]; rfl, Joins.unfrozen_of_block h.blk _⟩
/-- One record more. -/
theorem EndInv.step (h : EndInv W3 wr g key L P V As m c l) (hown : OwnsRecs w2 (g + 1) (.slice A2 (m + 1) c2) (l ++ [r])) (hb : Below (g + 1) wr w2) : EndInv W3 (w2.setCell ⟨g, 4, none⟩ (.slice A2 (m + 1) c2)) g key L P V A2 (m + 1) c2 (l ++ [r]) :=
  ⟨Joins.block_setCell ((hb.block g (Nat.lt_succ_self g)).trans h.blk) _, hown.set (Nat.lt_succ_self g) _, by rw [List.length_append, ← h.len]; rfl, (h.bel.trans (hb.mono (Nat.le_succ g))).setCell (Nat.le_refl _) _⟩
/-- The append of one record. -/
theorem EndInv.app (h : EndInv W3 wr g key L P V As m c l) (hok : ∀ x ∈ l, RecOk x) (h1 : l.length ≤ 1000) (W : World) (hW : Below wr.heap.size wr W) (B : Nat) (a : Option Addr) (ty : TypeId) (hrec : RecsAt W B a [r]) :
    ∃ v' w', (Builtin.append_ #[43, 43] ty #[.slice As m c, .slice a 1 1]).run Tryz.prog W = .ok v' w' ∧ ∃ A' c', v' = .slice A' (m + 1) c' ∧ OwnsRecs w' (g + 1) (.slice A' (m + 1) c') (l ++ [r]) ∧ Below (g + 1) wr w' := by
  obtain ⟨v', w', h2, A', c', hv, h3, h4, _⟩ := app_shape W wr ty (g + 1) B 1 1 (.slice As m c) l a [r] (h.own.kept hW) rfl hrec (by simp; omega) hok (by have := h.lt; have := hW.size; omega) (hW.mono (by have := h.lt; omega))
  have e : (l ++ [r]).length = m + 1 := by rw [List.length_append, ← h.len]; rfl
  rw [e] at hv h3
  exact ⟨v', w', h2, A', c', hv, h3, h4⟩
end
theorem filt_snoc (p : RecM → Bool) {l : List RecM} {k : Nat} (hk : k < l.length) : (l.take (k + 1)).filter p = (l.take k).filter p ++ (if p (l.getD k default) then [l.getD k default] else []) := by
  rw [List.take_succ_eq_append_getElem hk, List.filter_append, getD_get hk]
  congr 1
  cases h : p l[k] <;> simp [h]
theorem filt_len (p : RecM → Bool) (l : List RecM) (k : Nat) : ((l.take k).filter p).length ≤ l.length := by
  have := List.length_filter_le p (l.take k)
  have := List.length_take_le' k l
  omega
theorem filt_ok {p : RecM → Bool} {l : List RecM} {k : Nat} (h : ∀ r ∈ l, RecOk r) : ∀ r ∈ (l.take k).filter p, RecOk r := fun r hr => h r (List.mem_of_mem_take (List.mem_filter.1 hr).1)

end Go.Proofs.YtambkjnhfejfaacGreatDoor

namespace Go.Proofs.YtambkjnhfejfaacGreatDoor
open Go.RowKit

section
variable {w Wc w' : World} {g r : Nat} {v0 v1 v2 v3 v4 x0 x1 x2 : Value}
/-- Behind a call that turns no old memory. -/
theorem nextS (hb : Below Wc.heap.size Wc w')
    (h : Wc.cell? ⟨g, 0, none⟩ = some v0 ∧ Wc.cell? ⟨g, 1, none⟩ = some v1 ∧ Wc.cell? ⟨g, 2, none⟩ = some v2 ∧ Wc.cell? ⟨g, 3, none⟩ = some v3 ∧ Wc.cell? ⟨g, 4, none⟩ = some v4 ∧ Wc.cell? ⟨r, 0, none⟩ = some x0 ∧ Wc.cell? ⟨r, 1, none⟩ = some x1 ∧ Wc.cell? ⟨r, 2, none⟩ = some x2 ∧ Below w.heap.size w Wc) :
    w'.cell? ⟨g, 0, none⟩ = some v0 ∧ w'.cell? ⟨g, 1, none⟩ = some v1 ∧ w'.cell? ⟨g, 2, none⟩ = some v2 ∧ w'.cell? ⟨g, 3, none⟩ = some v3 ∧ w'.cell? ⟨g, 4, none⟩ = some v4 ∧ w'.cell? ⟨r, 0, none⟩ = some x0 ∧ w'.cell? ⟨r, 1, none⟩ = some x1 ∧ w'.cell? ⟨r, 2, none⟩ = some x2 ∧ Below w.heap.size w w' := by
  obtain ⟨h0, h1, h2, h3, h4, h5, h6, h7, h8⟩ := h
  have hg : g < Wc.heap.size := World.block_lt_of_cell? Wc _ h0
  have hr : r < Wc.heap.size := World.block_lt_of_cell? Wc _ h5
  exact ⟨(hb.cell (p := ⟨g, 0, none⟩) hg).trans h0, (hb.cell (p := ⟨g, 1, none⟩) hg).trans h1, (hb.cell (p := ⟨g, 2, none⟩) hg).trans h2, (hb.cell (p := ⟨g, 3, none⟩) hg).trans h3, (hb.cell (p := ⟨g, 4, none⟩) hg).trans h4,
    (hb.cell (p := ⟨r, 0, none⟩) hr).trans h5, (hb.cell (p := ⟨r, 1, none⟩) hr).trans h6, (hb.cell (p := ⟨r, 2, none⟩) hr).trans h7, below_next h8 hb⟩
/-- Behind a store elsewhere, into memory of the call's own. -/
theorem setS {p : Addr} (hg : p.block ≠ g) (hr : p.block ≠ r) (hw : w.heap.size ≤ p.block) (u : Value)
    (h : Wc.cell? ⟨g, 0, none⟩ = some v0 ∧ Wc.cell? ⟨g, 1, none⟩ = some v1 ∧ Wc.cell? ⟨g, 2, none⟩ = some v2 ∧ Wc.cell? ⟨g, 3, none⟩ = some v3 ∧ Wc.cell? ⟨g, 4, none⟩ = some v4 ∧ Wc.cell? ⟨r, 0, none⟩ = some x0 ∧ Wc.cell? ⟨r, 1, none⟩ = some x1 ∧ Wc.cell? ⟨r, 2, none⟩ = some x2 ∧ Below w.heap.size w Wc) :
    (Wc.setCell p u).cell? ⟨g, 0, none⟩ = some v0 ∧ (Wc.setCell p u).cell? ⟨g, 1, none⟩ = some v1 ∧ (Wc.setCell p u).cell? ⟨g, 2, none⟩ = some v2 ∧ (Wc.setCell p u).cell? ⟨g, 3, none⟩ = some v3 ∧ (Wc.setCell p u).cell? ⟨g, 4, none⟩ = some v4 ∧
      (Wc.setCell p u).cell? ⟨r, 0, none⟩ = some x0 ∧ (Wc.setCell p u).cell? ⟨r, 1, none⟩ = some x1 ∧ (Wc.setCell p u).cell? ⟨r, 2, none⟩ = some x2 ∧ Below w.heap.size w (Wc.setCell p u) := by
  obtain ⟨h0, h1, h2, h3, h4, h5, h6, h7, h8⟩ := h
  have kg : ∀ k, (Wc.setCell p u).cell? ⟨g, k, none⟩ = Wc.cell? ⟨g, k, none⟩ := fun k => World.cell?_setCell_other Wc p ⟨g, k, none⟩ u (fun e => hg (congrArg Addr.block e))
  have kr : ∀ k, (Wc.setCell p u).cell? ⟨r, k, none⟩ = Wc.cell? ⟨r, k, none⟩ := fun k => World.cell?_setCell_other Wc p ⟨r, k, none⟩ u (fun e => hr (congrArg Addr.block e))
  exact ⟨(kg _).trans h0, (kg _).trans h1, (kg _).trans h2, (kg _).trans h3, (kg _).trans h4, (kr _).trans h5, (kr _).trans h6, (kr _).trans h7, below_set h8 hw u⟩
end

/-- P1.6: the error. -/
def commitE (key : ByteArray) (ls : Int) (lp val : ByteArray) (l : List RecM) (st cm : Int) : Int :=
  if rowB key ls lp val l = false then 6 else if inB st 1 1099511627776 = false then 2 else if inB cm (st + 1) 1099511627776 = false then 2 else if stOf ls st l = 3 then 9 else if ¬ ls = st then 5 else 0
/-- P1.7: the error. -/
def undoE (key : ByteArray) (ls : Int) (lp val : ByteArray) (l : List RecM) (st : Int) : Int :=
  if rowB key ls lp val l = false then 6 else if inB st 1 1099511627776 = false then 2 else if stOf ls st l = 2 then 6 else if stOf ls st l = 3 then 0 else if ls = st then 0 else if roomOf ls ≤ (l.length : Int) then 1 else 0

theorem stOf_one {ls st : Int} {l : List RecM} : stOf ls st l = 1 ↔ ls = st := by
  unfold stOf
  split
  · simp [*]
  · split
    · split <;> simp [*]
    · simp [*]
theorem stOf_zero {ls st : Int} {l : List RecM} (h : ¬ ls = st) : stOf ls st l = 0 ↔ hasRec st l = false := by
  unfold stOf
  rw [if_neg h]
  split
  · split <;> simp [*]
  · simp [*]
/-- In a valid row the lock's transaction has no record. -/
theorem lock_free {key : ByteArray} {ls : Int} {lp val : ByteArray} {l : List RecM} (h : rowB key ls lp val l = true) (h0 : ls ≠ 0) : hasRec ls l = false ∧ l.length ≤ 99 := by
  have M := (rowB_iff ..).1 h
  have h2 : roomOf ls = 99 := if_neg h0
  have := M.room
  exact ⟨(M.held h0).1, by omega⟩
theorem row_len {key : ByteArray} {ls : Int} {lp val : ByteArray} {l : List RecM} (h : rowB key ls lp val l = true) : l.length ≤ 100 := by
  have M := (rowB_iff ..).1 h
  have := M.room
  have := roomOf_bd ls
  omega
end Go.Proofs.YtambkjnhfejfaacGreatDoor

namespace Go.Proofs.YtambkjnhfejfaacGreatDoor
open Go.RowKit

abbrev emptyS : ByteArray := ⟨#[]⟩
/-- A row that does not exist yet. -/
def freshRow (key : ByteArray) : RowM := ⟨key, 0, emptyS, emptyS, []⟩
/-- P1.5 as an operation on a row. -/
def lockOp (st : Int) (pk pv : ByteArray) (r : RowM) : RowM × Int :=
  if lockE r.key r.ls r.lp r.val r.recs st pk pv = 0 then (⟨r.key, st, pk, pv, r.recs⟩, 0) else (default, lockE r.key r.ls r.lp r.val r.recs st pk pv)
/-- P1.6. -/
def commitOp (st cm : Int) (r : RowM) : RowM × Int :=
  if commitE r.key r.ls r.lp r.val r.recs st cm = 0 then (⟨r.key, 0, emptyS, emptyS, endRec r.recs ⟨st, cm, r.val⟩⟩, 0) else (default, commitE r.key r.ls r.lp r.val r.recs st cm)
/-- P1.7: the row behind it. -/
def undoneR (st : Int) (r : RowM) : RowM :=
  if stOf r.ls st r.recs = 3 then r else if stOf r.ls st r.recs = 1 then ⟨r.key, 0, emptyS, emptyS, endRec r.recs ⟨st, 0, emptyS⟩⟩ else ⟨r.key, r.ls, r.lp, r.val, endRec r.recs ⟨st, 0, emptyS⟩⟩
def undoOp (st : Int) (r : RowM) : RowM × Int :=
  if undoE r.key r.ls r.lp r.val r.recs st = 0 then (undoneR st r, 0) else (default, undoE r.key r.ls r.lp r.val r.recs st)

abbrev rowKeys (rows : List RowM) : List ByteArray := rows.map RowM.key
/-- The row at the place of a key. -/
def rowAt (rows : List RowM) (key : ByteArray) : RowM := rows.getD (lowIx (rowKeys rows) key) default
/-- An operation on the row with a key. -/
def chgRow (rows : List RowM) (key : ByteArray) (op : RowM → RowM × Int) : List RowM × Int :=
  if hasK (rowKeys rows) key then
    (if (op (rowAt rows key)).2 = 0 then rows.set (lowIx (rowKeys rows) key) (op (rowAt rows key)).1 else rows, (op (rowAt rows key)).2)
  else if 40 ≤ rows.length then (rows, 1)
  else (if (op (freshRow key)).2 = 0 then rows.take (lowIx (rowKeys rows) key) ++ (op (freshRow key)).1 :: rows.drop (lowIx (rowKeys rows) key) else rows, (op (freshRow key)).2)
/-- The status of a transaction in the row with a key, and its Commit. -/
def statIn (rows : List RowM) (key : ByteArray) (st : Int) : Int × Int :=
  if hasK (rowKeys rows) key then (stOf (rowAt rows key).ls st (rowAt rows key).recs, cmOf (rowAt rows key).ls st (rowAt rows key).recs) else (0, 0)

/-- P2.4: the rows of the writes in which the transaction has the lock, undone. -/
def failRows (st : Int) : List WrM → List RowM → List RowM
  | [], rows => rows
  | x :: l, rows => failRows st l (if (statIn rows x.k st).1 = 1 then (chgRow rows x.k (undoOp st)).1 else rows)
/-- A client that is idle. -/
def idleC : ClM := ⟨0, 0, 0, [], 0⟩
def WoM.setC (wo : WoM) (C : Nat) (c : ClM) : WoM := { wo with cls := wo.cls.set C c }
/-- P2.4: a client fails. -/
def failW (wo : WoM) (C : Nat) (c : ClM) : WoM := ⟨failRows c.st c.ws wo.rows, wo.clock, wo.cls.set C idleC⟩

abbrev ansV (a : AnsM) : Value := .agg #[.int .i64 a.code, .bool a.is, .string a.val, .int .i64 a.ph, .int .i64 a.time]
def ansCode (e : Int) : AnsM := ⟨e, false, emptyS, 0, 0⟩
def ansTime (t : Int) : AnsM := ⟨0, false, emptyS, 0, t⟩

/-- P2.2. -/
def beginW (wo : WoM) (C : Nat) (c : ClM) : WoM × AnsM :=
  if c.ph = 0 then (⟨wo.rows, wo.clock + 1, wo.cls.set C ⟨1, wo.clock + 1, 0, [], 0⟩⟩, ansTime (wo.clock + 1)) else (wo, ansCode 6)
def dropW (wo : WoM) (C : Nat) (c : ClM) : WoM × Int := if c.ph = 0 then (wo, 6) else (wo.setC C idleC, 0)
/-- P2.3. -/
def accessE (c : ClM) (key : ByteArray) : Int := if c.ph ≠ 1 then 6 else if keyB key = false then 4 else 0
abbrev wrKeys (l : List WrM) : List ByteArray := l.map WrM.k
def wrAt (l : List WrM) (key : ByteArray) : WrM := l.getD (lowIx (wrKeys l) key) default
def readA (r : RowM) (at_ : Int) : AnsM :=
  if inB r.ls 1 at_ then ansCode 7 else ⟨0, decide (0 < (bestOf at_ r.recs).c), (bestOf at_ r.recs).v, 0, 0⟩
def getA (wo : WoM) (c : ClM) (key : ByteArray) : AnsM :=
  if accessE c key ≠ 0 then ansCode (accessE c key)
  else if hasK (wrKeys c.ws) key then ⟨0, true, (wrAt c.ws key).v, 0, 0⟩
  else if hasK (rowKeys wo.rows) key then readA (rowAt wo.rows key) c.st
  else ansCode 0
def putC (c : ClM) (key val : ByteArray) : ClM × Int :=
  if accessE c key ≠ 0 then (c, accessE c key)
  else if 20 < val.size then (c, 1)
  else if hasK (wrKeys c.ws) key then ({ c with ws := c.ws.set (lowIx (wrKeys c.ws) key) ⟨(wrAt c.ws key).k, val⟩ }, 0)
  else if 6 ≤ c.ws.length then (c, 1)
  else ({ c with ws := c.ws.take (lowIx (wrKeys c.ws) key) ++ ⟨key, val⟩ :: c.ws.drop (lowIx (wrKeys c.ws) key) }, 0)
/-- P2.4. -/
def lockW (wo : WoM) (C : Nat) (c : ClM) : WoM × Int :=
  let x := chgRow wo.rows (c.ws.getD c.at_.toNat default).k (lockOp c.st (c.ws.getD 0 default).k (c.ws.getD c.at_.toNat default).v)
  if x.2 = 0 then (⟨x.1, wo.clock, wo.cls.set C { c with at_ := c.at_ + 1 }⟩, 0)
  else if x.2 = 7 then (wo.setC C c, 7)
  else (failW wo C c, x.2)
/-- P2.5. -/
def sealW (wo : WoM) (C : Nat) (c : ClM) : WoM × AnsM := (⟨wo.rows, wo.clock + 1, wo.cls.set C ⟨3, c.st, wo.clock + 1, c.ws, 0⟩⟩, ansTime (wo.clock + 1))
def commitW (wo : WoM) (C : Nat) (c : ClM) : WoM × Int :=
  let x := chgRow wo.rows (c.ws.getD c.at_.toNat default).k (commitOp c.st c.cm)
  if x.2 ≠ 0 ∧ c.ph = 3 then (failW wo C c, 9)
  else if c.at_ + 1 = c.ws.length then (⟨x.1, wo.clock, wo.cls.set C idleC⟩, 0)
  else (⟨x.1, wo.clock, wo.cls.set C ⟨4, c.st, c.cm, c.ws, c.at_ + 1⟩⟩, 0)
def stepW (wo : WoM) (C : Nat) (c : ClM) : WoM × AnsM :=
  if c.ph = 1 then
    if c.ws.length = 0 then (wo.setC C idleC, ansCode 0)
    else ((lockW wo C { c with ph := 2 }).1, ansCode (lockW wo C { c with ph := 2 }).2)
  else if c.ph = 2 then
    if c.at_ = c.ws.length then sealW wo C c else ((lockW wo C c).1, ansCode (lockW wo C c).2)
  else if c.ph = 3 ∨ c.ph = 4 then ((commitW wo C c).1, ansCode (commitW wo C c).2)
  else (wo, ansCode 6)
/-- P2.6. -/
def resolveW (wo : WoM) (key : ByteArray) : WoM × Int :=
  if keyB key = false then (wo, 4)
  else if hasK (rowKeys wo.rows) key = false then (wo, 5)
  else if (rowAt wo.rows key).ls = 0 then (wo, 5)
  else
    let r := rowAt wo.rows key
    if (statIn wo.rows r.lp r.ls).1 = 2 then
      ({ wo with rows := (chgRow wo.rows key (commitOp r.ls (statIn wo.rows r.lp r.ls).2)).1 }, (chgRow wo.rows key (commitOp r.ls (statIn wo.rows r.lp r.ls).2)).2)
    else
      let x := chgRow wo.rows r.lp (undoOp r.ls)
      if x.2 ≠ 0 then (wo, x.2)
      else ({ wo with rows := (chgRow x.1 key (undoOp r.ls)).1 }, (chgRow x.1 key (undoOp r.ls)).2)
/-- P2.2: an act that can be performed. -/
def performW (wo : WoM) (a : ActM) : WoM × AnsM :=
  let C := a.c.toNat
  let c := wo.cls.getD C default
  if a.kind = 1 then beginW wo C c
  else if a.kind = 2 then (wo, getA wo c a.key)
  else if a.kind = 3 then (wo.setC C (putC c a.key a.val).1, ansCode (putC c a.key a.val).2)
  else if a.kind = 4 then stepW wo C c
  else if a.kind = 5 then ((dropW wo C c).1, ansCode (dropW wo C c).2)
  else ((resolveW wo a.key).1, ansCode (resolveW wo a.key).2)
/-- P2.2: the world and the answer of an act that has no error. -/
def doW (wo : WoM) (a : ActM) : WoM × AnsM := ((performW wo a).1, { (performW wo a).2 with ph := ((performW wo a).1.cls.getD a.c.toNat default).ph })
end Go.Proofs.YtambkjnhfejfaacGreatDoor

namespace Go.Proofs.YtambkjnhfejfaacGreatDoor
open Go.RowKit

/-- P1.2 of records, in other words. -/
theorem recsOk_iff (l : List RecM) : recsFrom 0 0 l = true ↔ (∀ r ∈ l, recB r = true) ∧ l.Pairwise (fun a b => a.s < b.s ∧ (b.c ≠ 0 → a.c ≤ b.s)) := by
  rw [recsFrom_iff]
  constructor
  · rintro ⟨h1, h2⟩
    exact ⟨fun r hr => (h1 r hr).1, h2⟩
  · rintro ⟨h1, h2⟩
    refine ⟨fun r hr => ?_, h2⟩
    have hb := h1 r hr
    have hs : 1 ≤ r.s := by
      simp only [recB, Bool.and_eq_true] at hb
      exact (inB_true.1 hb.1).1
    exact ⟨hb, by omega, fun _ => by omega⟩
theorem lockB_iff {ls : Int} {lp val : ByteArray} {l : List RecM} (h : ls ≠ 0) : lockB ls lp val l = true ↔ inB ls 1 1099511627776 = true ∧ keyB lp = true ∧ val.size ≤ 20 ∧ ∀ r ∈ l, r.s ≠ ls ∧ r.c ≤ ls := by
  have hl := lastIx_neg (fun r => r.s == ls || decide (ls < r.c)) l
  simp only [lockB, if_neg h, Bool.and_eq_true, decide_eq_true_eq, and_assoc]
  rw [hl]
  refine and_congr_right fun _ => and_congr_right fun _ => and_congr_right fun _ => forall_congr' fun r => imp_congr_right fun _ => ?_
  simp only [Bool.or_eq_false_iff, beq_eq_false_iff_ne, decide_eq_false_iff_not, ne_eq]
  omega
theorem rowB_parts {key : ByteArray} {ls : Int} {lp val : ByteArray} {l : List RecM} : rowB key ls lp val l = true ↔ keyB key = true ∧ (l.length : Int) ≤ roomOf ls ∧ recsFrom 0 0 l = true ∧ lockB ls lp val l = true := by
  simp only [rowB, Bool.and_eq_true, decide_eq_true_eq, and_assoc]
theorem lock_zero {l : List RecM} : lockB 0 emptyS emptyS l = true := by simp [lockB, toList_data]
theorem recB_parts {r : RecM} (h : recB r = true) : 1 ≤ r.s ∧ r.s ≤ 1099511627776 ∧ (r.c ≠ 0 → r.s < r.c) := by
  simp only [recB, Bool.and_eq_true] at h
  obtain ⟨h1, h2⟩ := inB_true.1 h.1
  refine ⟨h1, h2, fun hc => ?_⟩
  have := h.2
  rw [if_neg hc] at this
  simp only [Bool.and_eq_true, decide_eq_true_eq] at this
  exact this.1.1
theorem endRec_len (l : List RecM) (x : RecM) : (endRec l x).length ≤ l.length + 1 := by
  have h : (l.filter fun y => decide (y.s < x.s)).length + (l.filter fun y => decide (x.s < y.s)).length ≤ l.length := by
    induction l with
    | nil => simp
    | cons y l ih =>
      simp only [List.filter_cons]
      by_cases h1 : y.s < x.s
      · have h2 : ¬ x.s < y.s := by omega
        simp [h1, h2]; omega
      · by_cases h2 : x.s < y.s <;> simp [h1, h2] <;> omega
  unfold endRec
  simp only [List.length_append, List.length_cons, List.length_nil]
  omega
theorem mem_endRec {l : List RecM} {x y : RecM} : y ∈ endRec l x ↔ y = x ∨ (y ∈ l ∧ y.s ≠ x.s) := by
  unfold endRec
  simp only [List.mem_append, List.mem_filter, decide_eq_true_eq, List.mem_singleton]
  constructor
  · rintro ((⟨h, h'⟩ | h) | ⟨h, h'⟩)
    · exact .inr ⟨h, by omega⟩
    · exact .inl h
    · exact .inr ⟨h, by omega⟩
  · rintro (h | ⟨h, h'⟩)
    · exact .inl (.inr h)
    · rcases Int.lt_or_gt_of_ne h' with h' | h'
      · exact .inl (.inl ⟨h, h'⟩)
      · exact .inr ⟨h, h'⟩
/-- A record laid among records. -/
theorem endRec_ok {l : List RecM} {x : RecM} (h : recsFrom 0 0 l = true) (hx : recB x = true) (h1 : ∀ a ∈ l, a.s < x.s → x.c ≠ 0 → a.c ≤ x.s) (h2 : ∀ b ∈ l, x.s < b.s → b.c ≠ 0 → x.c ≤ b.s) : recsFrom 0 0 (endRec l x) = true := by
  rw [recsOk_iff] at h ⊢
  refine ⟨fun r hr => ?_, ?_⟩
  · rcases mem_endRec.1 hr with rfl | ⟨hr, _⟩
    · exact hx
    · exact h.1 r hr
  · unfold endRec
    rw [List.append_assoc, List.pairwise_append]
    refine ⟨h.2.sublist List.filter_sublist, ?_, ?_⟩
    · rw [List.singleton_append, List.pairwise_cons]
      refine ⟨fun b hb => ?_, h.2.sublist List.filter_sublist⟩
      obtain ⟨hb, hlt⟩ := List.mem_filter.1 hb
      have hlt : x.s < b.s := by simpa using hlt
      exact ⟨hlt, h2 b hb hlt⟩
    · intro a ha b hb
      obtain ⟨ha', hlt'⟩ := List.mem_filter.1 ha
      have hlt : a.s < x.s := by simpa using hlt'
      rcases List.mem_append.1 hb with hb | hb
      · have e := List.mem_singleton.1 hb
        rw [e]
        exact ⟨hlt, h1 a ha' hlt⟩
      · obtain ⟨hb', hgt'⟩ := List.mem_filter.1 hb
        have hgt : x.s < b.s := by simpa using hgt'
        refine ⟨by omega, ?_⟩
        clear ha hb hlt' hgt'
        obtain ⟨i, hi, rfl⟩ := List.getElem_of_mem ha'
        obtain ⟨j, hj, rfl⟩ := List.getElem_of_mem hb'
        have hp := List.pairwise_iff_getElem.1 h.2
        rcases Nat.lt_trichotomy i j with hij | hij | hij
        · exact (hp i j hi hj hij).2
        · subst hij; omega
        · have := (hp j i hj hi hij).1; omega

section
variable {r : RowM} {st cm : Int} {pk pv : ByteArray}
theorem stOf_three {ls st : Int} {l : List RecM} (h : stOf ls st l = 3) : ls ≠ st := by
  intro e
  rw [stOf_one.2 e] at h
  omega
theorem lockOp_valid (h : r.ok = true) (e : (lockOp st pk pv r).2 = 0) : (lockOp st pk pv r).1.ok = true ∧ (lockOp st pk pv r).1.key = r.key := by
  have he : lockE r.key r.ls r.lp r.val r.recs st pk pv = 0 := by
    unfold lockOp at e
    split at e
    · assumption
    · exact e
  have hq : lockOp st pk pv r = (⟨r.key, st, pk, pv, r.recs⟩, 0) := by unfold lockOp; rw [if_pos he]
  rw [hq]
  refine ⟨?_, rfl⟩
  obtain ⟨p1, p2, p3, p4⟩ := rowB_parts.1 (show rowB r.key r.ls r.lp r.val r.recs = true from h)
  unfold lockE at he
  have hr : rowB r.key r.ls r.lp r.val r.recs = true := h
  rw [if_neg (by rw [hr]; decide)] at he
  split at he
  · omega
  rename_i q1
  split at he
  · omega
  rename_i q2
  split at he
  · omega
  rename_i q3
  split at he
  · omega
  rename_i q4
  split at he
  · omega
  rename_i q5
  split at he
  · omega
  rename_i q6
  split at he
  · omega
  rename_i q7
  have q1' : inB st 1 1099511627776 = true := by simpa using q1
  have q2' : keyB pk = true := by simpa using q2
  have q5' := lateB_false.1 (by simpa using q5)
  have hls : r.ls = 0 := by simpa using q6
  obtain ⟨b1, _⟩ := inB_true.1 q1'
  show rowB r.key st pk pv r.recs = true
  have hroom : roomOf st = 99 := if_neg (by omega)
  refine rowB_parts.2 ⟨p1, by omega, p3, (lockB_iff (by omega)).2 ⟨q1', q2', by omega, fun x hx => ⟨fun hxs => ?_, q5' x hx⟩⟩⟩
  -- a record of the transaction itself
  have hne : ¬ r.ls = st := by omega
  have hf : hasRec st r.recs = true := by
    cases hh : hasRec st r.recs with
    | true => rfl
    | false => exact absurd hxs (hasRec_false.1 hh x hx)
  have hs3 : stOf r.ls st r.recs ≠ 3 := by simpa using q4
  simp only [stOf, if_neg hne, hf, if_true] at hs3
  have hc : (recOf st r.recs).c ≠ 0 := by
    intro hc
    rw [if_pos hc] at hs3
    exact hs3 rfl
  have hmem : recOf st r.recs ∈ r.recs ∧ (recOf st r.recs).s = st := by
    unfold hasRec at hf
    obtain ⟨y, hy⟩ := Option.isSome_iff_exists.1 hf
    unfold recOf
    rw [hy]
    refine ⟨List.mem_of_find?_eq_some hy, ?_⟩
    have := List.find?_some hy
    simpa using this
  have hb := recB_parts (((recsOk_iff _).1 p3).1 _ hmem.1)
  have h1 := hb.2.2 hc
  have h2 := q5' _ hmem.1
  omega
theorem commitOp_valid (h : r.ok = true) (e : (commitOp st cm r).2 = 0) : (commitOp st cm r).1.ok = true ∧ (commitOp st cm r).1.key = r.key ∧ r.ls = st ∧ inB st 1 1099511627776 = true ∧ inB cm (st + 1) 1099511627776 = true := by
  have he : commitE r.key r.ls r.lp r.val r.recs st cm = 0 := by
    unfold commitOp at e
    split at e
    · assumption
    · exact e
  have hq : commitOp st cm r = (⟨r.key, 0, emptyS, emptyS, endRec r.recs ⟨st, cm, r.val⟩⟩, 0) := by unfold commitOp; rw [if_pos he]
  rw [hq]
  obtain ⟨p1, p2, p3, p4⟩ := rowB_parts.1 (show rowB r.key r.ls r.lp r.val r.recs = true from h)
  have hr : rowB r.key r.ls r.lp r.val r.recs = true := h
  unfold commitE at he
  rw [if_neg (by rw [hr]; decide)] at he
  split at he
  · omega
  rename_i q1
  split at he
  · omega
  rename_i q2
  split at he
  · omega
  split at he
  · omega
  rename_i q4
  have q1' : inB st 1 1099511627776 = true := by simpa using q1
  have q2' : inB cm (st + 1) 1099511627776 = true := by simpa using q2
  have q4' : r.ls = st := by simpa using q4
  refine ⟨?_, rfl, q4', q1', q2'⟩
  obtain ⟨b1, b2⟩ := inB_true.1 q1'
  obtain ⟨b3, b4⟩ := inB_true.1 q2'
  have hl := (lockB_iff (by omega)).1 p4
  have hroom : roomOf r.ls = 99 := if_neg (by omega)
  refine rowB_parts.2 ⟨p1, by have := endRec_len r.recs ⟨st, cm, r.val⟩; simp only [roomOf, if_true]; omega, endRec_ok p3 ?_ (fun a ha hlt _ => ?_) (fun b hb hlt hc => ?_), lock_zero⟩
  · simp only [recB]
    rw [if_neg (by omega), q1']
    simp only [Bool.true_and, Bool.and_eq_true, decide_eq_true_eq]
    exact ⟨⟨by omega, b4⟩, hl.2.2.1⟩
  · have := (hl.2.2.2 a ha).2
    show a.c ≤ st
    omega
  · have h1 := (hl.2.2.2 b hb).2
    have h2 := (recB_parts (((recsOk_iff _).1 p3).1 b hb)).2.2 hc
    have hlt' : st < b.s := hlt
    omega
theorem undoOp_valid (h : r.ok = true) (e : (undoOp st r).2 = 0) : (undoOp st r).1.ok = true ∧ (undoOp st r).1.key = r.key ∧ inB st 1 1099511627776 = true := by
  have he : undoE r.key r.ls r.lp r.val r.recs st = 0 := by
    unfold undoOp at e
    split at e
    · assumption
    · exact e
  have hq : undoOp st r = (undoneR st r, 0) := by unfold undoOp; rw [if_pos he]
  rw [hq]
  obtain ⟨p1, p2, p3, p4⟩ := rowB_parts.1 (show rowB r.key r.ls r.lp r.val r.recs = true from h)
  have hr : rowB r.key r.ls r.lp r.val r.recs = true := h
  unfold undoE at he
  rw [if_neg (by rw [hr]; decide)] at he
  split at he
  · omega
  rename_i q1
  have q1' : inB st 1 1099511627776 = true := by simpa using q1
  obtain ⟨b1, b2⟩ := inB_true.1 q1'
  have hrec : recB (⟨st, 0, emptyS⟩ : RecM) = true := by simp [recB, q1', toList_data]
  have hins : recsFrom 0 0 (endRec r.recs ⟨st, 0, emptyS⟩) = true := endRec_ok p3 hrec (fun _ _ _ hc => absurd rfl hc) (fun b hb _ _ => by have := (recB_parts (((recsOk_iff _).1 p3).1 b hb)).1; show (0 : Int) ≤ b.s; omega)
  have hlen := endRec_len r.recs ⟨st, 0, emptyS⟩
  split at he
  · omega
  rename_i q2
  dsimp only
  unfold undoneR
  split
  · exact ⟨h, rfl, q1'⟩
  rename_i q3
  rw [if_neg q3] at he
  split
  · rename_i q4
    have hls := stOf_one.1 q4
    have hroom : roomOf r.ls = 99 := if_neg (by omega)
    exact ⟨rowB_parts.2 ⟨p1, by simp only [roomOf, if_true]; omega, hins, lock_zero⟩, rfl, q1'⟩
  · rename_i q4
    have hls : ¬ r.ls = st := fun hh => q4 (stOf_one.2 hh)
    rw [if_neg hls] at he
    split at he
    · omega
    rename_i q5
    refine ⟨?_, rfl, q1'⟩
    show rowB r.key r.ls r.lp r.val (endRec r.recs ⟨st, 0, emptyS⟩) = true
    refine rowB_parts.2 ⟨p1, by omega, hins, ?_⟩
    by_cases h0 : r.ls = 0
    · rw [h0] at p4 ⊢
      simpa [lockB] using p4
    · have hl := (lockB_iff h0).1 p4
      refine (lockB_iff h0).2 ⟨hl.1, hl.2.1, hl.2.2.1, fun x hx => ?_⟩
      rcases mem_endRec.1 hx with rfl | ⟨hx, _⟩
      · exact ⟨fun hh => hls hh.symm, by show (0 : Int) ≤ r.ls; have := (inB_true.1 hl.1).1; omega⟩
      · exact hl.2.2.2 x hx
end
end Go.Proofs.YtambkjnhfejfaacGreatDoor

namespace Go.Proofs.YtambkjnhfejfaacGreatDoor
open Go.RowKit

/-- Rows that are valid, their keys increase. -/
structure RowsOk (rows : List RowM) : Prop where
  inc : Inc (rowKeys rows)
  ok : ∀ r ∈ rows, r.ok = true
  len : rows.length ≤ 40
theorem hasK_lt {rows : List RowM} {key : ByteArray} (h : hasK (rowKeys rows) key = true) : lowIx (rowKeys rows) key < rows.length := by
  simp only [hasK, Bool.and_eq_true, decide_eq_true_eq, List.length_map] at h
  exact h.1
theorem rowAt_mem {rows : List RowM} {key : ByteArray} (h : hasK (rowKeys rows) key = true) : rowAt rows key ∈ rows := getD_mem (hasK_lt h)
theorem rowAt_get {rows : List RowM} {key : ByteArray} (h : hasK (rowKeys rows) key = true) : rows[lowIx (rowKeys rows) key]? = some (rowAt rows key) := getD_some (hasK_lt h)
theorem rowAt_key {rows : List RowM} {key : ByteArray} (h : hasK (rowKeys rows) key = true) : (rowAt rows key).key = key := by
  have hlt := hasK_lt h
  simp only [hasK, Bool.and_eq_true, decide_eq_true_eq] at h
  have := h.2
  simpa [List.getD, hlt, rowAt] using this

section
variable {w : World} {t : Bool} {Z : Nat → Prop} {B bx bC : Nat} {wo : WoM}
/-- The rows of an owned world. -/
theorem Own.rowsAt (h : Own w t Z B bx bC wo) : ∃ bR rc, w.cell? ⟨bx, 0, none⟩ = some (.slice (some ⟨bR, 0, none⟩) wo.rows.length rc) ∧ RowsAt w (· < w.heap.size) (some ⟨bR, 0, none⟩) wo.rows := by
  obtain ⟨bR, rc, wb, c0, _, _, hco⟩ := h.core
  exact ⟨bR, rc, c0, (hco.in_ (Nat.le_refl _) (Nat.le_refl _)).rows⟩

set_option maxHeartbeats 1000000 in
theorem findRow_any (key : ByteArray) (h : Own w t Z B bx bC wo) (hs : Inc (rowKeys wo.rows)) :
    Calls Tryz.prog 44 #[.pointer (some ⟨bx, 0, none⟩), .string key] w fun e w' => e = .returned (.tuple #[.int .i64 (lowIx (rowKeys wo.rows) key), .bool (hasK (rowKeys wo.rows) key)]) ∧ Below w.heap.size w w' := by
  obtain ⟨bR, rc, c0, hr⟩ := h.rowsAt
  have HR := Lib.hid hr
  have HS := Lib.hid hs
  clear h hr hs
  go_enter Tryz.func44, Tryz.ntmps44
  go_wp2_with fail
  refine (searchRows_any wo.rows key _ _ rc w rfl HR.out HS.out).mono ?_
  rintro e w1 ⟨rfl, hb1⟩
  go_wp2
  go_ret2
  exact ⟨rfl, hb1⟩

set_option maxHeartbeats 1000000 in
theorem statusIn_any (key : ByteArray) (st : Int) (h : Own w t Z B bx bC wo) (hr : RowsOk wo.rows) (hst : inB st 1 1099511627776 = true) :
    Calls Tryz.prog 51 #[.pointer (some ⟨bx, 0, none⟩), .string key, .int .i64 st] w fun e w' => e = .returned (.tuple #[.int .i64 (statIn wo.rows key st).1, .int .i64 (statIn wo.rows key st).2]) ∧ Below w.heap.size w w' := by
  have HO := Lib.hid h
  have HR := Lib.hid hr
  clear h hr
  by_cases hk : hasK (rowKeys wo.rows) key = true
  · obtain ⟨i, hi⟩ : ∃ i, i = lowIx (rowKeys wo.rows) key := ⟨_, rfl⟩
    have hlt : i < wo.rows.length := by rw [hi]; exact hasK_lt hk
    obtain ⟨r, hr0⟩ : ∃ r, r = rowAt wo.rows key := ⟨_, rfl⟩
    have hget : wo.rows[i]? = some r := by rw [hi, hr0]; exact rowAt_get hk
    have hok : r.ok = true := HR.out.ok r (by rw [hr0]; exact rowAt_mem hk)
    have HI := Lib.hid hi
    have HST := Lib.hid (show statIn wo.rows key st = (stOf r.ls st r.recs, cmOf r.ls st r.recs) by rw [statIn, if_pos hk, ← hr0])
    have j0 : (0 : Int) ≤ (i : Int) := by omega
    have j1 : (i : Int) < (wo.rows.length : Int) := by omega
    clear hi hr0
    go_enter Tryz.func51, Tryz.ntmps51
    go_wp2_with fail
    refine (findRow_any key HO.out HR.out.inc).mono ?_
    rw [← HI.out, hk]
    rintro e w1 ⟨rfl, hb1⟩
    obtain ⟨bR, rc, c0, hrows⟩ := (HO.out.upto hb1).rowsAt
    obtain ⟨b, o, hA, hbb, hrow⟩ := hrows.at_ hget
    obtain ⟨rfl, rfl⟩ : bR = b ∧ 0 = o := by injection hA with e; injection e with e1 e2; exact ⟨e1, e2⟩
    rw [Nat.zero_add] at hrow
    have d0 := hrow.ck
    have d1 := hrow.cs
    have d2 := hrow.cp
    have d3 := hrow.cv
    obtain ⟨A, q, d4, _, hri⟩ := hrow.rowIn (fun _ h => h)
    have HRI := Lib.hid hri
    have HT := Lib.hid (show rowB r.key r.ls r.lp r.val r.recs = true from hok)
    clear hrow hrows hA hri hget hok
    obtain ⟨rk, ls, lp, val, recs⟩ := r
    dsimp only at d0 d1 d2 d3 d4
    go_wp2_with fail
    refine (status_ok rk lp val ls A recs.length q recs st w1 HRI.out HT.out hst).mono ?_
    rintro e w2 ⟨rfl, hb2⟩
    go_wp2
    go_ret2
    exact ⟨ret_two (by rw [HST.out]) (by rw [HST.out]), below_next hb1 hb2⟩
  · have hk : hasK (rowKeys wo.rows) key = false := by simpa using hk
    have HST := Lib.hid (show statIn wo.rows key st = (0, 0) by rw [statIn, hk]; rfl)
    go_enter Tryz.func51, Tryz.ntmps51
    go_wp2_with fail
    refine (findRow_any key HO.out HR.out.inc).mono ?_
    rw [hk]
    rintro e w1 ⟨rfl, hb1⟩
    go_wp2
    go_ret2
    exact ⟨ret_two (by rw [HST.out]) (by rw [HST.out]), hb1⟩

/-- One cell is another. -/
theorem set1_same (W : World) (p : Addr) (u : Value) : Same W (W.setCell p u) (fun q => q = p) := by
  refine Same.set (Same.refl W _) ?_ u
  rfl
theorem i64_small {n : Int} (h0 : 0 ≤ n) (h1 : n ≤ 1099511627776) : i64 n := by unfold i64; omega

set_option maxHeartbeats 1000000 in
theorem tick_any (h : Own w t Z B bx bC wo) (h0 : 0 ≤ wo.clock) (h1 : wo.clock ≤ 1099511627376) :
    Calls Tryz.prog 41 #[.pointer (some ⟨bx, 0, none⟩)] w fun e w' => e = .returned (.int .i64 (wo.clock + 1)) ∧ Own w' t Z B bx bC { wo with clock := wo.clock + 1 } ∧ Keeps B Z w w' := by
  have x1 := h.x1
  have f1 := h.xf 1
  have HO := Lib.hid h
  clear h
  go_enter Tryz.func41, Tryz.ntmps41
  go_wp2
  go_ret
  refine ⟨rfl, ?_, (Keeps.refl _ _ _).set HO.out.xB.1 HO.out.xZ _⟩
  have hs := set1_same w ⟨bx, 1, none⟩ (.int .i64 (wo.clock + 1))
  obtain ⟨bR, rc, wb, c0, hrc, ht, hco⟩ := HO.out.core
  refine ⟨⟨HO.out.xB.1, by rw [hs.sz]; exact HO.out.xB.2⟩, HO.out.xZ, fun b e => by rw [hs.sz]; exact HO.out.zlt b e, fun o => (hs.fr _).trans (HO.out.xf o), World.cell?_setCell_same _ _ _ x1, (hs.cell _ (by simp)).trans HO.out.x2, bR, rc, wb, (hs.cell _ (by simp)).trans c0, hrc, ht, hco.tick hs (fun p hp => by rw [hp]; exact .inl rfl) _ (i64_small (by omega) (by omega))⟩
end
end Go.Proofs.YtambkjnhfejfaacGreatDoor

namespace Go.Proofs.YtambkjnhfejfaacGreatDoor
open Go.RowKit

theorem fresh_valid {key : ByteArray} (h : keyB key = true) : (freshRow key).ok = true := by
  show rowB key 0 emptyS emptyS [] = true
  exact rowB_parts.2 ⟨h, by simp [roomOf], rfl, lock_zero⟩
/-- A sorted list of keys with one more in its place. -/
theorem inc_ins {ks : List ByteArray} {key : ByteArray} (h : Inc ks) (hk : hasK ks key = false) : Inc (ks.take (lowIx ks key) ++ key :: ks.drop (lowIx ks key)) := by
  unfold Inc
  rw [List.pairwise_append]
  have hlt : ∀ a ∈ ks.take (lowIx ks key), ltS a key = true := by
    intro a ha
    obtain ⟨j, hj, rfl⟩ := List.getElem_of_mem ha
    have hj' : j < lowIx ks key ∧ j < ks.length := by simp at hj; omega
    have := lowIx_lt hj'.1
    simpa [List.getD, hj'.2] using this
  have hgt : ∀ b ∈ ks.drop (lowIx ks key), ltS key b = true := by
    intro b hb
    obtain ⟨j, hj, rfl⟩ := List.getElem_of_mem hb
    have hj' : lowIx ks key + j < ks.length := by simp at hj; omega
    have hl : lowIx ks key < ks.length := by omega
    have h1 := lowIx_ge hl
    have h2 : ltS key (ks.getD (lowIx ks key) default) = true := by
      cases hh : ltS key (ks.getD (lowIx ks key) default) with
      | true => rfl
      | false =>
        have e := ltS_total h1 hh
        simp only [hasK, e, hl, decide_true, Bool.and_self] at hk
        cases hk
    have e : (ks.drop (lowIx ks key))[j] = ks.getD (lowIx ks key + j) default := by simp [List.getD, hj']
    rw [e]
    rcases Nat.eq_zero_or_pos j with h0 | h0
    · subst h0; exact h2
    · exact ltS_trans h2 (inc_lt h (by omega) hj')
  refine ⟨h.sublist (List.take_sublist _ _), ?_, ?_⟩
  · rw [List.pairwise_cons]
    exact ⟨hgt, h.sublist (List.drop_sublist _ _)⟩
  · intro a ha b hb
    rcases List.mem_cons.1 hb with rfl | hb
    · exact hlt a ha
    · exact ltS_trans (hlt a ha) (hgt b hb)
theorem keys_set {rows : List RowM} {i : Nat} {r' : RowM} (h : ∀ hi : i < rows.length, r'.key = rows[i].key) : rowKeys (rows.set i r') = rowKeys rows := by
  apply List.ext_getElem?
  intro j
  simp only [rowKeys, List.getElem?_map, List.getElem?_set]
  by_cases e : i = j
  · subst e
    by_cases hi : i < rows.length
    · simp [hi, h hi]
    · simp [hi]
  · simp [e]
/-- An operation that keeps rows valid, and their keys. -/
def OpGood (op : RowM → RowM × Int) : Prop := ∀ r : RowM, r.ok = true → (op r).2 = 0 → (op r).1.ok = true ∧ (op r).1.key = r.key
theorem lockOp_good (st : Int) (pk pv : ByteArray) : OpGood (lockOp st pk pv) := fun _ h e => lockOp_valid h e
theorem commitOp_good (st cm : Int) : OpGood (commitOp st cm) := fun _ h e => ⟨(commitOp_valid h e).1, (commitOp_valid h e).2.1⟩
theorem undoOp_good (st : Int) : OpGood (undoOp st) := fun _ h e => ⟨(undoOp_valid h e).1, (undoOp_valid h e).2.1⟩
theorem chg_ok {rows : List RowM} {key : ByteArray} {op : RowM → RowM × Int} (h : RowsOk rows) (hop : OpGood op) (hk : hasK (rowKeys rows) key = true ∨ keyB key = true) : RowsOk (chgRow rows key op).1 := by
  unfold chgRow
  by_cases hh : hasK (rowKeys rows) key = true
  · rw [if_pos hh]
    dsimp only
    split
    · rename_i e
      have hlt := hasK_lt hh
      have hmem := rowAt_mem hh
      obtain ⟨g1, g2⟩ := hop _ (h.ok _ hmem) e
      have hkeys : rowKeys (rows.set (lowIx (rowKeys rows) key) (op (rowAt rows key)).1) = rowKeys rows := keys_set fun hi => by rw [g2]; simp [rowAt, List.getD, hi]
      refine ⟨by rw [hkeys]; exact h.inc, fun r hr => ?_, by simpa using h.len⟩
      rcases List.mem_or_eq_of_mem_set hr with hr | rfl
      · exact h.ok r hr
      · exact g1
    · exact h
  · have hh' : hasK (rowKeys rows) key = false := by simpa using hh
    rw [if_neg hh]
    split
    · exact h
    · rename_i h40
      dsimp only
      split
      · rename_i e
        have hkb := hk.resolve_left hh
        obtain ⟨g1, g2⟩ := hop _ (fresh_valid hkb) e
        refine ⟨?_, fun r hr => ?_, by simp; omega⟩
        · have : rowKeys (rows.take (lowIx (rowKeys rows) key) ++ (op (freshRow key)).1 :: rows.drop (lowIx (rowKeys rows) key)) = (rowKeys rows).take (lowIx (rowKeys rows) key) ++ key :: (rowKeys rows).drop (lowIx (rowKeys rows) key) := by
            simp only [rowKeys, List.map_append, List.map_cons, List.map_take, List.map_drop, g2]; rfl
          rw [this]
          exact inc_ins h.inc hh'
        · rcases List.mem_append.1 hr with hr | hr
          · exact h.ok r (List.mem_of_mem_take hr)
          · rcases List.mem_cons.1 hr with rfl | hr
            · exact g1
            · exact h.ok r (List.mem_of_mem_drop hr)
      · exact h
/-- Where the transaction is locked, the row is there. -/
theorem stat_has {rows : List RowM} {key : ByteArray} {st : Int} (h : (statIn rows key st).1 ≠ 0) : hasK (rowKeys rows) key = true := by
  cases hh : hasK (rowKeys rows) key with
  | true => rfl
  | false => rw [statIn, hh] at h; exact absurd rfl h
theorem failRows_snoc (st : Int) (l : List WrM) (x : WrM) (rows : List RowM) : failRows st (l ++ [x]) rows = (if (statIn (failRows st l rows) x.k st).1 = 1 then (chgRow (failRows st l rows) x.k (undoOp st)).1 else failRows st l rows) := by
  induction l generalizing rows with
  | nil => rfl
  | cons y l ih => exact ih _
theorem failRows_ok {st : Int} {l : List WrM} {rows : List RowM} (h : RowsOk rows) : RowsOk (failRows st l rows) := by
  induction l generalizing rows with
  | nil => exact h
  | cons x l ih =>
    refine ih ?_
    split
    · rename_i e
      exact chg_ok h (undoOp_good st) (.inl (stat_has (by rw [e]; decide)))
    · exact h
end Go.Proofs.YtambkjnhfejfaacGreatDoor

namespace Go.Proofs.YtambkjnhfejfaacGreatDoor
open Go.RowKit

theorem Same.mono {W W' : World} {S S' : Addr → Prop} (h : Same W W' S) (hS : ∀ p, S p → S' p) : Same W W' S' := ⟨fun p hp => h.cell p fun e => hp (hS p e), h.fr, h.sz⟩
theorem Same.trans {W W' W'' : World} {S : Addr → Prop} (h : Same W W' S) (h' : Same W' W'' S) : Same W W'' S := ⟨fun p hp => (h'.cell p hp).trans (h.cell p hp), fun p => (h'.fr p).trans (h.fr p), h'.sz.trans h.sz⟩
theorem getD_of_get {α : Type} {d c : α} {l : List α} {k : Nat} (h : l[k]? = some c) : l.getD k d = c := by simp [List.getD, h]

section
variable {w w' : World} {t : Bool} {Z : Nat → Prop} {B bx bC : Nat} {wo : WoM} {C : Nat} {c c' : ClM}

/-- A client of an owned world. -/
theorem Own.cl (h : Own w t Z B bx bC wo) (hc : wo.cls[C]? = some c) : w.cell? ⟨bC, C * 5, none⟩ = some (.int .i64 c.ph) ∧ w.cell? ⟨bC, C * 5 + 1, none⟩ = some (.int .i64 c.st) ∧ w.cell? ⟨bC, C * 5 + 2, none⟩ = some (.int .i64 c.cm) ∧ w.cell? ⟨bC, C * 5 + 4, none⟩ = some (.int .i64 c.at_) ∧
    (∃ A k, w.cell? ⟨bC, C * 5 + 3, none⟩ = some (.slice A c.ws.length k) ∧ c.ws.length ≤ k ∧ WrsAt w (· < w.heap.size) A c.ws) ∧ ClOk c ∧ (∀ o, w.frozen? ⟨bC, o, none⟩ = false) ∧ B ≤ bC ∧ ¬ Z bC ∧ C < wo.cls.length := by
  obtain ⟨bR, rc, wb, _, _, _, hco⟩ := h.core
  have hx := hco.cls C c hc
  have hi := (List.getElem?_eq_some_iff.1 hc).1
  obtain ⟨A, k, h3, hk, hw⟩ := hx.cw
  exact ⟨hx.cp, hx.cs, hx.cm, hx.ca, ⟨A, k, h3, hk, SeqAt.wrs hw (fun b hb => by rw [hb]; exact (hco.wB C hi).2.1) (fun _ _ _ => rfl)⟩, hx.ok, hco.cf, hco.cB.1, fun e => hco.cB.2.2 (.inr e), hi⟩
/-- One client is another. -/
theorem Own.client (h : Own w t Z B bx bC wo) (hc : wo.cls[C]? = some c) (hs : Same w w' (five bC (C * 5))) (hn : ∀ b, ClAt w (· = b) bC (C * 5) c → b ≠ bC → ClAt w' (· = b) bC (C * 5) c') : Own w' t Z B bx bC (wo.setC C c') := by
  obtain ⟨bR, rc, wb, c0, hrc, ht, hco⟩ := h.core
  have hi := (List.getElem?_eq_some_iff.1 hc).1
  have hne : bx ≠ bC := fun e => hco.cB.2.2 (.inl e.symm)
  have hx : ∀ o, w'.cell? ⟨bx, o, none⟩ = w.cell? ⟨bx, o, none⟩ := fun o => hs.cell _ fun e => hne e.1
  refine ⟨⟨h.xB.1, by rw [hs.sz]; exact h.xB.2⟩, h.xZ, fun b e => by rw [hs.sz]; exact h.zlt b e, fun o => (hs.fr _).trans (h.xf o), (hx 1).trans h.x1, ?_, bR, rc, wb, (hx 0).trans c0, hrc, ht, hco.client hi hs (hn _ (hco.cls C c hc) (hco.wB C hi).2.2.2.2)⟩
  rw [hx 2, h.x2]
  simp [WoM.setC]
/-- The writes of a client, where its cells alone have turned. -/
theorem ClAt.cells {b bC o : Nat} (h : ClAt w (· = b) bC o c) (hne : b ≠ bC) (hs : Same w w' (five bC o)) {A : Option Addr} {k : Nat} (h3 : w.cell? ⟨bC, o + 3, none⟩ = some (.slice A c.ws.length k)) : c.ws.length ≤ k ∧ WrsAt w' (· = b) A c.ws := by
  obtain ⟨A', k', h3', hk, hw⟩ := h.cw
  rw [h3] at h3'
  injection h3' with h3'
  injection h3' with e1 _ e2
  subst e1 e2
  exact ⟨hk, SeqAt.wrs hw (fun _ h => h) fun b' k' hb => hs.cell _ fun e => by
    have e1 : b' = bC := e.1
    have hb' : b' = b := hb
    exact hne (by omega)⟩

theorem i64_zero : i64 0 := by unfold i64; omega
theorem drop_idle (hc : w.cell? ⟨bC, C * 5, none⟩ = some (.int .i64 0)) : Calls Tryz.prog 32 #[.pointer (some ⟨bC, C * 5, none⟩)] w fun e w' => e = .returned (.int .i64 6) ∧ w = w' := by
  go_enter Tryz.func32, Tryz.ntmps32
  go_wp2
  go_ret
  exact ⟨rfl, rfl⟩

set_option maxHeartbeats 1000000 in
theorem drop_any (h : Own w t Z B bx bC wo) (hc : wo.cls[C]? = some c) (h0 : c.ph ≠ 0) :
    Calls Tryz.prog 32 #[.pointer (some ⟨bC, C * 5, none⟩)] w fun e w' => e = .returned (.int .i64 0) ∧ Own w' t Z B bx bC (wo.setC C idleC) ∧ Keeps B Z w w' := by
  obtain ⟨c0, c1, c2, c4, ⟨A, k, c3, _, _⟩, _, hf, hB, hZ, _⟩ := h.cl hc
  have f0 := hf (C * 5)
  have f1 := hf (C * 5 + 1)
  have f2 := hf (C * 5 + 2)
  have f3 := hf (C * 5 + 3)
  have f4 := hf (C * 5 + 4)
  have HO := Lib.hid h
  have HC := Lib.hid hc
  have h0' : (c.ph == 0) = false := by simpa using h0
  have HZ := Lib.hid hZ
  clear h hc hf h0 hZ
  go_enter Tryz.func32, Tryz.ntmps32
  go_wp2
  go_ret
  refine ⟨rfl, ?_, (Keeps.refl _ _ _).set5 hB HZ.out _ _ _ _ _ _⟩
  obtain ⟨a0, a1, a2, a3, a4⟩ := set5_at c0 c1 c2 c3 c4 (.int .i64 0) (.int .i64 0) (.int .i64 0) (.slice none 0 0) (.int .i64 0)
  exact HO.out.client HC.out (set5_same _ _ _ _ _ _ _ _) fun b _ _ => ⟨a0, a1, a2, ⟨none, 0, a3, Nat.le_refl _, SeqAt.nil_ _⟩, a4, i64_zero, i64_zero, i64_zero, i64_zero⟩

/-- An answer that goes out, with a world that is the call's own. -/
def AnsOut (t : Bool) (Z : Nat → Prop) (B bx bC : Nat) (x : WoM × AnsM) (w : World) (e : Ending) (w' : World) : Prop := e = .returned (ansV x.2) ∧ Own w' t Z B bx bC x.1 ∧ Keeps B Z w w'
/-- Of what was there, only the block of the rows has turned. -/
def RowsTurn (bx : Nat) (w w' : World) : Prop := ∀ bR n rc, w.cell? ⟨bx, 0, none⟩ = some (.slice (some ⟨bR, 0, none⟩) n rc) → ∀ b, b < w.heap.size → b ≠ bR → w'.heap[b]? = w.heap[b]?
/-- A number that goes out, with a world that is the call's own. -/
def NumOut (t : Bool) (Z : Nat → Prop) (B bx bC : Nat) (x : WoM × Int) (w : World) (e : Ending) (w' : World) : Prop := e = .returned (.int .i64 x.2) ∧ Own w' t Z B bx bC x.1 ∧ Keeps B Z w w'
/-- The same, and of what was there only the block of the rows has turned. -/
def FoundOut (t : Bool) (Z : Nat → Prop) (B bx bC : Nat) (x : WoM × Int) (w : World) (e : Ending) (w' : World) : Prop := NumOut t Z B bx bC x w e w' ∧ RowsTurn bx w w'
end
end Go.Proofs.YtambkjnhfejfaacGreatDoor

namespace Go.Proofs.YtambkjnhfejfaacGreatDoor
open Go.RowKit

theorem ans_new (w : World) : ∃ W0, W0 = w.alloc (.cells #[.int .i64 0, .bool false, .string ⟨#[]⟩, .int .i64 0, .int .i64 0] 55) ∧ Below w.heap.size w W0 ∧ W0.heap.size = w.heap.size + 1 ∧
    W0.cell? ⟨w.heap.size, 0, none⟩ = some (.int .i64 0) ∧ W0.cell? ⟨w.heap.size, 1, none⟩ = some (.bool false) ∧ W0.cell? ⟨w.heap.size, 2, none⟩ = some (.string ⟨#[]⟩) ∧ W0.cell? ⟨w.heap.size, 3, none⟩ = some (.int .i64 0) ∧ W0.cell? ⟨w.heap.size, 4, none⟩ = some (.int .i64 0) ∧ (∀ o, W0.frozen? ⟨w.heap.size, o, none⟩ = false) :=
  ⟨_, rfl, below_alloc (Below.refl _ _) _, by simp, by simp, by simp, by simp, by simp, by simp, fun o => by simp⟩
/-- An answer's box in a later world that keeps it. -/
theorem ans_later {W0 W : World} {g B : Nat} {Z : Nat → Prop} (hk : Keeps B Z W0 W) (hg : g < W0.heap.size) (hz : Z g) (c0 : W0.cell? ⟨g, 0, none⟩ = some (.int .i64 0)) (c1 : W0.cell? ⟨g, 1, none⟩ = some (.bool false)) (c2 : W0.cell? ⟨g, 2, none⟩ = some (.string ⟨#[]⟩)) (c3 : W0.cell? ⟨g, 3, none⟩ = some (.int .i64 0)) (c4 : W0.cell? ⟨g, 4, none⟩ = some (.int .i64 0)) (f : ∀ o, W0.frozen? ⟨g, o, none⟩ = false) :
    W.cell? ⟨g, 0, none⟩ = some (.int .i64 0) ∧ W.cell? ⟨g, 1, none⟩ = some (.bool false) ∧ W.cell? ⟨g, 2, none⟩ = some (.string ⟨#[]⟩) ∧ W.cell? ⟨g, 3, none⟩ = some (.int .i64 0) ∧ W.cell? ⟨g, 4, none⟩ = some (.int .i64 0) ∧ W.frozen? ⟨g, 0, none⟩ = false ∧ W.frozen? ⟨g, 1, none⟩ = false ∧ W.frozen? ⟨g, 2, none⟩ = false ∧ W.frozen? ⟨g, 3, none⟩ = false ∧ W.frozen? ⟨g, 4, none⟩ = false :=
  ⟨(hk.cell hg hz 0).trans c0, (hk.cell hg hz 1).trans c1, (hk.cell hg hz 2).trans c2, (hk.cell hg hz 3).trans c3, (hk.cell hg hz 4).trans c4, (hk.frozen hg hz 0).trans (f 0), (hk.frozen hg hz 1).trans (f 1), (hk.frozen hg hz 2).trans (f 2), (hk.frozen hg hz 3).trans (f 3), (hk.frozen hg hz 4).trans (f 4)⟩

section
variable {w w' W W0 : World} {t : Bool} {Z : Nat → Prop} {B bx bC : Nat} {wo : WoM} {C : Nat} {c c' : ClM}
/-- Where only what is apart has turned. -/
theorem Own.same {S : Addr → Prop} (h : Own w t Z B bx bC wo) (hs : Same w w' S) (hS : ∀ p, S p → Z p.block) : Own w' t Z B bx bC wo := by
  obtain ⟨bR, rc, wb, c0, hrc, ht, hco⟩ := h.core
  have hx : ∀ o, w'.cell? ⟨bx, o, none⟩ = w.cell? ⟨bx, o, none⟩ := fun o => hs.cell _ fun e => h.xZ (hS _ e)
  exact ⟨⟨h.xB.1, by rw [hs.sz]; exact h.xB.2⟩, h.xZ, fun b e => by rw [hs.sz]; exact h.zlt b e, fun o => (hs.fr _).trans (h.xf o), (hx 1).trans h.x1, (hx 2).trans h.x2, bR, rc, wb, (hx 0).trans c0, hrc, ht, hco.tick hs (fun p e => .inr (hS p e)) wo.clock hco.ck⟩
theorem Own.base (h : Own w t Z B bx bC wo) : B ≤ w.heap.size := by have := h.xB; omega
theorem i64_one : i64 1 := by unfold i64; omega
/-- The answer is stored. -/
theorem ans_end {g : Nat} {t' : Bool} {c0 : WoM} (h0 : Own w t Z B bx bC c0) (hb0 : Below w.heap.size w W0) (hg : g = w.heap.size) (ho : Own W t' (fun b => Z b ∨ b = g) B bx bC wo) (hk : Keeps B (fun b => Z b ∨ b = g) W0 W) (v0 v1 v2 v3 v4 : Value) :
    Own (set5 W g 0 v0 v1 v2 v3 v4) t' Z B bx bC wo ∧ Keeps B Z w (set5 W g 0 v0 v1 v2 v3 v4) := by
  have hzg : ¬ Z g := fun e => by have := h0.zlt g e; omega
  have hB := h0.base
  refine ⟨(ho.same (set5_same W g 0 v0 v1 v2 v3 v4) fun p e => .inr e.1).less fun b e => .inl e, ?_⟩
  exact ((Keeps.new hB hb0).trans (hk.less fun b e => .inl e)).set5 (by omega) hzg _ _ _ _ _ _

theorem setC_get (hC : C < wo.cls.length) : (wo.setC C c').cls[C]? = some c' := by simp [WoM.setC, hC]
theorem setC_setC {c1 c2 : ClM} : (wo.setC C c1).setC C c2 = wo.setC C c2 := by simp [WoM.setC]
theorem cell_ne (b o o' : Nat) (h : o ≠ o') : (⟨b, o, none⟩ : Addr) ≠ ⟨b, o', none⟩ := fun e => h (by injection e)
theorem Own.ph (h : Own w t Z B bx bC wo) (hc : wo.cls[C]? = some c) {v : Int} (hv : i64 v) : Own (w.setCell ⟨bC, C * 5, none⟩ (.int .i64 v)) t Z B bx bC (wo.setC C { c with ph := v }) := by
  obtain ⟨c0, c1, c2, c4, ⟨A, k, c3, _, _⟩, hok, _⟩ := h.cl hc
  have hs := set1_same w ⟨bC, C * 5, none⟩ (.int .i64 v)
  have hs5 := hs.mono (S' := five bC (C * 5)) fun p e => by rw [e]; exact ⟨rfl, Nat.le_refl _, by show C * 5 < C * 5 + 5; omega⟩
  refine h.client hc hs5 fun b hcl hne => ?_
  obtain ⟨hk, hw⟩ := hcl.cells hne hs5 c3
  exact ⟨World.cell?_setCell_same _ _ _ c0, (hs.cell _ (cell_ne _ _ _ (by omega))).trans c1, (hs.cell _ (cell_ne _ _ _ (by omega))).trans c2, ⟨A, k, (hs.cell _ (cell_ne _ _ _ (by omega))).trans c3, hk, hw⟩, (hs.cell _ (cell_ne _ _ _ (by omega))).trans c4, hv, hok.s, hok.m, hok.a⟩
theorem Own.cm (h : Own w t Z B bx bC wo) (hc : wo.cls[C]? = some c) {v : Int} (hv : i64 v) : Own (w.setCell ⟨bC, C * 5 + 2, none⟩ (.int .i64 v)) t Z B bx bC (wo.setC C { c with cm := v }) := by
  obtain ⟨c0, c1, c2, c4, ⟨A, k, c3, _, _⟩, hok, _⟩ := h.cl hc
  have hs := set1_same w ⟨bC, C * 5 + 2, none⟩ (.int .i64 v)
  have hs5 := hs.mono (S' := five bC (C * 5)) fun p e => by rw [e]; exact ⟨rfl, by show C * 5 ≤ C * 5 + 2; omega, by show C * 5 + 2 < C * 5 + 5; omega⟩
  refine h.client hc hs5 fun b hcl hne => ?_
  obtain ⟨hk, hw⟩ := hcl.cells hne hs5 c3
  exact ⟨(hs.cell _ (cell_ne _ _ _ (by omega))).trans c0, (hs.cell _ (cell_ne _ _ _ (by omega))).trans c1, World.cell?_setCell_same _ _ _ c2, ⟨A, k, (hs.cell _ (cell_ne _ _ _ (by omega))).trans c3, hk, hw⟩, (hs.cell _ (cell_ne _ _ _ (by omega))).trans c4, hok.p, hok.s, hv, hok.a⟩
theorem Own.at_ (h : Own w t Z B bx bC wo) (hc : wo.cls[C]? = some c) {v : Int} (hv : i64 v) : Own (w.setCell ⟨bC, C * 5 + 4, none⟩ (.int .i64 v)) t Z B bx bC (wo.setC C { c with at_ := v }) := by
  obtain ⟨c0, c1, c2, c4, ⟨A, k, c3, _, _⟩, hok, _⟩ := h.cl hc
  have hs := set1_same w ⟨bC, C * 5 + 4, none⟩ (.int .i64 v)
  have hs5 := hs.mono (S' := five bC (C * 5)) fun p e => by rw [e]; exact ⟨rfl, by show C * 5 ≤ C * 5 + 4; omega, by show C * 5 + 4 < C * 5 + 5; omega⟩
  refine h.client hc hs5 fun b hcl hne => ?_
  obtain ⟨hk, hw⟩ := hcl.cells hne hs5 c3
  exact ⟨(hs.cell _ (cell_ne _ _ _ (by omega))).trans c0, (hs.cell _ (cell_ne _ _ _ (by omega))).trans c1, (hs.cell _ (cell_ne _ _ _ (by omega))).trans c2, ⟨A, k, (hs.cell _ (cell_ne _ _ _ (by omega))).trans c3, hk, hw⟩, World.cell?_setCell_same _ _ _ c4, hok.p, hok.s, hok.m, hv⟩

set_option maxHeartbeats 2000000 in
theorem begin_any (h : Own w t Z B bx bC wo) (hc : wo.cls[C]? = some c) (h0 : 0 ≤ wo.clock) (h1 : wo.clock ≤ 1099511627376) :
    Calls Tryz.prog 28 #[.pointer (some ⟨bx, 0, none⟩), .pointer (some ⟨bC, C * 5, none⟩)] w (AnsOut t Z B bx bC (beginW wo C c) w) := by
  obtain ⟨W0, hW, hb0, hs0, z0, z1, z2, z3, z4, zf⟩ := ans_new w
  have hg : w.heap.size < W0.heap.size := by omega
  have HW := Lib.hid hW
  have HB0 := Lib.hid hb0
  have HO0 := Lib.hid h
  have HO := Lib.hid (h.more hb0 (Nat.le_refl _) hg)
  have HC := Lib.hid hc
  have HZF := Lib.hid zf
  obtain ⟨c0, c1, c2, c4, ⟨A, k, c3, _, _⟩, _, hf, hB, hZ, _⟩ := h.cl hc
  have hbC : bC < w.heap.size := World.block_lt_of_cell? w _ c0
  clear h hc hW hb0 hs0 zf hf hZ
  by_cases hp : c.ph = 0
  · have HP := Lib.hid hp
    have hp' : (c.ph != 0) = false := by simpa using hp
    have HBW := Lib.hid (show beginW wo C c = (⟨wo.rows, wo.clock + 1, wo.cls.set C ⟨1, wo.clock + 1, 0, [], 0⟩⟩, ansTime (wo.clock + 1)) by rw [beginW, if_pos hp])
    clear hp c1 c2 c3 c4 hB
    go_enter Tryz.func28, Tryz.ntmps28
    go_wp2_with fail
    rw [← HW.out]
    refine (tick_any HO.out h0 h1).mono ?_
    rintro e w1 ⟨rfl, ho1, hk1⟩
    obtain ⟨c0, c1, c2, c4, ⟨A, k, c3, _, _⟩, _, hf, hB, hZ, _⟩ := ho1.cl HC.out
    have f0 := hf (C * 5)
    have f1 := hf (C * 5 + 1)
    have f2 := hf (C * 5 + 2)
    have f3 := hf (C * 5 + 3)
    have f4 := hf (C * 5 + 4)
    obtain ⟨y0, y1, y2, y3, y4, g0, g1, g2, g3, g4⟩ := ans_later hk1 hg (.inr rfl) z0 z1 z2 z3 z4 HZF.out
    have HO1 := Lib.hid ho1
    have HK1 := Lib.hid hk1
    have HZ := Lib.hid hZ
    have hne : w.heap.size ≠ bC := fun e => hZ (.inr e.symm)
    have hne' : bC ≠ w.heap.size := fun e => hZ (.inr e)
    clear ho1 hk1 hf hZ
    go_wp2
    obtain ⟨a0, a1, a2, a3, a4⟩ := set5_at c0 c1 c2 c3 c4 (.int .i64 1) (.int .i64 (wo.clock + 1)) (.int .i64 0) (.slice none 0 0) (.int .i64 0)
    have hcl := i64_small (n := wo.clock + 1) (by omega) (by omega)
    have hoW := HO1.out.client (c' := ⟨1, wo.clock + 1, 0, [], 0⟩) HC.out (set5_same w1 bC (C * 5) (.int .i64 1) (.int .i64 (wo.clock + 1)) (.int .i64 0) (.slice none 0 0) (.int .i64 0)) fun b _ _ => ⟨a0, a1, a2, ⟨none, 0, a3, Nat.le_refl _, SeqAt.nil_ _⟩, a4, i64_one, hcl, i64_zero, i64_zero⟩
    have hkW := HK1.out.set5 hB HZ.out (C * 5) (.int .i64 1) (.int .i64 (wo.clock + 1)) (.int .i64 0) (.slice none 0 0) (.int .i64 0)
    obtain ⟨hA, hK⟩ := ans_end HO0.out HB0.out rfl hoW hkW (.int .i64 0) (.bool false) (.string ⟨#[]⟩) (.int .i64 0) (.int .i64 (wo.clock + 1))
    rw [HBW.out]
    exact bodyPost_ret (v := ansV (ansTime (wo.clock + 1))) (by simp [results, Tryz.results28, go_sem, y0, y1, y2, y3, y4, ansTime]) rfl ⟨rfl, hA, hK⟩
  · have hp' : (c.ph != 0) = true := by simpa using hp
    have HBW := Lib.hid (show beginW wo C c = (wo, ansCode 6) by rw [beginW, if_neg hp])
    clear hp c1 c2 c3 c4 hB
    go_enter Tryz.func28, Tryz.ntmps28
    go_wp2
    rw [HBW.out]
    have hal : Below w.heap.size w (w.alloc (.cells #[.int .i64 6, .bool false, .string ⟨#[]⟩, .int .i64 0, .int .i64 0] 55)) := below_alloc (Below.refl _ _) _
    exact bodyPost_ret (v := ansV (ansCode 6)) (by simp [results, Tryz.results28, go_sem, ansCode]) rfl ⟨rfl, HO0.out.upto hal, Keeps.new HO0.out.base hal⟩

set_option maxHeartbeats 2000000 in
theorem seal_any (h : Own w t Z B bx bC wo) (hc : wo.cls[C]? = some c) (h0 : 0 ≤ wo.clock) (h1 : wo.clock ≤ 1099511627376) :
    Calls Tryz.prog 48 #[.pointer (some ⟨bx, 0, none⟩), .pointer (some ⟨bC, C * 5, none⟩)] w (AnsOut t Z B bx bC (sealW wo C c) w) := by
  obtain ⟨W0, hW, hb0, hs0, z0, z1, z2, z3, z4, zf⟩ := ans_new w
  have hg : w.heap.size < W0.heap.size := by omega
  have HW := Lib.hid hW
  have HB0 := Lib.hid hb0
  have HO0 := Lib.hid h
  have HO := Lib.hid (h.more hb0 (Nat.le_refl _) hg)
  have HC := Lib.hid hc
  have HZF := Lib.hid zf
  clear h hc hW hb0 hs0 zf
  go_enter Tryz.func48, Tryz.ntmps48
  go_wp2_with fail
  rw [← HW.out]
  refine (tick_any HO.out h0 h1).mono ?_
  rintro e w1 ⟨rfl, ho1, hk1⟩
  obtain ⟨c0, c1, c2, c4, ⟨A, k, c3, _, _⟩, hok, hf, hB, hZ, _⟩ := ho1.cl HC.out
  have f0 := hf (C * 5)
  have f2 := hf (C * 5 + 2)
  have f4 := hf (C * 5 + 4)
  obtain ⟨y0, y1, y2, y3, y4, g0, g1, g2, g3, g4⟩ := ans_later hk1 hg (.inr rfl) z0 z1 z2 z3 z4 HZF.out
  have HO1 := Lib.hid ho1
  have HK1 := Lib.hid hk1
  have HZ := Lib.hid hZ
  have hne : w.heap.size ≠ bC := fun e => hZ (.inr e.symm)
  have hne' : bC ≠ w.heap.size := fun e => hZ (.inr e)
  have HOK := Lib.hid hok
  clear ho1 hk1 hf hZ hok
  go_wp2
  have hC : C < wo.cls.length := (List.getElem?_eq_some_iff.1 HC.out).1
  have hcl := i64_small (n := wo.clock + 1) (by omega) (by omega)
  have o1 := HO1.out.ph (v := 3) HC.out (by unfold i64; omega)
  have o2 := o1.cm (v := wo.clock + 1) (setC_get hC) hcl
  have o3 := o2.at_ (v := 0) (setC_get (by simpa [WoM.setC] using hC)) i64_zero
  rw [setC_setC, setC_setC] at o3
  have hkW := (((HK1.out.set (p := ⟨bC, C * 5, none⟩) hB HZ.out (.int .i64 3)).set (p := ⟨bC, C * 5 + 2, none⟩) hB HZ.out (.int .i64 (wo.clock + 1))).set (p := ⟨bC, C * 5 + 4, none⟩) hB HZ.out (.int .i64 0))
  obtain ⟨hA, hK⟩ := ans_end HO0.out HB0.out rfl o3 hkW (.int .i64 0) (.bool false) (.string ⟨#[]⟩) (.int .i64 0) (.int .i64 (wo.clock + 1))
  exact bodyPost_ret (v := ansV (ansTime (wo.clock + 1))) (by simp [results, Tryz.results48, go_sem, y0, y1, y2, y3, y4, ansTime]) rfl ⟨rfl, hA, hK⟩

set_option maxHeartbeats 1000000 in
theorem accessError_any (key : ByteArray) (h : Own w t Z B bx bC wo) (hc : wo.cls[C]? = some c) (hk : key.size ≤ maxLen) :
    Calls Tryz.prog 42 #[.pointer (some ⟨bC, C * 5, none⟩), .string key] w fun e w' => e = .returned (.int .i64 (accessE c key)) ∧ w = w' := by
  obtain ⟨c0, _⟩ := h.cl hc
  have HK := Lib.hid hk
  clear h hc hk
  by_cases hp : c.ph = 1
  · have hp' : (c.ph != 1) = false := by simpa using hp
    have HP := Lib.hid hp
    clear hp
    by_cases t : keyB key = true
    all_goals
      try (have t' : keyB key = false := by simpa using t)
      go_enter Tryz.func42, Tryz.ntmps42
      go_wp2_with (go_at_call 50; refine (key_any _ _ HK.out).mono ?_; rintro e w' ⟨rfl, rfl⟩)
      go_ret
      exact ⟨ret_int (by simp_all [accessE, HP.out]), rfl⟩
  · have hp' : (c.ph != 1) = true := by simpa using hp
    have HP := Lib.hid hp
    clear hp
    go_enter Tryz.func42, Tryz.ntmps42
    go_wp2_with (go_at_call 50; refine (key_any _ _ HK.out).mono ?_; rintro e w' ⟨rfl, rfl⟩)
    go_ret
    exact ⟨ret_int (by simp [accessE, HP.out]), rfl⟩

set_option maxHeartbeats 1000000 in
theorem findWrite_any (key : ByteArray) (h : Own w t Z B bx bC wo) (hc : wo.cls[C]? = some c) (hs : Inc (wrKeys c.ws)) :
    Calls Tryz.prog 43 #[.pointer (some ⟨bC, C * 5, none⟩), .string key] w fun e w' => e = .returned (.tuple #[.int .i64 (lowIx (wrKeys c.ws) key), .bool (hasK (wrKeys c.ws) key)]) ∧ Below w.heap.size w w' := by
  obtain ⟨_, _, _, _, ⟨A, k, c3, _, hw⟩, _⟩ := h.cl hc
  have HW := Lib.hid hw
  have HS := Lib.hid hs
  clear h hc hw hs
  go_enter Tryz.func43, Tryz.ntmps43
  go_wp2_with fail
  refine (searchWrs_any c.ws key _ _ k w rfl HW.out HS.out).mono ?_
  rintro e w1 ⟨rfl, hb1⟩
  go_wp2
  go_ret2
  exact ⟨rfl, hb1⟩
end
end Go.Proofs.YtambkjnhfejfaacGreatDoor
