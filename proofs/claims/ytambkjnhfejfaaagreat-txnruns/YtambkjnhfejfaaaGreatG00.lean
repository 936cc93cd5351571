/-
  Contracts of functions of the program and words for memory, several texts in one: Sh, Pure, Keys, Mem, Iff, Open, Small, Find. Conditions: those stated with each.
-/
import Derived.WalkKit
import Derived.Deep.RegionHeld
import Derived.Test.YtambkjnhfejfaaaGreatRows
import Derived.Outline
import Derived.Below
import Derived.Lib.Hide
import Derived.Deep.Draws
import Derived.Laws.OwnMore
import Derived.ProofKit
import Derived.OpenShut
import Derived.ShutString
import Derived.ChangeOld
import Derived.SizedLaws
import Derived.Deep.Slices
import Derived.Deep.Fields
import Derived.Deep.Strs
import Derived.ChangeSame
import Derived.WalkLawsBesides
import Derived.Shelf.Abstract
namespace Go.Proofs.YtambkjnhfejfaaaGreat
open Go.RowKit
section
variable {P : Program} {md : Region.Mode} {ops : Array Oper} {Q : Exit → Act → World → Prop} {S : World → Prop} {fuel : Nat} {listed : Array Bool} {a a' : Act} {w : World} {oi : Oper} {v : Value}
theorem cop (i : Nat) (ho : ops[i]? = some oi := by (simp only [List.getElem?_toArray, List.getElem?_cons_zero, List.getElem?_cons_succ]; rfl)) (hr : Region.ready md ops listed = [i] := by kernel_rfl)
 (h : ∀ K' : Act → World → Prop, Shut (∀ a w, S w → (S w → wpAnyH P md ops Q S fuel (listed.setIfInBounds i true) a w) → K' a w) → if Region.wanted oi (yielded ops a.tmps) = true then Oper.wp P oi a w K' Q else K' (a.put oi.dst undef) w) :
 wpAnyH P md ops Q S (fuel + 1) listed a w :=
 wpAnyH_ready (rs := [i]) hr (by simp) (AllReadyH.cons ho h AllReadyH.nil)
theorem tq (i : Nat) (h : wpAnyH P md ops Q S fuel (listed.setIfInBounds i true) a' w) (hi : ops[i]? = some oi := by (simp only [List.getElem?_toArray, List.getElem?_cons_zero, List.getElem?_cons_succ]; rfl))
 (hs : Region.noSelect ops = true := by kernel_rfl) (hf : Region.free md ops listed i = true := by kernel_rfl) (hr : (Region.ready md ops listed).contains i = true := by kernel_rfl)
 (hQ : ∀ c a w, Q (.panic c) (a.put oi.dst v) w → Q (.panic c) a w := by exact fun _ _ _ h => h)
 (hy : YieldsIf P ops S oi v a := by (first | (refine Or.inl ⟨by rfl, ?_⟩; intro w hSw; (try dsimp only at hSw); go_simp; (first | done | with_reducible rfl)) | exact Or.inr ⟨by rfl, rfl⟩))
 (hS : S w := by assumption)
 (hp : a.put oi.dst v = a' := by ((try simp only [Act.put, List.setIfInBounds_toArray, List.set_cons_zero, List.set_cons_succ]); (try rfl))) : wpAnyH P md ops Q S (fuel + 1) listed a w :=
 wpAnyH_take hi hs hf hr hQ hy hS (hp ▸ h)
end
theorem ret_bool {a b : Bool} (h : a = b) : Ending.returned (.bool a) = .returned (.bool b) := by rw [h]
theorem ret_int {k : IntKind} {a b : Int} (h : a = b) : Ending.returned (.int k a) = .returned (.int k b) := by rw [h]
def inB (n lo hi : Int) : Bool := decide (lo ≤ n) && decide (n ≤ hi)
theorem inB_true {n lo hi : Int} : inB n lo hi = true ↔ lo ≤ n ∧ n ≤ hi := by simp [inB]
theorem inB_false {n lo hi : Int} : inB n lo hi = false ↔ n < lo ∨ hi < n := by
 simp only [inB, Bool.and_eq_false_iff, decide_eq_false_iff_not]; omega
def letter (c : UInt8) : Bool := inB (c.toNat : Int) 97 122
def letters (l : List UInt8) : Bool := l.all letter
theorem letters_snoc (l : List UInt8) (c : UInt8) : letters (l ++ [c]) = (letters l && letter c) := by simp [letters]
theorem take_snoc (s : ByteArray) (k : Nat) (h : k < s.size) : s.data.toList.take (k + 1) = s.data.toList.take k ++ [s[k]] := by
 rw [List.take_succ_eq_append_getElem (by simpa using h)]; rfl
def keyB (s : ByteArray) : Bool := inB (s.size : Int) 1 6 && letters s.data.toList
theorem keyB_no {s : ByteArray} {k : Nat} (h : k < s.size) (hc : letter s[k] = false) : keyB s = false := by
 have : letters s.data.toList = false := by
  simp only [letters, List.all_eq_false]
  exact ⟨s[k], by simp [ByteArray.getElem_eq_getElem_data], by simp [hc]⟩
 simp [keyB, this]
theorem in_any (n lo hi : Int) (w : World) :
 Calls Tryz.prog 16 #[.int .i64 n, .int .i64 lo, .int .i64 hi] w fun e w' => e = .returned (.bool (inB n lo hi)) ∧ w = w' := by
 by_cases h1 : lo ≤ n <;> by_cases h2 : n ≤ hi
 all_goals
  go_enter Tryz.func16, Tryz.ntmps16
  go_wp2
  go_ret
  exact ⟨ret_bool (by simp [inB, h1, h2]), rfl⟩
set_option maxHeartbeats 400000 in
theorem key_any (s : ByteArray) (w : World) (hs : s.size ≤ maxLen) :
 Calls Tryz.prog 55 #[.string s] w fun e w' => e = .returned (.bool (keyB s)) ∧ w = w' := by
 unfold maxLen at hs
 by_cases h1 : 1 ≤ s.size
 ·by_cases h2 : s.size ≤ 6
  ·have g1 : ¬ s.size < 1 := by omega
   have g2 : ¬ 6 < s.size := by omega
   go_enter Tryz.func55, Tryz.ntmps55
   go_wp2
   go_loop [3] (fun i => ∃ k : Nat, k ≤ s.size ∧ i = .int .i64 k ∧ letters (s.data.toList.take k) = true) (fun i => s.size - (intOf i).toNat)
   case atStart => exact ⟨0, Nat.zero_le _, rfl, rfl⟩
   case round =>
    obtain ⟨k, hk, rfl, hl⟩ := hrel
    have HL := Lib.hid hl
    clear hl
    by_cases hlt : k < s.size
    ·by_cases c1 : 97 ≤ (s[k].toNat : Int)
     ·by_cases c2 : (s[k].toNat : Int) ≤ 122
      ·have d1 : ¬ (s[k].toNat : Int) < 97 := by omega
       have d2 : ¬ 122 < (s[k].toNat : Int) := by omega
       go_wp2
       go_round
       case rel => exact ⟨k + 1, by omega, by go_num, by rw [take_snoc s k hlt, letters_snoc, HL.out]; simp [letter, inB, c1, c2]⟩
       case measure => simp [intOf]; omega
      ·have d1 : ¬ (s[k].toNat : Int) < 97 := by omega
       have d2 : 122 < (s[k].toNat : Int) := by omega
       go_wp2
       go_ret
       exact ⟨ret_bool (keyB_no hlt (inB_false.2 (.inr d2))).symm, rfl⟩
     ·have d1 : (s[k].toNat : Int) < 97 := by omega
      go_wp2
      go_ret
      exact ⟨ret_bool (keyB_no hlt (inB_false.2 (.inl d1))).symm, rfl⟩
    ·go_wp2
     go_ret
     have hk' : k = s.size := by omega
     have hl := HL.out
     rw [List.take_of_length_le (by simp; omega)] at hl
     exact ⟨ret_bool (by simp [keyB, hl, inB]; omega), rfl⟩
  ·have g1 : ¬ s.size < 1 := by omega
   have g2 : 6 < s.size := by omega
   go_enter Tryz.func55, Tryz.ntmps55
   go_wp2
   go_ret
   exact ⟨ret_bool (by simp [keyB, inB]; omega), rfl⟩
 ·have g1 : s.size < 1 := by omega
  go_enter Tryz.func55, Tryz.ntmps55
  go_wp2
  go_ret
  exact ⟨ret_bool (by simp [keyB, inB]; omega), rfl⟩
set_option maxHeartbeats 400000 in
theorem keyMay_any (s : ByteArray) (w : World) (hs : s.size ≤ maxLen) :
 Calls Tryz.prog 18 #[.string s] w fun e w' => e = .returned (.bool (keyB s)) ∧ w = w' := by
 unfold maxLen at hs
 go_enter Tryz.func18, Tryz.ntmps18
 go_wp2
 go_loop [3] (fun i => ∃ k : Nat, k ≤ s.size ∧ i = .int .i64 k ∧ letters (s.data.toList.take k) = true) (fun i => s.size - (intOf i).toNat)
 case atStart => exact ⟨0, Nat.zero_le _, rfl, rfl⟩
 case round =>
  obtain ⟨k, hk, rfl, hl⟩ := hrel
  have HL := Lib.hid hl
  clear hl
  by_cases hlt : k < s.size
  ·by_cases c1 : letter s[k] = true
   ·have c1' := inB_true.1 c1
    have HC := Lib.hid c1
    have ht : inB (s[k].toNat : Int) 97 122 = true := c1
    clear c1
    go_wp2_with (go_at_call 16; refine (in_any _ _ _ _).mono ?_; rintro e w' ⟨rfl, rfl⟩)
    go_round
    case rel => exact ⟨k + 1, by omega, by go_num, by rw [take_snoc s k hlt, letters_snoc, HL.out, HC.out]; rfl⟩
    case measure => simp [intOf]; omega
   ·have ht : inB (s[k].toNat : Int) 97 122 = false := by simpa [letter] using c1
    have b0 : (0 : Int) ≤ (s[k].toNat : Int) := by omega
    have b1 : (s[k].toNat : Int) ≤ 255 := by have := s[k].toNat_lt; omega
    have HC := Lib.hid ht
    clear c1
    go_wp2_with (go_at_call 16; refine (in_any _ _ _ _).mono ?_; rintro e w' ⟨rfl, rfl⟩)
    go_ret
    exact ⟨ret_bool (keyB_no hlt HC.out).symm, rfl⟩
  ·go_wp2_with (go_at_call 16; refine (in_any _ _ _ _).mono ?_; rintro e w' ⟨rfl, rfl⟩)
   go_ret
   have hk' : k = s.size := by omega
   have hl := HL.out
   rw [List.take_of_length_le (by simp; omega)] at hl
   exact ⟨ret_bool (by simp [keyB, hl]), rfl⟩
theorem isTime_any (n : Int) (w : World) :
 Calls Tryz.prog 92 #[.int .i64 n] w fun e w' => e = .returned (.bool (inB n 1 1099511627776)) ∧ w = w' := by
 by_cases h1 : 1 ≤ n <;> by_cases h2 : n ≤ 1099511627776
 all_goals
  go_enter Tryz.func92, Tryz.ntmps92
  go_wp2
  go_ret
  exact ⟨ret_bool (by simp [inB, h1, h2]), rfl⟩
theorem refTime_any (n : Int) (w : World) :
 Calls Tryz.prog 37 #[.int .i64 n] w fun e w' => e = .returned (.bool (inB n 1 1099511627776)) ∧ w = w' := by
 go_enter Tryz.func37, Tryz.ntmps37
 go_wp2_with (go_at_call 16; refine (in_any _ _ _ _).mono ?_; rintro e w' ⟨rfl, rfl⟩)
 go_ret
 exact ⟨rfl, rfl⟩
structure RecM where
 s : Int
 c : Int
 v : ByteArray
instance : Inhabited RecM := ⟨⟨0, 0, ByteArray.empty⟩⟩
abbrev recV (r : RecM) : Value := .agg #[.int .i64 r.s, .int .i64 r.c, .string r.v]
def recC (r : RecM) : List Value := [.int .i64 r.s, .int .i64 r.c, .string r.v]
def i64 (n : Int) : Prop := -9223372036854775808 ≤ n ∧ n ≤ 9223372036854775807
structure RecOk (r : RecM) : Prop where
 s : i64 r.s
 c : i64 r.c
 v : r.v.size ≤ maxLen
structure RecAt (w : World) (b o : Nat) (r : RecM) : Prop where
 s : w.cell? ⟨b, o, none⟩ = some (.int .i64 r.s)
 c : w.cell? ⟨b, o + 1, none⟩ = some (.int .i64 r.c)
 v : w.cell? ⟨b, o + 2, none⟩ = some (.string r.v)
def RecsAt (w : World) (B : Nat) (A : Option Addr) (l : List RecM) : Prop :=
 l.length ≤ 4398046511104 ∧ (∀ r ∈ l, RecOk r) ∧ (0 < l.length → ∃ b o, A = some ⟨b, o, none⟩ ∧ b < B ∧ ∀ i r, l[i]? = some r → RecAt w b (o + i * 3) r)
section
variable {w w' : World} {B B' : Nat} {A : Option Addr} {l : List RecM}
theorem RecsAt.len (h : RecsAt w B A l) : l.length ≤ 4398046511104 := h.1
theorem RecsAt.ok (h : RecsAt w B A l) {r : RecM} (hr : r ∈ l) : RecOk r := h.2.1 r hr
theorem RecsAt.at_ (h : RecsAt w B A l) {i : Nat} {r : RecM} (hr : l[i]? = some r) : ∃ b o, A = some ⟨b, o, none⟩ ∧ b < B ∧ RecAt w b (o + i * 3) r := by
 have hl : i < l.length := (List.getElem?_eq_some_iff.1 hr).1
 obtain ⟨b, o, hA, hb, hc⟩ := h.2.2 (by omega)
 exact ⟨b, o, hA, hb, hc i r hr⟩
theorem RecAt.keep {b o : Nat} {r : RecM} (h : RecAt w b o r) (hk : ∀ k, w'.cell? ⟨b, k, none⟩ = w.cell? ⟨b, k, none⟩) : RecAt w' b o r :=
 ⟨(hk _).trans h.s, (hk _).trans h.c, (hk _).trans h.v⟩
theorem RecsAt.keep (h : RecsAt w B A l) (hk : ∀ b k, b < B → w'.cell? ⟨b, k, none⟩ = w.cell? ⟨b, k, none⟩) : RecsAt w' B A l :=
 ⟨h.1, h.2.1, fun hn => by
  obtain ⟨b, o, hA, hb, hc⟩ := h.2.2 hn
  exact ⟨b, o, hA, hb, fun i r hr => (hc i r hr).keep fun k => hk b k hb⟩⟩
theorem RecsAt.more (h : RecsAt w B A l) (hB : B ≤ B') : RecsAt w B' A l :=
 ⟨h.1, h.2.1, fun hn => by
  obtain ⟨b, o, hA, hb, hc⟩ := h.2.2 hn
  exact ⟨b, o, hA, by omega, hc⟩⟩
theorem RecsAt.below (h : RecsAt w B A l) (hb : Below B w w') : RecsAt w' B A l := h.keep fun _ _ hp => hb.cell (p := ⟨_, _, none⟩) hp
theorem RecsAt.upto (h : RecsAt w w.heap.size A l) (hb : Below w.heap.size w w') : RecsAt w' w'.heap.size A l := (h.below hb).more hb.size
theorem RecsAt.drewN (h : RecsAt w B A l) (k : Nat) : RecsAt (w.drewN k) B A l := h.keep fun _ _ _ => rfl
theorem RecsAt.drew (h : RecsAt w B A l) : RecsAt w.drew B A l := h.keep fun _ _ _ => rfl
theorem RecsAt.alloc (h : RecsAt w B A l) (hB : B ≤ w.heap.size) (o : Obj) : RecsAt (w.alloc o) B A l := h.keep fun b k hp => World.cell?_alloc_lt w o ⟨b, k, none⟩ (by show b < _; omega)
theorem RecsAt.setCell (h : RecsAt w B A l) {p : Addr} (hB : B ≤ p.block) (u : Value) : RecsAt (w.setCell p u) B A l :=
 h.keep fun b k hq => World.cell?_setCell_other w p ⟨b, k, none⟩ u (fun e => by have : p.block = b := congrArg Addr.block e; omega)
theorem RecsAt.nil_ (w : World) (B : Nat) (A : Option Addr) : RecsAt w B A [] := ⟨by simp, by simp, fun h => absurd h (by simp)⟩
theorem RecsAt.take (h : RecsAt w B A l) (k : Nat) : RecsAt w B A (l.take k) := by
 refine ⟨by have := h.1; simp only [List.length_take]; omega, fun r hr => h.2.1 r (List.mem_of_mem_take hr), fun hn => ?_⟩
 have hn' : 0 < l.length := by simp only [List.length_take] at hn; omega
 obtain ⟨b, o, hA, hb, hc⟩ := h.2.2 hn'
 refine ⟨b, o, hA, hb, fun i r hr => hc i r ?_⟩
 rw [List.getElem?_take] at hr
 split at hr
 ·exact hr
 ·cases hr
end
def lastUpto (p : RecM → Bool) (l : List RecM) : Nat → Int
 | 0 => -1
 | k + 1 => if p (l.getD k default) then (k : Int) else lastUpto p l k
def lastIx (p : RecM → Bool) (l : List RecM) : Int := lastUpto p l l.length
theorem lastUpto_bd (p : RecM → Bool) (l : List RecM) (k : Nat) : -1 ≤ lastUpto p l k ∧ lastUpto p l k < k := by
 induction k with
 | zero => simp [lastUpto]
 | succ k ih => simp only [lastUpto]; split <;> omega
theorem lastIx_bd (p : RecM → Bool) (l : List RecM) : -1 ≤ lastIx p l ∧ lastIx p l < l.length := lastUpto_bd p l _
def recB (r : RecM) : Bool := inB r.s 1 1099511627776 && (if r.c = 0 then r.v.toList.isEmpty else decide (r.s < r.c) && decide (r.c ≤ 1099511627776) && decide (r.v.size ≤ 20))
def recsFrom : Int → Int → List RecM → Bool
 | _, _, [] => true
 | s, c, r :: l => decide (s < r.s) && recB r && !(r.c != 0 && decide (r.s < c)) && recsFrom r.s (if c < r.c then r.c else c) l
theorem lastUpto_neg (p : RecM → Bool) (l : List RecM) (k : Nat) : lastUpto p l k < 0 ↔ ∀ i, i < k → p (l.getD i default) = false := by
 induction k with
 | zero => simp [lastUpto]
 | succ k ih =>
  simp only [lastUpto]
  by_cases h : p (l.getD k default) = true
  ·rw [if_pos h]
   refine ⟨fun h' => by omega, fun h' => ?_⟩
   have := h' k (by omega)
   rw [h] at this; cases this
  ·rw [if_neg h, ih]
   refine ⟨fun h' i hi => ?_, fun h' i hi => h' i (by omega)⟩
   by_cases e : i = k
   ·subst e; simpa using h
   ·exact h' i (by omega)
theorem lastIx_neg (p : RecM → Bool) (l : List RecM) : lastIx p l < 0 ↔ ∀ r ∈ l, p r = false := by
 unfold lastIx
 rw [lastUpto_neg]
 refine ⟨fun h r hr => ?_, fun h i hi => h _ (by simp [List.getD, hi])⟩
 obtain ⟨i, hi, rfl⟩ := List.getElem_of_mem hr
 have := h i hi
 simpa [List.getD, hi] using this
def lockB (ls : Int) (lp val : ByteArray) (l : List RecM) : Bool :=
 if ls = 0 then lp.toList.isEmpty && val.toList.isEmpty
 else inB ls 1 1099511627776 && keyB lp && decide (val.size ≤ 20) && decide (lastIx (fun r => r.s == ls || decide (ls < r.c)) l < 0)
def roomOf (ls : Int) : Int := if ls = 0 then 100 else 99
theorem roomOf_bd (ls : Int) : 99 ≤ roomOf ls ∧ roomOf ls ≤ 100 := by unfold roomOf; split <;> omega
def rowB (key : ByteArray) (ls : Int) (lp val : ByteArray) (l : List RecM) : Bool :=
 keyB key && decide ((l.length : Int) ≤ roomOf ls) && recsFrom 0 0 l && lockB ls lp val l
def firstOf (st : Int) (l : List RecM) : Option RecM := l.find? (fun r => r.s == st)
theorem firstOf_at {st : Int} {l : List RecM} {k : Nat} (hk : k < l.length) (h0 : ∀ j, j < k → (l.getD j default).s ≠ st) (h : (l.getD k default).s = st) : firstOf st l = some (l.getD k default) := by
 unfold firstOf
 rw [List.find?_eq_some_iff_getElem]
 refine ⟨by simpa using h, k, hk, by simp [List.getD, hk], fun j hj => ?_⟩
 have := h0 j hj
 have hj' : j < l.length := by omega
 simpa [List.getD, hj'] using this
theorem firstOf_none {st : Int} {l : List RecM} (h0 : ∀ j, j < l.length → (l.getD j default).s ≠ st) : firstOf st l = none := by
 unfold firstOf
 rw [List.find?_eq_none]
 intro r hr
 obtain ⟨i, hi, rfl⟩ := List.getElem_of_mem hr
 have := h0 i hi
 simpa [List.getD, hi] using this
def recOf (st : Int) (l : List RecM) : RecM := (firstOf st l).getD ⟨0, 0, ByteArray.empty⟩
def hasRec (st : Int) (l : List RecM) : Bool := (firstOf st l).isSome
section
variable {sn cn rs rc : Int} {rv : ByteArray} {t : List RecM}
theorem recsFrom_no1 (h : rs ≤ sn) : recsFrom sn cn (⟨rs, rc, rv⟩ :: t) = false := by
 have : ¬ sn < rs := by omega
 simp [recsFrom, this]
theorem recsFrom_no2 (h : recB ⟨rs, rc, rv⟩ = false) : recsFrom sn cn (⟨rs, rc, rv⟩ :: t) = false := by simp [recsFrom, h]
theorem recsFrom_no3 (h : (rc != 0) = true) (h' : rs < cn) : recsFrom sn cn (⟨rs, rc, rv⟩ :: t) = false := by simp [recsFrom, h, h']
theorem recsFrom_yes (h : sn < rs) (h2 : recB ⟨rs, rc, rv⟩ = true) (h3 : rc = 0 ∨ ¬ rs < cn) : recsFrom sn cn (⟨rs, rc, rv⟩ :: t) = recsFrom rs (if cn < rc then rc else cn) t := by
 rcases h3 with rfl | h3
 ·simp [recsFrom, h, h2]
 ·simp [recsFrom, h, h2, h3]
end
theorem drop_cons {l : List RecM} {k : Nat} (h : k < l.length) : l.drop k = l.getD k default :: l.drop (k + 1) := by
 rw [List.drop_eq_getElem_cons h]; simp [List.getD, h]
section
variable {w W W' : World}
theorem below_next (h : Below w.heap.size w W) (h' : Below W.heap.size W W') : Below w.heap.size w W' := h.trans (h'.mono h.size)
theorem below_alloc (h : Below w.heap.size w W) (o : Obj) : Below w.heap.size w (W.alloc o) := h.alloc h.size o
theorem below_drew (h : Below w.heap.size w W) : Below w.heap.size w W.drew := h.drew
theorem below_drewN (h : Below w.heap.size w W) (n : Nat) : Below w.heap.size w (W.drewN n) := ⟨h.os, h.tape, h.output, h.size, h.block⟩
theorem below_set (h : Below w.heap.size w W) {p : Addr} (hp : w.heap.size ≤ p.block) (u : Value) : Below w.heap.size w (W.setCell p u) := h.setCell hp u
end
theorem boxS {W0 w' : World} {g : Nat} {v0 v1 v2 v3 v4 : Value} (h0 : W0.cell? ⟨g, 0, none⟩ = some v0) (h1 : W0.cell? ⟨g, 1, none⟩ = some v1) (h2 : W0.cell? ⟨g, 2, none⟩ = some v2) (h3 : W0.cell? ⟨g, 3, none⟩ = some v3)
 (h4 : W0.cell? ⟨g, 4, none⟩ = some v4) (hb : Below W0.heap.size W0 w') :
 w'.cell? ⟨g, 0, none⟩ = some v0 ∧ w'.cell? ⟨g, 1, none⟩ = some v1 ∧ w'.cell? ⟨g, 2, none⟩ = some v2 ∧ w'.cell? ⟨g, 3, none⟩ = some v3 ∧ w'.cell? ⟨g, 4, none⟩ = some v4 ∧ Below W0.heap.size W0 w' := by
 have hg : g < W0.heap.size := World.block_lt_of_cell? W0 _ h0
 exact ⟨(hb.cell (p := ⟨g, 0, none⟩) hg).trans h0, (hb.cell (p := ⟨g, 1, none⟩) hg).trans h1, (hb.cell (p := ⟨g, 2, none⟩) hg).trans h2, (hb.cell (p := ⟨g, 3, none⟩) hg).trans h3, (hb.cell (p := ⟨g, 4, none⟩) hg).trans h4, hb⟩
theorem box_new (w : World) (v0 v1 v2 v3 v4 : Value) (t : TypeId) : ∃ W0, W0 = w.alloc (.cells #[v0, v1, v2, v3, v4] t) ∧ W0.cell? ⟨w.heap.size, 0, none⟩ = some v0 ∧ W0.cell? ⟨w.heap.size, 1, none⟩ = some v1 ∧ W0.cell? ⟨w.heap.size, 2, none⟩ = some v2 ∧
 W0.cell? ⟨w.heap.size, 3, none⟩ = some v3 ∧ W0.cell? ⟨w.heap.size, 4, none⟩ = some v4 ∧ Below w.heap.size w W0 ∧ W0.heap.size = w.heap.size + 1 :=
 ⟨_, rfl, by simp, by simp, by simp, by simp, by simp, below_alloc (Below.refl _ _) _, by simp⟩
theorem quiet_left {P : Program} {f : FuncId} {args : Array Value} {w : World} {n : Nat} {v : Value}
 (h : Calls P f args (w.drewN n) fun e w' => e = .returned v ∧ w.drewN n = w') : Calls P f args (w.drewN n) fun e w'' => e = .returned v ∧ ∃ m, w'' = w.drewN m :=
 h.mono fun _ _ ⟨he, hm⟩ => ⟨he, n, hm.symm⟩
theorem bcell {W w1 : World} (hb : Below W.heap.size W w1) : (∀ b o, b < W.heap.size → w1.cell? ⟨b, o, none⟩ = W.cell? ⟨b, o, none⟩) ∧ (∀ b o, b < W.heap.size → w1.frozen? ⟨b, o, none⟩ = W.frozen? ⟨b, o, none⟩) :=
 ⟨fun b o h => hb.cell (p := ⟨b, o, none⟩) h, fun b o h => hb.frozen (p := ⟨b, o, none⟩) h⟩
theorem recsFrom_iff (l : List RecM) : ∀ s c : Int, recsFrom s c l = true ↔
 (∀ r ∈ l, recB r = true ∧ s < r.s ∧ (r.c ≠ 0 → c ≤ r.s)) ∧ l.Pairwise (fun a b => a.s < b.s ∧ (b.c ≠ 0 → a.c ≤ b.s)) := by
 induction l with
 | nil => simp [recsFrom]
 | cons r l ih =>
  intro s c
  simp only [recsFrom, Bool.and_eq_true, decide_eq_true_eq, ih, List.pairwise_cons, List.mem_cons, forall_eq_or_imp]
  constructor
  ·rintro ⟨⟨⟨h1, h2⟩, h3⟩, h4, h5⟩
   have h3' : r.c ≠ 0 → c ≤ r.s := by
    intro h
    simp only [Bool.not_eq_true', Bool.and_eq_false_iff, bne_eq_false_iff_eq, decide_eq_false_iff_not] at h3
    rcases h3 with h3 | h3
    ·exact absurd h3 h
    ·omega
   refine ⟨⟨⟨h2, h1, h3'⟩, fun x hx => ?_⟩, fun x hx => ?_, h5⟩
   ·obtain ⟨a, b, d⟩ := h4 x hx
    exact ⟨a, by omega, fun hc => by have := d hc; split at this <;> omega⟩
   ·obtain ⟨a, b, d⟩ := h4 x hx
    exact ⟨b, fun hc => by have := d hc; split at this <;> omega⟩
  ·rintro ⟨⟨⟨h2, h1, h3⟩, h4⟩, h5, h6⟩
   refine ⟨⟨⟨h1, h2⟩, ?_⟩, fun x hx => ?_, h6⟩
   ·simp only [Bool.not_eq_true', Bool.and_eq_false_iff, bne_eq_false_iff_eq, decide_eq_false_iff_not]
    by_cases hc : r.c = 0
    ·exact .inl hc
    ·exact .inr (by have := h3 hc; omega)
   ·obtain ⟨a, b, d⟩ := h4 x hx
    obtain ⟨e, f⟩ := h5 x hx
    exact ⟨a, e, fun hc => by have := d hc; have := f hc; split <;> omega⟩
structure RecMay (l : List RecM) (ls : Int) (i : Nat) : Prop where
 time : inB (l.getD i default).s 1 1099511627776 = true
 value : (l.getD i default).v.size ≤ 20
 prev : 0 < i → (l.getD (i - 1) default).s < (l.getD i default).s
 undone : (l.getD i default).c = 0 → (l.getD i default).v.toList.isEmpty = true
 done : (l.getD i default).c ≠ 0 → inB (l.getD i default).c ((l.getD i default).s + 1) 1099511627776 = true
 before : ∀ k, k < i → (l.getD i default).c ≠ 0 → (l.getD k default).c ≤ (l.getD i default).s
 lock : ls ≠ 0 → (l.getD i default).c ≤ ls
theorem isEmpty_size {b : ByteArray} (h : b.toList.isEmpty = true) : b.size = 0 := by
 have h1 : b.toList = [] := by simpa using h
 have h2 : b.toList = b.data.toList := ByteArray.toList_eq b
 rw [h2] at h1
 have : b.data.toList.length = 0 := by rw [h1]; rfl
 simpa using this
theorem recMay_of {l : List RecM} {ls : Int} (h : recsFrom 0 0 l = true) (hl : ls ≠ 0 → ∀ r ∈ l, r.c ≤ ls) {i : Nat} (hi : i < l.length) : RecMay l ls i := by
 obtain ⟨ha, hp⟩ := (recsFrom_iff l 0 0).1 h
 have hg : ∀ j (hj : j < l.length), l.getD j default = l[j] := fun j hj => by simp [List.getD, hj]
 have hm : l.getD i default ∈ l := by rw [hg i hi]; exact List.getElem_mem hi
 obtain ⟨hb, _, _⟩ := ha _ hm
 rw [List.pairwise_iff_getElem] at hp
 simp only [recB, Bool.and_eq_true] at hb
 obtain ⟨ht, hv⟩ := hb
 refine ⟨ht, ?_, fun h0 => ?_, fun hc => ?_, fun hc => ?_, fun k hk hc => ?_, fun h0 => hl h0 _ hm⟩
 ·split at hv
  ·rw [isEmpty_size hv]; omega
  ·simp only [Bool.and_eq_true, decide_eq_true_eq] at hv; exact hv.2
 ·have := (hp (i - 1) i (by omega) hi (by omega)).1
  rw [hg _ (by omega), hg _ hi]; exact this
 ·rw [if_pos hc] at hv; exact hv
 ·rw [if_neg hc] at hv
  simp only [Bool.and_eq_true, decide_eq_true_eq] at hv
  exact inB_true.2 ⟨by omega, hv.1.2⟩
 ·rw [hg _ hi] at hc ⊢
  rw [hg _ (by omega)]
  exact (hp k i (by omega) hi hk).2 hc
theorem recs_of_may {l : List RecM} {ls : Int} (h : ∀ i, i < l.length → RecMay l ls i) : recsFrom 0 0 l = true := by
 rw [recsFrom_iff]
 have hg : ∀ j (hj : j < l.length), l.getD j default = l[j] := fun j hj => by simp [List.getD, hj]
 refine ⟨fun r hr => ?_, ?_⟩
 ·obtain ⟨i, hi, rfl⟩ := List.getElem_of_mem hr
  have M := h i hi
  have ht := inB_true.1 M.time
  rw [hg i hi] at ht
  refine ⟨?_, by omega, fun _ => by omega⟩
  have t := M.time; have v := M.value; have u := M.undone; have d := M.done
  rw [hg i hi] at t v u d
  simp only [recB, t, Bool.true_and]
  split
  ·exact u ‹_›
  ·have := inB_true.1 (d ‹_›)
   simp only [Bool.and_eq_true, decide_eq_true_eq]
   exact ⟨⟨by omega, this.2⟩, v⟩
 ·rw [List.pairwise_iff_getElem]
  intro i j hi hj hij
  refine ⟨?_, fun hc => ?_⟩
  ·have key : ∀ d, i + d + 1 < l.length → (l.getD i default).s < (l.getD (i + d + 1) default).s := by
    intro d
    induction d with
    | zero => intro hd; exact (h (i + 1) hd).prev (by omega)
    | succ d ih =>
     intro hd
     have h1 := ih (by omega)
     have h2 := (h (i + (d + 1) + 1) hd).prev (by omega)
     have e : i + (d + 1) + 1 - 1 = i + d + 1 := by omega
     rw [e] at h2
     exact Int.lt_trans h1 h2
   have := key (j - i - 1) (by omega)
   rw [show i + (j - i - 1) + 1 = j by omega, hg _ hi, hg _ hj] at this
   exact this
  ·have := (h j hj).before i hij (by rw [hg _ hj]; exact hc)
   rw [hg _ hi, hg _ hj] at this
   exact this
theorem hasRec_false {st : Int} {l : List RecM} : hasRec st l = false ↔ ∀ r ∈ l, r.s ≠ st := by
 unfold hasRec firstOf
 rw [Option.isSome_eq_false_iff, Option.isNone_iff_eq_none, List.find?_eq_none]
 simp
structure RowMay (key : ByteArray) (ls : Int) (lp val : ByteArray) (l : List RecM) : Prop where
 key : keyB key = true
 value : val.size ≤ 20
 free : ls = 0 → lp.toList.isEmpty = true ∧ val.toList.isEmpty = true
 held : ls ≠ 0 → hasRec ls l = false ∧ inB ls 1 1099511627776 = true ∧ keyB lp = true
 room : (l.length : Int) ≤ roomOf ls
 recs : ∀ i, i < l.length → RecMay l ls i
theorem rowB_iff (key : ByteArray) (ls : Int) (lp val : ByteArray) (l : List RecM) : rowB key ls lp val l = true ↔ RowMay key ls lp val l := by
 simp only [rowB, Bool.and_eq_true, decide_eq_true_eq]
 constructor
 ·rintro ⟨⟨⟨h1, h2⟩, h3⟩, h4⟩
  by_cases h0 : ls = 0
  ·rw [lockB, if_pos h0, Bool.and_eq_true] at h4
   exact ⟨h1, by rw [isEmpty_size h4.2]; omega, fun _ => h4, fun h => absurd h0 h, h2, fun i hi => recMay_of h3 (fun h => absurd h0 h) hi⟩
  ·rw [lockB, if_neg h0] at h4
   simp only [Bool.and_eq_true, decide_eq_true_eq, lastIx_neg, Bool.or_eq_false_iff, decide_eq_false_iff_not, beq_eq_false_iff_ne] at h4
   obtain ⟨⟨⟨a, b⟩, d⟩, e⟩ := h4
   exact ⟨h1, d, fun h => absurd h h0, fun _ => ⟨hasRec_false.2 fun r hr => (e r hr).1, a, b⟩, h2, fun i hi => recMay_of h3 (fun _ r hr => by have := (e r hr).2; omega) hi⟩
 ·rintro ⟨h1, h2, h3, h4, h5, h6⟩
  refine ⟨⟨⟨h1, h5⟩, recs_of_may h6⟩, ?_⟩
  by_cases h0 : ls = 0
  ·rw [lockB, if_pos h0, Bool.and_eq_true]; exact h3 h0
  ·rw [lockB, if_neg h0]
   simp only [Bool.and_eq_true, decide_eq_true_eq, lastIx_neg, Bool.or_eq_false_iff, decide_eq_false_iff_not, beq_eq_false_iff_ne]
   obtain ⟨a, b, d⟩ := h4 h0
   refine ⟨⟨⟨b, d⟩, h2⟩, fun r hr => ⟨hasRec_false.1 a r hr, ?_⟩⟩
   obtain ⟨i, hi, rfl⟩ := List.getElem_of_mem hr
   have := (h6 i hi).lock h0
   have hg : l.getD i default = l[i] := by simp [List.getD, hi]
   rw [hg] at this; omega
theorem rowB_no {key : ByteArray} {ls : Int} {lp val : ByteArray} {l : List RecM} (h : ¬ RowMay key ls lp val l) : rowB key ls lp val l = false := by
 cases e : rowB key ls lp val l
 ·rfl
 ·exact absurd ((rowB_iff ..).1 e) h
section
variable {key : ByteArray} {ls : Int} {lp val : ByteArray} {l : List RecM} {k : Nat} {rs rc : Int} {rv : ByteArray}
theorem recMay_mk (HR : (⟨rs, rc, rv⟩ : RecM) = l.getD k default) (q1 : inB rs 1 1099511627776 = true) (q2 : rv.size ≤ 20) (q3 : 0 < k → (l.getD (k - 1) default).s < rs) (q4 : rc = 0 → rv.toList.isEmpty = true)
 (q5 : rc ≠ 0 → inB rc (rs + 1) 1099511627776 = true) (q6 : ∀ j, j < k → rc ≠ 0 → (l.getD j default).c ≤ rs) (q7 : ls ≠ 0 → rc ≤ ls) : RecMay l ls k :=
 ⟨by rw [← HR]; exact q1, by rw [← HR]; exact q2, by rw [← HR]; exact q3, by rw [← HR]; exact q4, by rw [← HR]; exact q5, by rw [← HR]; exact q6, by rw [← HR]; exact q7⟩
theorem no_time (hm : k < l.length) (HR : (⟨rs, rc, rv⟩ : RecM) = l.getD k default) (h : inB rs 1 1099511627776 = false) : rowB key ls lp val l = false :=
 rowB_no fun M => by have := (M.recs k hm).time; rw [← HR, h] at this; cases this
theorem no_value (hm : k < l.length) (HR : (⟨rs, rc, rv⟩ : RecM) = l.getD k default) (h : 20 < rv.size) : rowB key ls lp val l = false :=
 rowB_no fun M => by have := (M.recs k hm).value; rw [← HR] at this; simp only at this; omega
theorem no_prev (hm : k < l.length) (HR : (⟨rs, rc, rv⟩ : RecM) = l.getD k default) (h0 : 0 < k) (h : rs ≤ (l.getD (k - 1) default).s) : rowB key ls lp val l = false :=
 rowB_no fun M => by have := (M.recs k hm).prev h0; rw [← HR] at this; simp only at this; omega
theorem no_undone (hm : k < l.length) (HR : (⟨rs, rc, rv⟩ : RecM) = l.getD k default) (h0 : rc = 0) (h : rv.toList.isEmpty = false) : rowB key ls lp val l = false :=
 rowB_no fun M => by have := (M.recs k hm).undone (by rw [← HR]; exact h0); rw [← HR, h] at this; cases this
theorem no_done (hm : k < l.length) (HR : (⟨rs, rc, rv⟩ : RecM) = l.getD k default) (h0 : rc ≠ 0) (h : inB rc (rs + 1) 1099511627776 = false) : rowB key ls lp val l = false :=
 rowB_no fun M => by have := (M.recs k hm).done (by rw [← HR]; exact h0); rw [← HR, h] at this; cases this
theorem no_before (hm : k < l.length) (HR : (⟨rs, rc, rv⟩ : RecM) = l.getD k default) {j : Nat} (hj : j < k) (h0 : rc ≠ 0) (h : rs < (l.getD j default).c) : rowB key ls lp val l = false :=
 rowB_no fun M => by have := (M.recs k hm).before j hj (by rw [← HR]; exact h0); rw [← HR] at this; simp only at this; omega
theorem no_lock (hm : k < l.length) (HR : (⟨rs, rc, rv⟩ : RecM) = l.getD k default) (h0 : ls ≠ 0) (h : ls < rc) : rowB key ls lp val l = false :=
 rowB_no fun M => by have := (M.recs k hm).lock h0; rw [← HR] at this; simp only at this; omega
theorem yes_of (a : keyB key = true) (b : val.size ≤ 20) (c : ls = 0 → lp.toList.isEmpty = true ∧ val.toList.isEmpty = true) (d : ls ≠ 0 → hasRec ls l = false ∧ inB ls 1 1099511627776 = true ∧ keyB lp = true) (e : (l.length : Int) ≤ roomOf ls)
 (f : ∀ i, i < l.length → RecMay l ls i) : rowB key ls lp val l = true := (rowB_iff ..).2 ⟨a, b, c, d, e, f⟩
end
end Go.Proofs.YtambkjnhfejfaaaGreat
namespace Go.Proofs.YtambkjnhfejfaaaGreat
open Go.ChangeShapes Go.WideShapes Go.ChangeAt Go.RowKit Go.Deep
set_option maxRecDepth 100000
theorem own_knob : ownKnob Tryz.prog.godebug = none := by kernel_rfl
theorem laidOut : laidOutB Tryz.prog = true := by kernel_rfl
theorem cells_row : Tryz.prog.cellsOf 45 = 5 := by kernel_rfl
theorem cells_lock : Tryz.prog.cellsOf 42 = 2 := by kernel_rfl
theorem cells_string : Tryz.prog.cellsOf 9 = 1 := by kernel_rfl
theorem cells_int : Tryz.prog.cellsOf 3 = 1 := by kernel_rfl
theorem cells_recs : Tryz.prog.cellsOf 43 = 1 := by kernel_rfl
theorem cells_rec : Tryz.prog.cellsOf 80 = 3 := by kernel_rfl
theorem bytes_rec : Tryz.prog.bytesOf 80 = 32 := by kernel_rfl
theorem i64_of_wf {n : Int} (h : (Lit.int .i64 n).wf = true) : i64 n := by
 have := bounds_i64 h
 unfold i64
 omega
section
variable {H : Type} {enc : TypeId × Value → H} {W : World}
theorem open_rec {n b o : Nat} {cs : List Value} {x : DataW H × List MemPlace} {spare : Nat → Bool} {held : Bool} (hc : W.cells? 0 ⟨b, o, none⟩ 3 = some cs) (h : DataW.trod enc Tryz.prog W 0 spare held n 80 cs = some x) :
 ∃ r : RecM, RecOk r ∧ RecAt W b o r := by
 obtain ⟨_, hcl, hat⟩ := World.cells?_some hc
 obtain ⟨ys, n', _, _, hlen, hyl, hf⟩ := DataW.trod_struct Tryz.underlying80 h
 match cs, hcl with
 | [v0, v1, v2], _ =>
  have f0 : DataW.trod enc Tryz.prog W 0 spare held n' 3 (([v0, v1, v2].drop 0).take (Tryz.prog.cellsOf 3)) = ys[0]? := hf 0 _ rfl
  have f1 : DataW.trod enc Tryz.prog W 0 spare held n' 3 (([v0, v1, v2].drop 1).take (Tryz.prog.cellsOf 3)) = ys[1]? := hf 1 _ rfl
  have f2 : DataW.trod enc Tryz.prog W 0 spare held n' 9 (([v0, v1, v2].drop 2).take (Tryz.prog.cellsOf 9)) = ys[2]? := hf 2 _ rfl
  rw [cells_int] at f0 f1
  rw [cells_string] at f2
  match ys, hyl with
  | [y0, y1, y2], _ =>
   simp only [List.drop_zero, List.take_succ_cons, List.take_zero, List.drop_succ_cons, List.getElem?_cons_zero, List.getElem?_cons_succ] at f0 f1 f2
   obtain ⟨s, e0, _, ws⟩ := DataW.trod_int Tryz.underlying3 f0
   obtain ⟨c, e1, _, wc⟩ := DataW.trod_int Tryz.underlying3 f1
   obtain ⟨v, e2, _, wv⟩ := DataW.trod_string Tryz.underlying9 f2
   simp only [List.cons.injEq, and_true] at e0 e1 e2
   subst e0 e1 e2
   refine ⟨⟨s, c, v⟩, ⟨i64_of_wf ws, i64_of_wf wc, wv⟩, ?_, ?_, ?_⟩
   ·simpa [Addr.add] using hat 0 (by omega)
   ·simpa [Addr.add] using hat 1 (by omega)
   ·simpa [Addr.add] using hat 2 (by omega)
theorem open_recs {fuel : Nat} {A : Option Addr} {n c : Nat} {x : DataW H × List MemPlace} (h : DataW.trod enc Tryz.prog W 0 (fun _ => true) true fuel 43 [.slice A n c] = some x)
 (hz : ∀ k ∈ x.1.weights Tryz.prog 43, k ≤ reachBytes) : ∃ l : List RecM, n = l.length ∧ RecsAt W W.heap.size A l ∧ n ≤ c := by
 rcases open_slice Tryz.underlying43 h with ⟨hcs, _⟩ | ⟨a, len, cap, m, n', D, Pl, hcs, hb, hl, hm, hmm, hx, hi⟩
 ·simp only [List.cons.injEq, Value.slice.injEq, and_true] at hcs
  obtain ⟨_, rfl, rfl⟩ := hcs
  exact ⟨[], rfl, RecsAt.nil_ _ _ _, Nat.le_refl _⟩
 ·simp only [List.cons.injEq, Value.slice.injEq, and_true] at hcs
  obtain ⟨rfl, rfl, rfl⟩ := hcs
  simp only [if_true] at hmm
  subst hmm
  have hw : (n + (m - n)) * 32 ≤ reachBytes := by
   have := hz ((n + (m - n)) * Tryz.prog.bytesOf 80) (by
    rw [hx]
    simp only [DataW.weights, Tryz.underlying43]
    simp)
   rwa [bytes_rec] at this
  have hn : n ≤ 4398046511104 := by unfold reachBytes at hw; omega
  rcases Nat.eq_zero_or_pos n with h0 | h0
  ·subst h0
   exact ⟨[], rfl, RecsAt.nil_ _ _ _, Nat.zero_le _⟩
  ·obtain ⟨b, o, spot⟩ := a
   rw [cells_rec] at hi
   have hsp : spot = none := by
    obtain ⟨cs, hc, _⟩ := hi 0 (by omega)
    obtain ⟨_, hcl, hat⟩ := World.cells?_some hc
    have h3 := hat 0 (by omega)
    have : cs[0]? = some (cs[0]'(by omega)) := List.getElem?_eq_getElem (by omega)
    rw [this] at h3
    simpa [Addr.add] using World.cell?_spot h3
   subst hsp
   have hr : ∀ i, i < n → ∃ r : RecM, RecOk r ∧ RecAt W b (o + i * 3) r := by
    intro i hin
    obtain ⟨cs, hc, ht⟩ := hi i (by omega)
    have e : (⟨b, o, none⟩ : Addr).add (i * 3) = ⟨b, o + i * 3, none⟩ := by
     unfold Addr.add
     split
     ·rename_i h; rw [h]; rfl
     ·rfl
    rw [e] at hc
    exact open_rec hc ht
   obtain ⟨f, hf⟩ := choose_lt hr
   refine ⟨(List.range n).map f, by simp, ⟨by simpa using hn, fun r hrm => ?_, fun _ => ⟨b, o, rfl, ?_, fun i r hir => ?_⟩⟩, hl⟩
   ·obtain ⟨i, hin, rfl⟩ := List.mem_map.1 hrm
    exact (hf i (List.mem_range.1 hin)).1
   ·exact World.block_lt_of_cell? W _ (hf 0 h0).2.s
   ·have hin : i < n := by have := (List.getElem?_eq_some_iff.1 hir).1; simpa using this
    have : r = f i := by simpa [hin] using hir.symm
    rw [this]
    exact (hf i hin).2
theorem reach_at {ts : List TypeId} {ds : List (DataW H)} {j : Nat} {t : TypeId} {d : DataW H} (h : (DataW.weightsEach Tryz.prog ts ds).all (fun x => decide (x ≤ reachBytes)) = true) (ht : ts[j]? = some t) (hd : ds[j]? = some d) :
 ∀ k ∈ d.weights Tryz.prog t, k ≤ reachBytes := fun k hk => by
 have := List.all_eq_true.1 h k (DataW.weights_mem_each ht hd k hk)
 simpa using this
end
end Go.Proofs.YtambkjnhfejfaaaGreat
namespace Go.Proofs.YtambkjnhfejfaaaGreat
open Go.RowKit
theorem locked_any (key lp val : ByteArray) (ls : Int) (A : Option Addr) (n c : Nat) (w : World) :
 Calls Tryz.prog 74 #[.agg #[.string key, .int .i64 ls, .string lp, .string val, .slice A n c]] w fun e w' => e = .returned (.bool (ls != 0)) ∧ Below w.heap.size w w' := by
 go_enter Tryz.func74, Tryz.ntmps74
 go_wp2
 go_ret
 exact ⟨rfl, (Below.refl _ _).alloc (Nat.le_refl _) _⟩
theorem maxRecords_any (key lp val : ByteArray) (ls : Int) (A : Option Addr) (n c : Nat) (w : World) :
 Calls Tryz.prog 88 #[.agg #[.string key, .int .i64 ls, .string lp, .string val, .slice A n c]] w fun e w' => e = .returned (.int .i64 (roomOf ls)) ∧ Below w.heap.size w w' := by
 by_cases h : ls = 0
 ·subst h
  go_enter Tryz.func88, Tryz.ntmps88
  go_wp2
  go_ret
  exact ⟨rfl, by repeat (first | exact Below.refl _ _ | refine Below.alloc ?_ (by simp) _)⟩
 ·have hr0 : roomOf ls = 99 := if_neg h
  have hr := Lib.hid hr0
  clear hr0
  have h1 : (ls != 0) = true := by simpa using h
  go_enter Tryz.func88, Tryz.ntmps88
  go_wp2
  go_ret
  exact ⟨ret_int hr.out.symm, by repeat (first | exact Below.refl _ _ | refine Below.alloc ?_ (by simp) _)⟩
theorem validRecord_any (r : RecM) (w : World) (hr : RecOk r) :
 Calls Tryz.prog 99 #[recV r] w fun e w' => e = .returned (.bool (recB r)) ∧ Below w.heap.size w w' := by
 obtain ⟨s, c, v⟩ := r
 have hv : v.size ≤ maxLen := hr.v
 unfold maxLen at hv
 clear hr
 by_cases h1 : inB s 1 1099511627776 = true
 ·by_cases h2 : c = 0
  ·subst h2
   go_enter Tryz.func99, Tryz.ntmps99
   go_wp2_with (go_at_call 92; refine (isTime_any _ _).mono ?_; rintro e w' ⟨rfl, rfl⟩)
   go_ret
   exact ⟨ret_bool (by simp [recB, h1]), by repeat (first | exact Below.refl _ _ | refine Below.alloc ?_ (by simp) _)⟩
  ·have h2' : (c == 0) = false := by simpa using h2
   by_cases h3 : s < c <;> by_cases h4 : c ≤ 1099511627776 <;> by_cases h5 : v.size ≤ 20
   all_goals
    go_enter Tryz.func99, Tryz.ntmps99
    go_wp2_with (go_at_call 92; refine (isTime_any _ _).mono ?_; rintro e w' ⟨rfl, rfl⟩)
    go_ret
    exact ⟨ret_bool (by simp [recB, h1, h2, h3, h4, h5] <;> omega), by repeat (first | exact Below.refl _ _ | refine Below.alloc ?_ (by simp) _)⟩
 ·have h1' : inB s 1 1099511627776 = false := by simpa using h1
  clear h1
  go_enter Tryz.func99, Tryz.ntmps99
  go_wp2_with (go_at_call 92; refine (isTime_any _ _).mono ?_; rintro e w' ⟨rfl, rfl⟩)
  go_ret
  exact ⟨ret_bool (by simp [recB, h1']), by repeat (first | exact Below.refl _ _ | refine Below.alloc ?_ (by simp) _)⟩
theorem getD_of {l : List RecM} {k : Nat} (h : k < l.length) : l[k]? = some (l.getD k default) := by simp [List.getD, h]
theorem mem_getD {l : List RecM} {k : Nat} (h : k < l.length) : l.getD k default ∈ l := by
 simp [List.getD, h]
set_option maxHeartbeats 1000000 in
theorem findLast_any (F : FuncId) (pc : Addr) (p : RecM → Bool) (l : List RecM) (A : Option Addr) (n c : Nat) (w : World) (hE : ∀ args w, (callFunc F args).run Tryz.prog w = .ok (.enter F args) w) (hn : n = l.length) (hl : RecsAt w w.heap.size A l)
 (hF : ∀ r ∈ l, ∀ W, Below w.heap.size w W → Calls Tryz.prog F #[recV r, .pointer (some pc)] W fun e w' => e = .returned (.bool (p r)) ∧ Below W.heap.size W w') :
 Calls Tryz.prog 75 #[.slice A n c, .func (.func F) #[] #[.pointer (some pc)]] w fun e w' => e = .returned (.int .i64 (lastIx p l)) ∧ Below w.heap.size w w' := by
 subst hn
 have hlen := hl.len
 have HF := Lib.hid hF
 have HL := Lib.hid hl
 clear hF hl
 go_enter Tryz.func75, Tryz.ntmps75
 go_wp2
 go_loopw [5] (fun i wr => ∃ k : Nat, k ≤ l.length ∧ i = .int .i64 ((k : Int) - 1) ∧ lastIx p l = lastUpto p l k ∧ Below w.heap.size w wr) (fun i _ => (intOf i + 1).toNat)
 case atStart => exact ⟨l.length, Nat.le_refl _, rfl, rfl, Below.refl _ _⟩
 case round =>
  obtain ⟨k, hk, rfl, hx, hb⟩ := hrel
  have HX := Lib.hid hx
  clear hx
  rcases k with _ | m
  ·have e0 : ((0 : Nat) : Int) - 1 = -1 := by omega
   rw [e0]
   go_wp2
   go_ret
   exact ⟨ret_int (by rw [HX.out]; rfl), hb⟩
  ·have e0 : ((m + 1 : Nat) : Int) - 1 = (m : Int) := by omega
   rw [e0]
   have hm : m < l.length := by omega
   obtain ⟨b, o, rfl, hbb, hr⟩ := (HL.out.below hb).at_ (getD_of hm)
   obtain ⟨r, hr0⟩ : ∃ r, r = l.getD m default := ⟨_, rfl⟩
   have HF1 := Lib.hid (HF.out r (hr0 ▸ mem_getD hm) wr hb)
   rw [← hr0] at hr
   obtain ⟨c0, c1, c2⟩ := hr
   have HR := Lib.hid hr0
   clear hr0
   by_cases hp : p r = true
   ·go_wp2_with (go_at_fn F; refine HF1.out.mono ?_; rintro e w' ⟨rfl, hb'⟩)
    go_ret
    exact ⟨ret_int (by rw [HX.out, lastUpto, ← HR.out, if_pos hp]), hb.trans (hb'.mono hb.size)⟩
   ·have hp' : p r = false := by simpa using hp
    clear hp
    go_wp2_with (go_at_fn F; refine HF1.out.mono ?_; rintro e w' ⟨rfl, hb'⟩)
    go_roundw
    case rel => exact ⟨m, by omega, by go_num, by rw [HX.out, lastUpto, ← HR.out, hp']; rfl, hb.trans (hb'.mono hb.size)⟩
    case measure => simp [intOf]
theorem validLockFn_any (r : RecM) (pb po : Nat) (st : Int) (w : World) (hp : w.cell? ⟨pb, po, none⟩ = some (.int .i64 st)) :
 Calls Tryz.prog 100 #[recV r, .pointer (some ⟨pb, po, none⟩)] w fun e w' => e = .returned (.bool (r.s == st || decide (st < r.c))) ∧ Below w.heap.size w w' := by
 obtain ⟨s, c, v⟩ := r
 have hlt : pb < w.heap.size := World.block_lt_of_cell? w _ hp
 by_cases h1 : (s == st) = true
 ·go_enter Tryz.func100, Tryz.ntmps100
  go_wp2
  go_ret
  exact ⟨by simp_all, by repeat (first | exact Below.refl _ _ | refine Below.alloc ?_ (by simp) _)⟩
 ·have h1' : (s == st) = false := by simpa using h1
  clear h1
  go_enter Tryz.func100, Tryz.ntmps100
  go_wp2
  go_ret
  exact ⟨by simp_all, by repeat (first | exact Below.refl _ _ | refine Below.alloc ?_ (by simp) _)⟩
theorem readFn_any (r : RecM) (pb po : Nat) (st : Int) (w : World) (hp : w.cell? ⟨pb, po, none⟩ = some (.int .i64 st)) :
 Calls Tryz.prog 76 #[recV r, .pointer (some ⟨pb, po, none⟩)] w fun e w' => e = .returned (.bool (r.c != 0 && decide (r.c ≤ st))) ∧ Below w.heap.size w w' := by
 obtain ⟨s, c, v⟩ := r
 have hlt : pb < w.heap.size := World.block_lt_of_cell? w _ hp
 by_cases h1 : (c != 0) = true
 ·go_enter Tryz.func76, Tryz.ntmps76
  go_wp2
  go_ret
  exact ⟨by simp_all, by repeat (first | exact Below.refl _ _ | refine Below.alloc ?_ (by simp) _)⟩
 ·have h1' : (c != 0) = false := by simpa using h1
  clear h1
  go_enter Tryz.func76, Tryz.ntmps76
  go_wp2
  go_ret
  exact ⟨by simp_all, by repeat (first | exact Below.refl _ _ | refine Below.alloc ?_ (by simp) _)⟩
theorem statusFn_any (r : RecM) (pb po : Nat) (st : Int) (w : World) (hp : w.cell? ⟨pb, po, none⟩ = some (.int .i64 st)) :
 Calls Tryz.prog 106 #[recV r, .pointer (some ⟨pb, po, none⟩)] w fun e w' => e = .returned (.bool (r.s == st)) ∧ Below w.heap.size w w' := by
 obtain ⟨s, c, v⟩ := r
 have hlt : pb < w.heap.size := World.block_lt_of_cell? w _ hp
 go_enter Tryz.func106, Tryz.ntmps106
 go_wp2
 go_ret
 exact ⟨rfl, by repeat (first | exact Below.refl _ _ | refine Below.alloc ?_ (by simp) _)⟩
theorem lockFn_any (r : RecM) (pb po : Nat) (st : Int) (w : World) (hp : w.cell? ⟨pb, po, none⟩ = some (.int .i64 st)) :
 Calls Tryz.prog 105 #[recV r, .pointer (some ⟨pb, po, none⟩)] w fun e w' => e = .returned (.bool (decide (st < r.c))) ∧ Below w.heap.size w w' := by
 obtain ⟨s, c, v⟩ := r
 have hlt : pb < w.heap.size := World.block_lt_of_cell? w _ hp
 go_enter Tryz.func105, Tryz.ntmps105
 go_wp2
 go_ret
 exact ⟨rfl, by repeat (first | exact Below.refl _ _ | refine Below.alloc ?_ (by simp) _)⟩
theorem recordFn_any (r : RecM) (pb po : Nat) (st : Int) (w : World) (hp : w.cell? ⟨pb, po, none⟩ = some (.int .i64 st)) :
 Calls Tryz.prog 107 #[recV r, .pointer (some ⟨pb, po, none⟩)] w fun e w' => e = .returned (.bool (decide (r.s < st))) ∧ Below w.heap.size w w' := by
 obtain ⟨s, c, v⟩ := r
 have hlt : pb < w.heap.size := World.block_lt_of_cell? w _ hp
 go_enter Tryz.func107, Tryz.ntmps107
 go_wp2
 go_ret
 exact ⟨rfl, by repeat (first | exact Below.refl _ _ | refine Below.alloc ?_ (by simp) _)⟩
theorem findLock_any (l : List RecM) (A : Option Addr) (n c : Nat) (pb po : Nat) (st : Int) (w : World) (hn : n = l.length) (hl : RecsAt w w.heap.size A l) (hp : w.cell? ⟨pb, po, none⟩ = some (.int .i64 st)) :
 Calls Tryz.prog 75 #[.slice A n c, .func (.func 100) #[] #[.pointer (some ⟨pb, po, none⟩)]] w fun e w' => e = .returned (.int .i64 (lastIx (fun r => r.s == st || decide (st < r.c)) l)) ∧ Below w.heap.size w w' :=
 findLast_any _ _ _ l A n c w (enters_of Tryz.func100 (by kernel_rfl) rfl) hn hl fun r _ W hb => validLockFn_any r pb po st W ((hb.cell (p := ⟨pb, po, none⟩) (World.block_lt_of_cell? w _ hp)).trans hp)
theorem findRead_any (l : List RecM) (A : Option Addr) (n c : Nat) (pb po : Nat) (st : Int) (w : World) (hn : n = l.length) (hl : RecsAt w w.heap.size A l) (hp : w.cell? ⟨pb, po, none⟩ = some (.int .i64 st)) :
 Calls Tryz.prog 75 #[.slice A n c, .func (.func 76) #[] #[.pointer (some ⟨pb, po, none⟩)]] w fun e w' => e = .returned (.int .i64 (lastIx (fun r => r.c != 0 && decide (r.c ≤ st)) l)) ∧ Below w.heap.size w w' :=
 findLast_any _ _ _ l A n c w (enters_of Tryz.func76 (by kernel_rfl) rfl) hn hl fun r _ W hb => readFn_any r pb po st W ((hb.cell (p := ⟨pb, po, none⟩) (World.block_lt_of_cell? w _ hp)).trans hp)
theorem findStatus_any (l : List RecM) (A : Option Addr) (n c : Nat) (pb po : Nat) (st : Int) (w : World) (hn : n = l.length) (hl : RecsAt w w.heap.size A l) (hp : w.cell? ⟨pb, po, none⟩ = some (.int .i64 st)) :
 Calls Tryz.prog 75 #[.slice A n c, .func (.func 106) #[] #[.pointer (some ⟨pb, po, none⟩)]] w fun e w' => e = .returned (.int .i64 (lastIx (fun r => r.s == st) l)) ∧ Below w.heap.size w w' :=
 findLast_any _ _ _ l A n c w (enters_of Tryz.func106 (by kernel_rfl) rfl) hn hl fun r _ W hb => statusFn_any r pb po st W ((hb.cell (p := ⟨pb, po, none⟩) (World.block_lt_of_cell? w _ hp)).trans hp)
theorem findLate_any (l : List RecM) (A : Option Addr) (n c : Nat) (pb po : Nat) (st : Int) (w : World) (hn : n = l.length) (hl : RecsAt w w.heap.size A l) (hp : w.cell? ⟨pb, po, none⟩ = some (.int .i64 st)) :
 Calls Tryz.prog 75 #[.slice A n c, .func (.func 105) #[] #[.pointer (some ⟨pb, po, none⟩)]] w fun e w' => e = .returned (.int .i64 (lastIx (fun r => decide (st < r.c)) l)) ∧ Below w.heap.size w w' :=
 findLast_any _ _ _ l A n c w (enters_of Tryz.func105 (by kernel_rfl) rfl) hn hl fun r _ W hb => lockFn_any r pb po st W ((hb.cell (p := ⟨pb, po, none⟩) (World.block_lt_of_cell? w _ hp)).trans hp)
theorem findPlace_any (l : List RecM) (A : Option Addr) (n c : Nat) (pb po : Nat) (st : Int) (w : World) (hn : n = l.length) (hl : RecsAt w w.heap.size A l) (hp : w.cell? ⟨pb, po, none⟩ = some (.int .i64 st)) :
 Calls Tryz.prog 75 #[.slice A n c, .func (.func 107) #[] #[.pointer (some ⟨pb, po, none⟩)]] w fun e w' => e = .returned (.int .i64 (lastIx (fun r => decide (r.s < st)) l)) ∧ Below w.heap.size w w' :=
 findLast_any _ _ _ l A n c w (enters_of Tryz.func107 (by kernel_rfl) rfl) hn hl fun r _ W hb => recordFn_any r pb po st W ((hb.cell (p := ⟨pb, po, none⟩) (World.block_lt_of_cell? w _ hp)).trans hp)
end Go.Proofs.YtambkjnhfejfaaaGreat
