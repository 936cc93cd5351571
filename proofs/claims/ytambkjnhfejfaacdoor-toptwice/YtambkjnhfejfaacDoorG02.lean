/-
  Contracts of functions of the program and words for memory, several texts in one: Small, Find, RefRec, RefMay, RefHeld, RefStatus. Conditions: those stated with each.
-/
import Derived.Test.YtambkjnhfejfaacDoorG00
import Derived.Outline
import Derived.WalkLawsBesides
import Derived.Shelf.Abstract
import Derived.BigQuiet
import Derived.Deep.QuietTactic
import Derived.IntWalk
namespace Go.Proofs.YtambkjnhfejfaacDoor
open Go.RowKit

theorem locked_any (key lp val : ByteArray) (ls : Int) (A : Option Addr) (n c : Nat) (w : World) :
    Calls Tryd.prog 63 #[.agg #[.string key, .int .i64 ls, .string lp, .string val, .slice A n c]] w fun e w' => e = .returned (.bool (ls != 0)) ∧ Below w.heap.size w w' := by
  go_enter Tryd.func63, Tryd.ntmps63
  go_wp2
  go_ret
  exact ⟨rfl, (Below.refl _ _).alloc (Nat.le_refl _) _⟩

theorem maxRecords_any (key lp val : ByteArray) (ls : Int) (A : Option Addr) (n c : Nat) (w : World) :
    Calls Tryd.prog 79 #[.agg #[.string key, .int .i64 ls, .string lp, .string val, .slice A n c]] w fun e w' => e = .returned (.int .i64 (roomOf ls)) ∧ Below w.heap.size w w' := by
  by_cases h : ls = 0
  · subst h
    go_enter Tryd.func79, Tryd.ntmps79
    go_wp2
    go_ret
    exact ⟨rfl, by repeat (first | exact Below.refl _ _ | refine Below.alloc ?_ (by simp) _)⟩
  · have hr0 : roomOf ls = 99 := if_neg h
    have hr := Lib.hid hr0
    clear hr0
    have h1 : (ls != 0) = true := by simpa using h
    go_enter Tryd.func79, Tryd.ntmps79
    go_wp2
    go_ret
    exact ⟨ret_int hr.out.symm, by repeat (first | exact Below.refl _ _ | refine Below.alloc ?_ (by simp) _)⟩

theorem validRecord_any (r : RecM) (w : World) (hr : RecOk r) :
    Calls Tryd.prog 90 #[recV r] w fun e w' => e = .returned (.bool (recB r)) ∧ Below w.heap.size w w' := by
  obtain ⟨s, c, v⟩ := r
  have hv : v.size ≤ maxLen := hr.v
  unfold maxLen at hv
  clear hr
  by_cases h1 : inB s 1 1099511627776 = true
  · by_cases h2 : c = 0
    · subst h2
      go_enter Tryd.func90, Tryd.ntmps90
      go_wp2_with (go_at_call 83; refine (isTime_any _ _).mono ?_; rintro e w' ⟨rfl, rfl⟩)
      go_ret
      exact ⟨ret_bool (by simp [recB, h1]), by repeat (first | exact Below.refl _ _ | refine Below.alloc ?_ (by simp) _)⟩
    · have h2' : (c == 0) = false := by simpa using h2
      by_cases h3 : s < c <;> by_cases h4 : c ≤ 1099511627776 <;> by_cases h5 : v.size ≤ 20
      all_goals
        go_enter Tryd.func90, Tryd.ntmps90
        go_wp2_with (go_at_call 83; refine (isTime_any _ _).mono ?_; rintro e w' ⟨rfl, rfl⟩)
        go_ret
        exact ⟨ret_bool (by simp [recB, h1, h2, h3, h4, h5] <;> omega), by repeat (first | exact Below.refl _ _ | refine Below.alloc ?_ (by simp) _)⟩
  · have h1' : inB s 1 1099511627776 = false := by simpa using h1
    clear h1
    go_enter Tryd.func90, Tryd.ntmps90
    go_wp2_with (go_at_call 83; refine (isTime_any _ _).mono ?_; rintro e w' ⟨rfl, rfl⟩)
    go_ret
    exact ⟨ret_bool (by simp [recB, h1']), by repeat (first | exact Below.refl _ _ | refine Below.alloc ?_ (by simp) _)⟩
end Go.Proofs.YtambkjnhfejfaacDoor

namespace Go.Proofs.YtambkjnhfejfaacDoor
open Go.RowKit

theorem getD_of {l : List RecM} {k : Nat} (h : k < l.length) : l[k]? = some (l.getD k default) := by simp [List.getD, h]
theorem mem_getD {l : List RecM} {k : Nat} (h : k < l.length) : l.getD k default ∈ l := by
  simp [List.getD, h]

set_option maxHeartbeats 1000000 in
theorem findLast_any (F : FuncId) (pc : Addr) (p : RecM → Bool) (l : List RecM) (A : Option Addr) (n c : Nat) (w : World) (hE : ∀ args w, (callFunc F args).run Tryd.prog w = .ok (.enter F args) w) (hn : n = l.length) (hl : RecsAt w w.heap.size A l)
    (hF : ∀ r ∈ l, ∀ W, Below w.heap.size w W → Calls Tryd.prog F #[recV r, .pointer (some pc)] W fun e w' => e = .returned (.bool (p r)) ∧ Below W.heap.size W w') :
    Calls Tryd.prog 64 #[.slice A n c, .func (.func F) #[] #[.pointer (some pc)]] w fun e w' => e = .returned (.int .i64 (lastIx p l)) ∧ Below w.heap.size w w' := by
  subst hn
  have hlen := hl.len
  have HF := Lib.hid hF
  have HL := Lib.hid hl
  clear hF hl
  go_enter Tryd.func64, Tryd.ntmps64
  go_wp2
  go_loopw [5] (fun i wr => ∃ k : Nat, k ≤ l.length ∧ i = .int .i64 ((k : Int) - 1) ∧ lastIx p l = lastUpto p l k ∧ Below w.heap.size w wr) (fun i _ => (intOf i + 1).toNat)
  case atStart => exact ⟨l.length, Nat.le_refl _, rfl, rfl, Below.refl _ _⟩
  case round =>
    obtain ⟨k, hk, rfl, hx, hb⟩ := hrel
    have HX := Lib.hid hx
    clear hx
    rcases k with _ | m
    · have e0 : ((0 : Nat) : Int) - 1 = -1 := by omega
      rw [e0]
      go_wp2
      go_ret
      exact ⟨ret_int (by rw [HX.out]; rfl), hb⟩
    · have e0 : ((m + 1 : Nat) : Int) - 1 = (m : Int) := by omega
      rw [e0]
      have hm : m < l.length := by omega
      obtain ⟨b, o, rfl, hbb, hr⟩ := (HL.out.below hb).at_ (getD_of hm)
      obtain ⟨r, hr0⟩ : ∃ r, r = l.getD m default := ⟨_, rfl⟩
      have HF1 := Lib.hid (HF.out r (hr0 ▸ mem_getD hm) wr hb)
      rw [← hr0] at hr
      obtain ⟨c0, c1, c2⟩ := hr
      have HR := Lib.hid hr0
      clear hr0
      by_cases hp : p r = true
      · go_wp2_with (go_at_fn F; refine HF1.out.mono ?_; rintro e w' ⟨rfl, hb'⟩)
        go_ret
        exact ⟨ret_int (by rw [HX.out, lastUpto, ← HR.out, if_pos hp]), hb.trans (hb'.mono hb.size)⟩
      · have hp' : p r = false := by simpa using hp
        clear hp
        go_wp2_with (go_at_fn F; refine HF1.out.mono ?_; rintro e w' ⟨rfl, hb'⟩)
        go_roundw
        case rel => exact ⟨m, by omega, by go_num, by rw [HX.out, lastUpto, ← HR.out, hp']; rfl, hb.trans (hb'.mono hb.size)⟩
        case measure => simp [intOf]

theorem validLockFn_any (r : RecM) (pb po : Nat) (st : Int) (w : World) (hp : w.cell? ⟨pb, po, none⟩ = some (.int .i64 st)) :
    Calls Tryd.prog 91 #[recV r, .pointer (some ⟨pb, po, none⟩)] w fun e w' => e = .returned (.bool (r.s == st || decide (st < r.c))) ∧ Below w.heap.size w w' := by
  obtain ⟨s, c, v⟩ := r
  have hlt : pb < w.heap.size := World.block_lt_of_cell? w _ hp
  by_cases h1 : (s == st) = true
  · go_enter Tryd.func91, Tryd.ntmps91
    go_wp2
    go_ret
    exact ⟨by simp_all, by repeat (first | exact Below.refl _ _ | refine Below.alloc ?_ (by simp) _)⟩
  · have h1' : (s == st) = false := by simpa using h1
    clear h1
    go_enter Tryd.func91, Tryd.ntmps91
    go_wp2
    go_ret
    exact ⟨by simp_all, by repeat (first | exact Below.refl _ _ | refine Below.alloc ?_ (by simp) _)⟩

theorem readFn_any (r : RecM) (pb po : Nat) (st : Int) (w : World) (hp : w.cell? ⟨pb, po, none⟩ = some (.int .i64 st)) :
    Calls Tryd.prog 65 #[recV r, .pointer (some ⟨pb, po, none⟩)] w fun e w' => e = .returned (.bool (r.c != 0 && decide (r.c ≤ st))) ∧ Below w.heap.size w w' := by
  obtain ⟨s, c, v⟩ := r
  have hlt : pb < w.heap.size := World.block_lt_of_cell? w _ hp
  by_cases h1 : (c != 0) = true
  · go_enter Tryd.func65, Tryd.ntmps65
    go_wp2
    go_ret
    exact ⟨by simp_all, by repeat (first | exact Below.refl _ _ | refine Below.alloc ?_ (by simp) _)⟩
  · have h1' : (c != 0) = false := by simpa using h1
    clear h1
    go_enter Tryd.func65, Tryd.ntmps65
    go_wp2
    go_ret
    exact ⟨by simp_all, by repeat (first | exact Below.refl _ _ | refine Below.alloc ?_ (by simp) _)⟩

theorem statusFn_any (r : RecM) (pb po : Nat) (st : Int) (w : World) (hp : w.cell? ⟨pb, po, none⟩ = some (.int .i64 st)) :
    Calls Tryd.prog 97 #[recV r, .pointer (some ⟨pb, po, none⟩)] w fun e w' => e = .returned (.bool (r.s == st)) ∧ Below w.heap.size w w' := by
  obtain ⟨s, c, v⟩ := r
  have hlt : pb < w.heap.size := World.block_lt_of_cell? w _ hp
  go_enter Tryd.func97, Tryd.ntmps97
  go_wp2
  go_ret
  exact ⟨rfl, by repeat (first | exact Below.refl _ _ | refine Below.alloc ?_ (by simp) _)⟩

theorem lockFn_any (r : RecM) (pb po : Nat) (st : Int) (w : World) (hp : w.cell? ⟨pb, po, none⟩ = some (.int .i64 st)) :
    Calls Tryd.prog 96 #[recV r, .pointer (some ⟨pb, po, none⟩)] w fun e w' => e = .returned (.bool (decide (st < r.c))) ∧ Below w.heap.size w w' := by
  obtain ⟨s, c, v⟩ := r
  have hlt : pb < w.heap.size := World.block_lt_of_cell? w _ hp
  go_enter Tryd.func96, Tryd.ntmps96
  go_wp2
  go_ret
  exact ⟨rfl, by repeat (first | exact Below.refl _ _ | refine Below.alloc ?_ (by simp) _)⟩

theorem recordFn_any (r : RecM) (pb po : Nat) (st : Int) (w : World) (hp : w.cell? ⟨pb, po, none⟩ = some (.int .i64 st)) :
    Calls Tryd.prog 98 #[recV r, .pointer (some ⟨pb, po, none⟩)] w fun e w' => e = .returned (.bool (decide (r.s < st))) ∧ Below w.heap.size w w' := by
  obtain ⟨s, c, v⟩ := r
  have hlt : pb < w.heap.size := World.block_lt_of_cell? w _ hp
  go_enter Tryd.func98, Tryd.ntmps98
  go_wp2
  go_ret
  exact ⟨rfl, by repeat (first | exact Below.refl _ _ | refine Below.alloc ?_ (by simp) _)⟩

theorem findLock_any (l : List RecM) (A : Option Addr) (n c : Nat) (pb po : Nat) (st : Int) (w : World) (hn : n = l.length) (hl : RecsAt w w.heap.size A l) (hp : w.cell? ⟨pb, po, none⟩ = some (.int .i64 st)) :
    Calls Tryd.prog 64 #[.slice A n c, .func (.func 91) #[] #[.pointer (some ⟨pb, po, none⟩)]] w fun e w' => e = .returned (.int .i64 (lastIx (fun r => r.s == st || decide (st < r.c)) l)) ∧ Below w.heap.size w w' :=
  findLast_any _ _ _ l A n c w (enters_of Tryd.func91 (by kernel_rfl) rfl) hn hl fun r _ W hb => validLockFn_any r pb po st W ((hb.cell (p := ⟨pb, po, none⟩) (World.block_lt_of_cell? w _ hp)).trans hp)

theorem findRead_any (l : List RecM) (A : Option Addr) (n c : Nat) (pb po : Nat) (st : Int) (w : World) (hn : n = l.length) (hl : RecsAt w w.heap.size A l) (hp : w.cell? ⟨pb, po, none⟩ = some (.int .i64 st)) :
    Calls Tryd.prog 64 #[.slice A n c, .func (.func 65) #[] #[.pointer (some ⟨pb, po, none⟩)]] w fun e w' => e = .returned (.int .i64 (lastIx (fun r => r.c != 0 && decide (r.c ≤ st)) l)) ∧ Below w.heap.size w w' :=
  findLast_any _ _ _ l A n c w (enters_of Tryd.func65 (by kernel_rfl) rfl) hn hl fun r _ W hb => readFn_any r pb po st W ((hb.cell (p := ⟨pb, po, none⟩) (World.block_lt_of_cell? w _ hp)).trans hp)

theorem findStatus_any (l : List RecM) (A : Option Addr) (n c : Nat) (pb po : Nat) (st : Int) (w : World) (hn : n = l.length) (hl : RecsAt w w.heap.size A l) (hp : w.cell? ⟨pb, po, none⟩ = some (.int .i64 st)) :
    Calls Tryd.prog 64 #[.slice A n c, .func (.func 97) #[] #[.pointer (some ⟨pb, po, none⟩)]] w fun e w' => e = .returned (.int .i64 (lastIx (fun r => r.s == st) l)) ∧ Below w.heap.size w w' :=
  findLast_any _ _ _ l A n c w (enters_of Tryd.func97 (by kernel_rfl) rfl) hn hl fun r _ W hb => statusFn_any r pb po st W ((hb.cell (p := ⟨pb, po, none⟩) (World.block_lt_of_cell? w _ hp)).trans hp)

theorem findLate_any (l : List RecM) (A : Option Addr) (n c : Nat) (pb po : Nat) (st : Int) (w : World) (hn : n = l.length) (hl : RecsAt w w.heap.size A l) (hp : w.cell? ⟨pb, po, none⟩ = some (.int .i64 st)) :
    Calls Tryd.prog 64 #[.slice A n c, .func (.func 96) #[] #[.pointer (some ⟨pb, po, none⟩)]] w fun e w' => e = .returned (.int .i64 (lastIx (fun r => decide (st < r.c)) l)) ∧ Below w.heap.size w w' :=
  findLast_any _ _ _ l A n c w (enters_of Tryd.func96 (by kernel_rfl) rfl) hn hl fun r _ W hb => lockFn_any r pb po st W ((hb.cell (p := ⟨pb, po, none⟩) (World.block_lt_of_cell? w _ hp)).trans hp)

theorem findPlace_any (l : List RecM) (A : Option Addr) (n c : Nat) (pb po : Nat) (st : Int) (w : World) (hn : n = l.length) (hl : RecsAt w w.heap.size A l) (hp : w.cell? ⟨pb, po, none⟩ = some (.int .i64 st)) :
    Calls Tryd.prog 64 #[.slice A n c, .func (.func 98) #[] #[.pointer (some ⟨pb, po, none⟩)]] w fun e w' => e = .returned (.int .i64 (lastIx (fun r => decide (r.s < st)) l)) ∧ Below w.heap.size w w' :=
  findLast_any _ _ _ l A n c w (enters_of Tryd.func98 (by kernel_rfl) rfl) hn hl fun r _ W hb => recordFn_any r pb po st W ((hb.cell (p := ⟨pb, po, none⟩) (World.block_lt_of_cell? w _ hp)).trans hp)
end Go.Proofs.YtambkjnhfejfaacDoor

namespace Go.Proofs.YtambkjnhfejfaacDoor
open Go.RowKit

theorem ret_rec {a b : RecM} {p q : Bool} (h : a = b) (h' : p = q) : Ending.returned (.tuple #[recV a, .bool p]) = .returned (.tuple #[recV b, .bool q]) := by rw [h, h']

end Go.Proofs.YtambkjnhfejfaacDoor

namespace Go.Proofs.YtambkjnhfejfaacDoor
open Go.RowKit

end Go.Proofs.YtambkjnhfejfaacDoor

namespace Go.Proofs.YtambkjnhfejfaacDoor
open Go.RowKit

end Go.Proofs.YtambkjnhfejfaacDoor

namespace Go.Proofs.YtambkjnhfejfaacDoor
open Go.RowKit

section
variable (key lp val : ByteArray) (ls : Int) (A : Option Addr) (n c : Nat) (l : List RecM) (st : Int) (w : World)
theorem ret_three {a b a' b' k : Int} (h : a = a') (h' : b = b') : Ending.returned (.tuple #[.int .i64 a, .int .i64 b, .int .i64 k]) = .returned (.tuple #[.int .i64 a', .int .i64 b', .int .i64 k]) := by rw [h, h']

end
end Go.Proofs.YtambkjnhfejfaacDoor
