/-
  Contracts of functions of the program and words for memory, several texts in one: Find, RefRec, RefMay, RefHeld, RefStatus, Copy, TCopyMem, TCopyCl, TCopy. Conditions: those stated with each.
-/
import Derived.Test.YtambkjnhfejfaabDoorG00
import Derived.Test.YtambkjnhfejfaabDoorG01
import Derived.BigQuiet
import Derived.Deep.QuietTactic
import Derived.IntWalk
import Derived.WalkLawsBesides
import Derived.Outline
namespace Go.Proofs.YtambkjnhfejfaabDoor
open Go.RowKit

theorem getD_of {l : List RecM} {k : Nat} (h : k < l.length) : l[k]? = some (l.getD k default) := by simp [List.getD, h]
theorem mem_getD {l : List RecM} {k : Nat} (h : k < l.length) : l.getD k default ∈ l := by
  simp [List.getD, h]

set_option maxHeartbeats 1000000 in
theorem findLast_any (F : FuncId) (pc : Addr) (p : RecM → Bool) (l : List RecM) (A : Option Addr) (n c : Nat) (w : World) (hE : ∀ args w, (callFunc F args).run Tryd.prog w = .ok (.enter F args) w) (hn : n = l.length) (hl : RecsAt w w.heap.size A l)
    (hF : ∀ r ∈ l, ∀ W, Below w.heap.size w W → Calls Tryd.prog F #[recV r, .pointer (some pc)] W fun e w' => e = .returned (.bool (p r)) ∧ Below W.heap.size W w') :
    Calls Tryd.prog 53 #[.slice A n c, .func (.func F) #[] #[.pointer (some pc)]] w fun e w' => e = .returned (.int .i64 (lastIx p l)) ∧ Below w.heap.size w w' := by
  subst hn
  have hlen := hl.len
  have HF := Lib.hid hF
  have HL := Lib.hid hl
  clear hF hl
  go_enter Tryd.func53, Tryd.ntmps53
  go_wp2
  go_loopw [5] (fun i wr => ∃ k : Nat, k ≤ l.length ∧ i = .int .i64 ((k : Int) - 1) ∧ lastIx p l = lastUpto p l k ∧ Below w.heap.size w wr) (fun i _ => (intOf i + 1).toNat)
  case atStart => exact ⟨l.length, Nat.le_refl _, rfl, rfl, Below.refl _ _⟩
  case round =>
    obtain ⟨k, hk, rfl, hx, hb⟩ := hrel
    have HX := Lib.hid hx
    clear hx
    rcases k with _ | m
    · have e0 : ((0 : Nat) : Int) - 1 = -1 := by omega
      rw [e0]
      go_wp2
      go_ret
      exact ⟨ret_int (by rw [HX.out]; rfl), hb⟩
    · have e0 : ((m + 1 : Nat) : Int) - 1 = (m : Int) := by omega
      rw [e0]
      have hm : m < l.length := by omega
      obtain ⟨b, o, rfl, hbb, hr⟩ := (HL.out.below hb).at_ (getD_of hm)
      obtain ⟨r, hr0⟩ : ∃ r, r = l.getD m default := ⟨_, rfl⟩
      have HF1 := Lib.hid (HF.out r (hr0 ▸ mem_getD hm) wr hb)
      rw [← hr0] at hr
      obtain ⟨c0, c1, c2⟩ := hr
      have HR := Lib.hid hr0
      clear hr0
      by_cases hp : p r = true
      · go_wp2_with (go_at_fn F; refine HF1.out.mono ?_; rintro e w' ⟨rfl, hb'⟩)
        go_ret
        exact ⟨ret_int (by rw [HX.out, lastUpto, ← HR.out, if_pos hp]), hb.trans (hb'.mono hb.size)⟩
      · have hp' : p r = false := by simpa using hp
        clear hp
        go_wp2_with (go_at_fn F; refine HF1.out.mono ?_; rintro e w' ⟨rfl, hb'⟩)
        go_roundw
        case rel => exact ⟨m, by omega, by go_num, by rw [HX.out, lastUpto, ← HR.out, hp']; rfl, hb.trans (hb'.mono hb.size)⟩
        case measure => simp [intOf]

theorem validLockFn_any (r : RecM) (pb po : Nat) (st : Int) (w : World) (hp : w.cell? ⟨pb, po, none⟩ = some (.int .i64 st)) :
    Calls Tryd.prog 64 #[recV r, .pointer (some ⟨pb, po, none⟩)] w fun e w' => e = .returned (.bool (r.s == st || decide (st < r.c))) ∧ Below w.heap.size w w' := by
  obtain ⟨s, c, v⟩ := r
  have hlt : pb < w.heap.size := World.block_lt_of_cell? w _ hp
  by_cases h1 : (s == st) = true
  · go_enter Tryd.func64, Tryd.ntmps64
    go_wp2
    go_ret
    exact ⟨by simp_all, by repeat (first | exact Below.refl _ _ | refine Below.alloc ?_ (by simp) _)⟩
  · have h1' : (s == st) = false := by simpa using h1
    clear h1
    go_enter Tryd.func64, Tryd.ntmps64
    go_wp2
    go_ret
    exact ⟨by simp_all, by repeat (first | exact Below.refl _ _ | refine Below.alloc ?_ (by simp) _)⟩

theorem readFn_any (r : RecM) (pb po : Nat) (st : Int) (w : World) (hp : w.cell? ⟨pb, po, none⟩ = some (.int .i64 st)) :
    Calls Tryd.prog 54 #[recV r, .pointer (some ⟨pb, po, none⟩)] w fun e w' => e = .returned (.bool (r.c != 0 && decide (r.c ≤ st))) ∧ Below w.heap.size w w' := by
  obtain ⟨s, c, v⟩ := r
  have hlt : pb < w.heap.size := World.block_lt_of_cell? w _ hp
  by_cases h1 : (c != 0) = true
  · go_enter Tryd.func54, Tryd.ntmps54
    go_wp2
    go_ret
    exact ⟨by simp_all, by repeat (first | exact Below.refl _ _ | refine Below.alloc ?_ (by simp) _)⟩
  · have h1' : (c != 0) = false := by simpa using h1
    clear h1
    go_enter Tryd.func54, Tryd.ntmps54
    go_wp2
    go_ret
    exact ⟨by simp_all, by repeat (first | exact Below.refl _ _ | refine Below.alloc ?_ (by simp) _)⟩

theorem statusFn_any (r : RecM) (pb po : Nat) (st : Int) (w : World) (hp : w.cell? ⟨pb, po, none⟩ = some (.int .i64 st)) :
    Calls Tryd.prog 66 #[recV r, .pointer (some ⟨pb, po, none⟩)] w fun e w' => e = .returned (.bool (r.s == st)) ∧ Below w.heap.size w w' := by
  obtain ⟨s, c, v⟩ := r
  have hlt : pb < w.heap.size := World.block_lt_of_cell? w _ hp
  go_enter Tryd.func66, Tryd.ntmps66
  go_wp2
  go_ret
  exact ⟨rfl, by repeat (first | exact Below.refl _ _ | refine Below.alloc ?_ (by simp) _)⟩

theorem lockFn_any (r : RecM) (pb po : Nat) (st : Int) (w : World) (hp : w.cell? ⟨pb, po, none⟩ = some (.int .i64 st)) :
    Calls Tryd.prog 65 #[recV r, .pointer (some ⟨pb, po, none⟩)] w fun e w' => e = .returned (.bool (decide (st < r.c))) ∧ Below w.heap.size w w' := by
  obtain ⟨s, c, v⟩ := r
  have hlt : pb < w.heap.size := World.block_lt_of_cell? w _ hp
  go_enter Tryd.func65, Tryd.ntmps65
  go_wp2
  go_ret
  exact ⟨rfl, by repeat (first | exact Below.refl _ _ | refine Below.alloc ?_ (by simp) _)⟩

theorem recordFn_any (r : RecM) (pb po : Nat) (st : Int) (w : World) (hp : w.cell? ⟨pb, po, none⟩ = some (.int .i64 st)) :
    Calls Tryd.prog 67 #[recV r, .pointer (some ⟨pb, po, none⟩)] w fun e w' => e = .returned (.bool (decide (r.s < st))) ∧ Below w.heap.size w w' := by
  obtain ⟨s, c, v⟩ := r
  have hlt : pb < w.heap.size := World.block_lt_of_cell? w _ hp
  go_enter Tryd.func67, Tryd.ntmps67
  go_wp2
  go_ret
  exact ⟨rfl, by repeat (first | exact Below.refl _ _ | refine Below.alloc ?_ (by simp) _)⟩

theorem findLock_any (l : List RecM) (A : Option Addr) (n c : Nat) (pb po : Nat) (st : Int) (w : World) (hn : n = l.length) (hl : RecsAt w w.heap.size A l) (hp : w.cell? ⟨pb, po, none⟩ = some (.int .i64 st)) :
    Calls Tryd.prog 53 #[.slice A n c, .func (.func 64) #[] #[.pointer (some ⟨pb, po, none⟩)]] w fun e w' => e = .returned (.int .i64 (lastIx (fun r => r.s == st || decide (st < r.c)) l)) ∧ Below w.heap.size w w' :=
  findLast_any _ _ _ l A n c w (enters_of Tryd.func64 (by kernel_rfl) rfl) hn hl fun r _ W hb => validLockFn_any r pb po st W ((hb.cell (p := ⟨pb, po, none⟩) (World.block_lt_of_cell? w _ hp)).trans hp)

theorem findRead_any (l : List RecM) (A : Option Addr) (n c : Nat) (pb po : Nat) (st : Int) (w : World) (hn : n = l.length) (hl : RecsAt w w.heap.size A l) (hp : w.cell? ⟨pb, po, none⟩ = some (.int .i64 st)) :
    Calls Tryd.prog 53 #[.slice A n c, .func (.func 54) #[] #[.pointer (some ⟨pb, po, none⟩)]] w fun e w' => e = .returned (.int .i64 (lastIx (fun r => r.c != 0 && decide (r.c ≤ st)) l)) ∧ Below w.heap.size w w' :=
  findLast_any _ _ _ l A n c w (enters_of Tryd.func54 (by kernel_rfl) rfl) hn hl fun r _ W hb => readFn_any r pb po st W ((hb.cell (p := ⟨pb, po, none⟩) (World.block_lt_of_cell? w _ hp)).trans hp)

theorem findStatus_any (l : List RecM) (A : Option Addr) (n c : Nat) (pb po : Nat) (st : Int) (w : World) (hn : n = l.length) (hl : RecsAt w w.heap.size A l) (hp : w.cell? ⟨pb, po, none⟩ = some (.int .i64 st)) :
    Calls Tryd.prog 53 #[.slice A n c, .func (.func 66) #[] #[.pointer (some ⟨pb, po, none⟩)]] w fun e w' => e = .returned (.int .i64 (lastIx (fun r => r.s == st) l)) ∧ Below w.heap.size w w' :=
  findLast_any _ _ _ l A n c w (enters_of Tryd.func66 (by kernel_rfl) rfl) hn hl fun r _ W hb => statusFn_any r pb po st W ((hb.cell (p := ⟨pb, po, none⟩) (World.block_lt_of_cell? w _ hp)).trans hp)

theorem findLate_any (l : List RecM) (A : Option Addr) (n c : Nat) (pb po : Nat) (st : Int) (w : World) (hn : n = l.length) (hl : RecsAt w w.heap.size A l) (hp : w.cell? ⟨pb, po, none⟩ = some (.int .i64 st)) :
    Calls Tryd.prog 53 #[.slice A n c, .func (.func 65) #[] #[.pointer (some ⟨pb, po, none⟩)]] w fun e w' => e = .returned (.int .i64 (lastIx (fun r => decide (st < r.c)) l)) ∧ Below w.heap.size w w' :=
  findLast_any _ _ _ l A n c w (enters_of Tryd.func65 (by kernel_rfl) rfl) hn hl fun r _ W hb => lockFn_any r pb po st W ((hb.cell (p := ⟨pb, po, none⟩) (World.block_lt_of_cell? w _ hp)).trans hp)

theorem findPlace_any (l : List RecM) (A : Option Addr) (n c : Nat) (pb po : Nat) (st : Int) (w : World) (hn : n = l.length) (hl : RecsAt w w.heap.size A l) (hp : w.cell? ⟨pb, po, none⟩ = some (.int .i64 st)) :
    Calls Tryd.prog 53 #[.slice A n c, .func (.func 67) #[] #[.pointer (some ⟨pb, po, none⟩)]] w fun e w' => e = .returned (.int .i64 (lastIx (fun r => decide (r.s < st)) l)) ∧ Below w.heap.size w w' :=
  findLast_any _ _ _ l A n c w (enters_of Tryd.func67 (by kernel_rfl) rfl) hn hl fun r _ W hb => recordFn_any r pb po st W ((hb.cell (p := ⟨pb, po, none⟩) (World.block_lt_of_cell? w _ hp)).trans hp)
end Go.Proofs.YtambkjnhfejfaabDoor

namespace Go.Proofs.YtambkjnhfejfaabDoor
open Go.RowKit

theorem ret_rec {a b : RecM} {p q : Bool} (h : a = b) (h' : p = q) : Ending.returned (.tuple #[recV a, .bool p]) = .returned (.tuple #[recV b, .bool q]) := by rw [h, h']

end Go.Proofs.YtambkjnhfejfaabDoor

namespace Go.Proofs.YtambkjnhfejfaabDoor
open Go.RowKit

end Go.Proofs.YtambkjnhfejfaabDoor

namespace Go.Proofs.YtambkjnhfejfaabDoor
open Go.RowKit

end Go.Proofs.YtambkjnhfejfaabDoor

namespace Go.Proofs.YtambkjnhfejfaabDoor
open Go.RowKit

section
variable (key lp val : ByteArray) (ls : Int) (A : Option Addr) (n c : Nat) (l : List RecM) (st : Int) (w : World)
theorem ret_three {a b a' b' k : Int} (h : a = a') (h' : b = b') : Ending.returned (.tuple #[.int .i64 a, .int .i64 b, .int .i64 k]) = .returned (.tuple #[.int .i64 a', .int .i64 b', .int .i64 k]) := by rw [h, h']

end
end Go.Proofs.YtambkjnhfejfaabDoor

namespace Go.Proofs.YtambkjnhfejfaabDoor
open Go.RowKit

/-- A row that goes out: its value, its records in memory; no old memory has turned. -/
def RowOut (key : ByteArray) (ls : Int) (lp val : ByteArray) (l : List RecM) (w : World) (e : Ending) (w' : World) : Prop :=
  ∃ A c, e = .returned (rowV key ls lp val A l.length c) ∧ RecsAt w' w'.heap.size A l ∧ NewC w.heap.size A l.length c ∧ Below w.heap.size w w'

set_option maxHeartbeats 2000000 in
theorem copy_any (key lp val : ByteArray) (ls : Int) (A : Option Addr) (n c : Nat) (l : List RecM) (w : World) (hn : n = l.length) (hl : RecsAt w w.heap.size A l) :
    Calls Tryd.prog 17 #[rowV key ls lp val A n c] w (RowOut key ls lp val l w) := by
  have hlen := hl.len
  subst hn
  obtain ⟨Z, hZ, hmk⟩ := make_recs l.length hlen
  obtain ⟨W3, hW3⟩ : ∃ W3, W3 = ((w.alloc (.cells #[.string key, .int .i64 ls, .string lp, .string val, .slice A l.length c] 27)).alloc (.cells #[.string ⟨#[]⟩, .int .i64 0, .string ⟨#[]⟩, .string ⟨#[]⟩, .slice none 0 0] 27)).alloc (.cells Z 40) := ⟨_, rfl⟩
  have hb3 : Below w.heap.size w W3 := by rw [hW3]; repeat (first | with_reducible exact Below.refl _ _ | assumption | with_reducible apply below_alloc | with_reducible apply below_drew | with_reducible apply below_drewN | (with_reducible apply below_next; rotate_left; assumption))
  have hs3 : W3.heap.size = w.heap.size + 3 := by rw [hW3]; simp
  obtain ⟨hB0, hB1, hg3⟩ := three_blocks w (.cells #[.string key, .int .i64 ls, .string lp, .string val, .slice A l.length c] 27) (.cells #[.string ⟨#[]⟩, .int .i64 0, .string ⟨#[]⟩, .string ⟨#[]⟩, .slice none 0 0] 27) (.cells Z 40)
  rw [← hW3] at hB0 hB1 hg3
  have hcp := copy_recs W3 3 (w.heap.size + 2) l.length c _ A l Z rfl (hl.upto hb3) hZ hg3
  obtain ⟨W4, hW4⟩ : ∃ W4, W4 = W3.setRow (w.heap.size + 2) (recsC l).toArray := ⟨_, rfl⟩
  rw [← hW4] at hcp
  have hg4 : W4.heap[w.heap.size + 2]? = some (.cells (recsC l).toArray 40 (0, 0)) := by rw [hW4]; exact setRow_heap _ _ _ _ _ _ hg3
  have hb4 : Below (w.heap.size + 2) W3 W4 := by rw [hW4]; exact below_setRow (Below.refl _ _) (Nat.le_refl _) _
  have hD0 := (hb4.block w.heap.size (by omega)).trans hB0
  have hD1 := (hb4.block (w.heap.size + 1) (by omega)).trans hB1
  have hs4 : w.heap.size + 2 < W4.heap.size := by have := hb4.size; omega
  have hbw4 : Below w.heap.size w W4 := hb3.trans (hb4.mono (by omega))
  rw [hW3] at hcp
  have p0 : W4.cell? ⟨w.heap.size, 0, none⟩ = some (.string key) := by rw [Joins.cell_of_block hD0]; rfl
  have p1 : W4.cell? ⟨w.heap.size, 1, none⟩ = some (.int .i64 ls) := by rw [Joins.cell_of_block hD0]; rfl
  have p2 : W4.cell? ⟨w.heap.size, 2, none⟩ = some (.string lp) := by rw [Joins.cell_of_block hD0]; rfl
  have p3 : W4.cell? ⟨w.heap.size, 3, none⟩ = some (.string val) := by rw [Joins.cell_of_block hD0]; rfl
  have p4 : W4.cell? ⟨w.heap.size, 4, none⟩ = some (.slice A l.length c) := by rw [Joins.cell_of_block hD0]; rfl
  have p5 : W4.frozen? ⟨w.heap.size, 4, none⟩ = false := Joins.unfrozen_of_block hD0 _
  have q0 : W4.cell? ⟨w.heap.size + 1, 0, none⟩ = some (.string ⟨#[]⟩) := by rw [Joins.cell_of_block hD1]; rfl
  have q1 : W4.cell? ⟨w.heap.size + 1, 1, none⟩ = some (.int .i64 0) := by rw [Joins.cell_of_block hD1]; rfl
  have q2 : W4.cell? ⟨w.heap.size + 1, 2, none⟩ = some (.string ⟨#[]⟩) := by rw [Joins.cell_of_block hD1]; rfl
  have q3 : W4.cell? ⟨w.heap.size + 1, 3, none⟩ = some (.string ⟨#[]⟩) := by rw [Joins.cell_of_block hD1]; rfl
  have q4 : W4.cell? ⟨w.heap.size + 1, 4, none⟩ = some (.slice none 0 0) := by rw [Joins.cell_of_block hD1]; rfl
  have f0 : W4.frozen? ⟨w.heap.size + 1, 0, none⟩ = false := Joins.unfrozen_of_block hD1 _
  have f1 : W4.frozen? ⟨w.heap.size + 1, 1, none⟩ = false := Joins.unfrozen_of_block hD1 _
  have f2 : W4.frozen? ⟨w.heap.size + 1, 2, none⟩ = false := Joins.unfrozen_of_block hD1 _
  have f3 : W4.frozen? ⟨w.heap.size + 1, 3, none⟩ = false := Joins.unfrozen_of_block hD1 _
  have f4 : W4.frozen? ⟨w.heap.size + 1, 4, none⟩ = false := Joins.unfrozen_of_block hD1 _
  have HG := Lib.hid hg4
  have HB4 := Lib.hid hbw4
  have HL := Lib.hid hl
  clear hg4 hb4 hbw4 hD0 hD1 hW4 hW3 hB0 hB1 hg3 hb3 hs3 hl W3
  go_enter Tryd.func17, Tryd.ntmps17
  go_wp2
  refine bodyPost_ret (v := rowV key ls lp val (some ⟨w.heap.size + 2, 0, none⟩) l.length l.length) (by simp [results, Tryd.results17, go_sem, q0, q1, q2, q3, q4]) rfl ⟨some ⟨w.heap.size + 2, 0, none⟩, l.length, rfl, ?_, ⟨fun ad h => by injection h with h; subst h; show _ ≤ w.heap.size + 2; omega, Nat.le_refl _⟩, ?_⟩
  · refine recsAt_block HL.out.1 HL.out.2.1 ?_ (cur := (recsC l).toArray) (t := 40) (fr := (0, 0)) ?_ (fun j v h => by simpa using h)
    · simp [World.setCell]; omega
    · repeat (rw [Below.heap_setCell _ _ _ _ (by simp)])
      exact HG.out
  · repeat (refine below_set ?_ (by simp) _)
    exact HB4.out

end Go.Proofs.YtambkjnhfejfaabDoor

namespace Go.Proofs.YtambkjnhfejfaabDoor
open Go.RowKit

/-- A write's value, and its cells. -/
abbrev wrV (x : WrM) : Value := .agg #[.string x.k, .string x.v]
def wrC (x : WrM) : List Value := [.string x.k, .string x.v]
def wrsC (l : List WrM) : List Value := l.flatMap wrC
theorem wrsC_cons (r : WrM) (l : List WrM) : wrsC (r :: l) = .string r.k :: .string r.v :: wrsC l := rfl
theorem wrsC_append (a b : List WrM) : wrsC (a ++ b) = wrsC a ++ wrsC b := by simp [wrsC]
theorem wrsC_length (l : List WrM) : (wrsC l).length = l.length * 2 := by
  induction l with
  | nil => rfl
  | cons r l ih => rw [wrsC_cons]; simp [ih]; omega
theorem wrsC_one (l : List WrM) : ∀ v ∈ wrsC l, v.oneCell' = true := by
  induction l with
  | nil => intro v h; cases h
  | cons r l ih =>
    intro v h
    rw [wrsC_cons] at h
    simp only [List.mem_cons] at h
    rcases h with rfl | rfl | h
    · rfl
    · rfl
    · exact ih v h
theorem wrsC_at {l : List WrM} {i : Nat} {r : WrM} (h : l[i]? = some r) : (wrsC l)[i * 2]? = some (.string r.k) ∧ (wrsC l)[i * 2 + 1]? = some (.string r.v) := by
  induction l generalizing i with
  | nil => cases h
  | cons x l ih =>
    rw [wrsC_cons]
    cases i with
    | zero => simp only [List.getElem?_cons_zero, Option.some.injEq] at h; subst h; exact ⟨rfl, rfl⟩
    | succ i =>
      have := ih (i := i) (by simpa using h)
      have e : (i + 1) * 2 = i * 2 + 2 := by omega
      rw [e]
      exact this
theorem SeqAt.wrCells {w : World} {P : Nat → Prop} {b o : Nat} {l : List WrM} (h : WrsAt w P (some ⟨b, o, none⟩) l) : ∀ j v, (wrsC l)[j]? = some v → w.cell? ⟨b, o + j, none⟩ = some v := by
  intro j v hj
  have hjl : j < l.length * 2 := by rw [← wrsC_length]; exact (List.getElem?_eq_some_iff.1 hj).1
  have hi : j / 2 < l.length := by omega
  obtain ⟨b', o', hA, _, hr⟩ := SeqAt.at_ h (i := j / 2) (List.getElem?_eq_getElem hi)
  have hA' : b = b' ∧ o = o' := by injection hA with hA; injection hA with h1 h2; exact ⟨h1, h2⟩
  obtain ⟨rfl, rfl⟩ := hA'
  obtain ⟨a0, a1⟩ := wrsC_at (List.getElem?_eq_getElem hi)
  have hm : j % 2 = 0 ∨ j % 2 = 1 := by omega
  rcases hm with hm | hm
  · rw [show j / 2 * 2 = j by omega] at a0
    rw [hj] at a0
    rw [a0, show o + j = o + j / 2 * 2 by omega]; exact hr.k
  · rw [show j / 2 * 2 + 1 = j by omega] at a1
    rw [hj] at a1
    rw [a1, show o + j = o + j / 2 * 2 + 1 by omega]; exact hr.v
/-- A block whose first cells are writes. -/
theorem wrsAt_block {w : World} {P : Nat → Prop} {g : Nat} {l : List WrM} {cur : Array Value} {t : TypeId} {fr : Nat × Nat} (hlen : l.length ≤ 4398046511104) (hok : ∀ x ∈ l, x.k.size ≤ maxLen ∧ x.v.size ≤ maxLen) (hB : P g) (hg : w.heap[g]? = some (.cells cur t fr))
    (hc : ∀ (j : Nat) v, (wrsC l)[j]? = some v → cur[j]? = some v) : WrsAt w P (some ⟨g, 0, none⟩) l :=
  SeqAt.block hlen hB fun i r hr => by
    obtain ⟨a0, a1⟩ := wrsC_at hr
    exact ⟨by rw [Joins.cell_of_block hg]; exact hc _ _ a0, by rw [Joins.cell_of_block hg]; exact hc _ _ a1, hok r (List.mem_of_getElem? hr)⟩
theorem SeqAt.wrOk {w : World} {P : Nat → Prop} {A : Option Addr} {l : List WrM} (h : WrsAt w P A l) : ∀ x ∈ l, x.k.size ≤ maxLen ∧ x.v.size ≤ maxLen := by
  intro x hx
  obtain ⟨i, hi⟩ := List.getElem?_of_mem hx
  obtain ⟨_, _, _, _, hr⟩ := SeqAt.at_ h hi
  exact hr.ok

theorem wr_info : (Tryd.prog.info? 127).map (fun i => (i.zero, i.size, i.bytes)) = some (some (.agg #[.string ⟨#[]⟩, .string ⟨#[]⟩]), 2, 32) := by kernel_rfl
theorem row_info : (Tryd.prog.info? 27).map (fun i => (i.zero, i.size, i.bytes)) = some (some (.agg #[.string ⟨#[]⟩, .int .i64 0, .string ⟨#[]⟩, .string ⟨#[]⟩, .slice none 0 0]), 5, 80) := by kernel_rfl
theorem cl_info : (Tryd.prog.info? 109).map (fun i => (i.zero, i.size, i.bytes)) = some (some (.agg #[.int .i64 0, .int .i64 0, .int .i64 0, .slice none 0 0, .int .i64 0]), 5, 56) := by kernel_rfl

/-- make([]Write, n). -/
theorem make_wrs (n : Nat) (hn : n ≤ 4398046511104) : ∃ Z : Array Value, Z.size = n * 2 ∧ ∀ W : World, (Instr.makeSlice 107 (.int .i64 (n : Int)) (.int .i64 (n : Int))).run Tryd.prog W =
    .ok (.slice (some ⟨W.heap.size, 0, none⟩) n n) (W.alloc (.cells Z 127)) := by
  obtain ⟨i0, hi0, hz0, hz1, hz2⟩ := info_parts wr_info
  refine ⟨madeCells (Value.agg #[.string ⟨#[]⟩, .string ⟨#[]⟩]).cells (n * 2), by rw [size_madeCells], fun W => ?_⟩
  have h := run_make (P := Tryd.prog) W 107 127 i0 _ Tryd.underlying107 hi0 hz0 .i64 .i64 (n : Int) (n : Int) (by omega) (by omega) (by rw [hz2]; omega) (by omega)
  simp only [Int.toNat_natCast, hz1] at h
  exact h
/-- make([]Row, n). -/
theorem make_rows (n : Nat) (hn : n ≤ 1759218604441) : ∃ Z : Array Value, Z.size = n * 5 ∧ ∀ W : World, (Instr.makeSlice 64 (.int .i64 (n : Int)) (.int .i64 (n : Int))).run Tryd.prog W =
    .ok (.slice (some ⟨W.heap.size, 0, none⟩) n n) (W.alloc (.cells Z 27)) := by
  obtain ⟨i0, hi0, hz0, hz1, hz2⟩ := info_parts row_info
  refine ⟨madeCells (Value.agg #[.string ⟨#[]⟩, .int .i64 0, .string ⟨#[]⟩, .string ⟨#[]⟩, .slice none 0 0]).cells (n * 5), by rw [size_madeCells], fun W => ?_⟩
  have h := run_make (P := Tryd.prog) W 64 27 i0 _ Tryd.underlying64 hi0 hz0 .i64 .i64 (n : Int) (n : Int) (by omega) (by omega) (by rw [hz2]; omega) (by omega)
  simp only [Int.toNat_natCast, hz1] at h
  exact h
/-- make([]Client, n). -/
theorem make_cls (n : Nat) (hn : n ≤ 2513169434917) : ∃ Z : Array Value, Z = madeCells (Value.agg #[.int .i64 0, .int .i64 0, .int .i64 0, .slice none 0 0, .int .i64 0]).cells (n * 5) ∧ Z.size = n * 5 ∧ ∀ W : World, (Instr.makeSlice 65 (.int .i64 (n : Int)) (.int .i64 (n : Int))).run Tryd.prog W =
    .ok (.slice (some ⟨W.heap.size, 0, none⟩) n n) (W.alloc (.cells Z 109)) := by
  obtain ⟨i0, hi0, hz0, hz1, hz2⟩ := info_parts cl_info
  refine ⟨madeCells (Value.agg #[.int .i64 0, .int .i64 0, .int .i64 0, .slice none 0 0, .int .i64 0]).cells (n * 5), rfl, by rw [size_madeCells], fun W => ?_⟩
  have h := run_make (P := Tryd.prog) W 65 109 i0 _ Tryd.underlying65 hi0 hz0 .i64 .i64 (n : Int) (n : Int) (by omega) (by omega) (by rw [hz2]; omega) (by omega)
  simp only [Int.toNat_natCast, hz1] at h
  exact h

/-- copy of n writes into a row of that size. -/
theorem copy_wrs (W : World) (ty : TypeId) (g n c : Nat) (P : Nat → Prop) (A : Option Addr) (l : List WrM) (Z : Array Value) (hn : n = l.length) (hl : WrsAt W P A l) (hZ : Z.size = n * 2) (hg : W.heap[g]? = some (.cells Z 127 (0, 0))) :
    (Builtin.copy_ #[107, 107] ty #[.slice (some ⟨g, 0, none⟩) n n, .slice A n c]).run Tryd.prog W = .ok (goInt n) (W.setRow g (wrsC l).toArray) := by
  obtain ⟨i0, hi0, _, hz1, _⟩ := info_parts wr_info
  rcases Nat.eq_zero_or_pos n with h0 | h0
  · subst h0
    have : l = [] := List.eq_nil_of_length_eq_zero hn.symm
    subst this
    have hZ0 : Z = #[] := Array.eq_empty_of_size_eq_zero (by omega)
    subst hZ0
    have e : W.setRow g (wrsC []).toArray = W := setRow_self W g #[] _ _ hg
    rw [e]
    cases A with
    | none => simp [Builtin.copy_, run_underlying Tryd.underlying107, Builtin.lenOf, Builtin.firstCells, sizeOf, typeInfo, hi0, storeCells]
    | some a =>
      have h1 := run_loadCells_list (P := Tryd.prog) W a [] (by simp)
      simp only [List.length_nil] at h1
      simp [Builtin.copy_, run_underlying Tryd.underlying107, Builtin.lenOf, Builtin.firstCells, sizeOf, typeInfo, hi0, storeCells, h1]
  · obtain ⟨b, o, rfl, _, _⟩ := hl.2 (by omega)
    have hsrc : ∀ j v, (wrsC l)[j]? = some v → W.cell? ((⟨b, o, none⟩ : Addr).add j) = some v := by
      intro j v hj
      have e : (⟨b, o, none⟩ : Addr).add j = ⟨b, o + j, none⟩ := by unfold Addr.add; split <;> simp_all
      rw [e]
      exact SeqAt.wrCells hl j v hj
    have h1 := run_loadCells_list (P := Tryd.prog) W ⟨b, o, none⟩ (wrsC l) hsrc
    have h2 := run_storeCells_at Tryd.prog g 0 127 (wrsC l) 0 Z W hg (by rw [wrsC_length]; omega) (wrsC_one l)
    have hd : Z.toList.drop (wrsC l).length = [] := List.drop_eq_nil_of_le (by rw [wrsC_length]; simp; omega)
    have hlen : (wrsC l).length = n * 2 := by rw [wrsC_length, hn]
    rw [hlen] at h1
    simp only [Nat.zero_add, List.take_zero, List.nil_append, hd, List.append_nil] at h2
    simp [Builtin.copy_, run_underlying Tryd.underlying107, Builtin.lenOf, Builtin.firstCells, sizeOf, typeInfo, hi0, hz1, h1, h2]
end Go.Proofs.YtambkjnhfejfaabDoor

namespace Go.Proofs.YtambkjnhfejfaabDoor
open Go.RowKit

/-- A client's value. -/
abbrev clV (c : ClM) (A : Option Addr) (n k : Nat) : Value := .agg #[.int .i64 c.ph, .int .i64 c.st, .int .i64 c.cm, .slice A n k, .int .i64 c.at_]
/-- A client that goes out: its writes lie in the third new block. -/
def ClOut (c : ClM) (w : World) (e : Ending) (w' : World) : Prop :=
  e = .returned (clV c (some ⟨w.heap.size + 2, 0, none⟩) c.ws.length c.ws.length) ∧ WrsAt w' (· = w.heap.size + 2) (some ⟨w.heap.size + 2, 0, none⟩) c.ws ∧ w.heap.size + 2 < w'.heap.size ∧ (∀ o, w'.frozen? ⟨w.heap.size + 2, o, none⟩ = false) ∧ Below w.heap.size w w'

set_option maxHeartbeats 2000000 in
theorem copyClient_any (c : ClM) (A : Option Addr) (n k : Nat) (w : World) (hn : n = c.ws.length) (hl : WrsAt w (· < w.heap.size) A c.ws) :
    Calls Tryd.prog 60 #[clV c A n k] w (ClOut c w) := by
  have hlen := hl.1
  subst hn
  obtain ⟨ph, st, cm, l, a⟩ := c
  dsimp only at hl hlen ⊢
  obtain ⟨Z, hZ, hmk⟩ := make_wrs l.length hlen
  obtain ⟨W3, hW3⟩ : ∃ W3, W3 = ((w.alloc (.cells #[.int .i64 ph, .int .i64 st, .int .i64 cm, .slice A l.length k, .int .i64 a] 109)).alloc (.cells #[.int .i64 0, .int .i64 0, .int .i64 0, .slice none 0 0, .int .i64 0] 109)).alloc (.cells Z 127) := ⟨_, rfl⟩
  have hb3 : Below w.heap.size w W3 := by rw [hW3]; repeat (first | with_reducible exact Below.refl _ _ | assumption | with_reducible apply below_alloc | with_reducible apply below_drew | with_reducible apply below_drewN | (with_reducible apply below_next; rotate_left; assumption))
  have hs3 : W3.heap.size = w.heap.size + 3 := by rw [hW3]; simp
  obtain ⟨hB0, hB1, hg3⟩ := three_blocks w (.cells #[.int .i64 ph, .int .i64 st, .int .i64 cm, .slice A l.length k, .int .i64 a] 109) (.cells #[.int .i64 0, .int .i64 0, .int .i64 0, .slice none 0 0, .int .i64 0] 109) (.cells Z 127)
  rw [← hW3] at hB0 hB1 hg3
  have hl3 : WrsAt W3 (· < W3.heap.size) A l := SeqAt.wrs hl (below_mem hb3).1 (below_mem hb3).2
  have hcp := copy_wrs W3 3 (w.heap.size + 2) l.length k _ A l Z rfl hl3 hZ hg3
  obtain ⟨W4, hW4⟩ : ∃ W4, W4 = W3.setRow (w.heap.size + 2) (wrsC l).toArray := ⟨_, rfl⟩
  rw [← hW4] at hcp
  have hg4 : W4.heap[w.heap.size + 2]? = some (.cells (wrsC l).toArray 127 (0, 0)) := by rw [hW4]; exact setRow_heap _ _ _ _ _ _ hg3
  have hb4 : Below (w.heap.size + 2) W3 W4 := by rw [hW4]; exact below_setRow (Below.refl _ _) (Nat.le_refl _) _
  have hD0 := (hb4.block w.heap.size (by omega)).trans hB0
  have hD1 := (hb4.block (w.heap.size + 1) (by omega)).trans hB1
  have hs4 : w.heap.size + 2 < W4.heap.size := by have := hb4.size; omega
  have hbw4 : Below w.heap.size w W4 := hb3.trans (hb4.mono (by omega))
  rw [hW3] at hcp
  have p0 : W4.cell? ⟨w.heap.size, 0, none⟩ = some (.int .i64 ph) := by rw [Joins.cell_of_block hD0]; rfl
  have p1 : W4.cell? ⟨w.heap.size, 1, none⟩ = some (.int .i64 st) := by rw [Joins.cell_of_block hD0]; rfl
  have p2 : W4.cell? ⟨w.heap.size, 2, none⟩ = some (.int .i64 cm) := by rw [Joins.cell_of_block hD0]; rfl
  have p3 : W4.cell? ⟨w.heap.size, 3, none⟩ = some (.slice A l.length k) := by rw [Joins.cell_of_block hD0]; rfl
  have p4 : W4.cell? ⟨w.heap.size, 4, none⟩ = some (.int .i64 a) := by rw [Joins.cell_of_block hD0]; rfl
  have p5 : W4.frozen? ⟨w.heap.size, 3, none⟩ = false := Joins.unfrozen_of_block hD0 _
  have q0 : W4.cell? ⟨w.heap.size + 1, 0, none⟩ = some (.int .i64 0) := by rw [Joins.cell_of_block hD1]; rfl
  have q1 : W4.cell? ⟨w.heap.size + 1, 1, none⟩ = some (.int .i64 0) := by rw [Joins.cell_of_block hD1]; rfl
  have q2 : W4.cell? ⟨w.heap.size + 1, 2, none⟩ = some (.int .i64 0) := by rw [Joins.cell_of_block hD1]; rfl
  have q3 : W4.cell? ⟨w.heap.size + 1, 3, none⟩ = some (.slice none 0 0) := by rw [Joins.cell_of_block hD1]; rfl
  have q4 : W4.cell? ⟨w.heap.size + 1, 4, none⟩ = some (.int .i64 0) := by rw [Joins.cell_of_block hD1]; rfl
  have f0 : W4.frozen? ⟨w.heap.size + 1, 0, none⟩ = false := Joins.unfrozen_of_block hD1 _
  have f1 : W4.frozen? ⟨w.heap.size + 1, 1, none⟩ = false := Joins.unfrozen_of_block hD1 _
  have f2 : W4.frozen? ⟨w.heap.size + 1, 2, none⟩ = false := Joins.unfrozen_of_block hD1 _
  have f3 : W4.frozen? ⟨w.heap.size + 1, 3, none⟩ = false := Joins.unfrozen_of_block hD1 _
  have f4 : W4.frozen? ⟨w.heap.size + 1, 4, none⟩ = false := Joins.unfrozen_of_block hD1 _
  have HG := Lib.hid hg4
  have HB4 := Lib.hid hbw4
  have HL := Lib.hid hl
  have HOK := Lib.hid (SeqAt.wrOk hl)
  clear hg4 hb4 hbw4 hD0 hD1 hW4 hW3 hB0 hB1 hg3 hb3 hs3 hl hl3 W3
  go_enter Tryd.func60, Tryd.ntmps60
  go_wp2
  refine bodyPost_ret (v := clV ⟨ph, st, cm, l, a⟩ (some ⟨w.heap.size + 2, 0, none⟩) l.length l.length) (by simp [results, Tryd.results60, go_sem, q0, q1, q2, q3, q4]) rfl ⟨rfl, ?_, ?_, ?_, ?_⟩
  · refine wrsAt_block HL.out.1 HOK.out rfl (cur := (wrsC l).toArray) (t := 127) (fr := (0, 0)) ?_ (fun j v h => by simpa using h)
    repeat (rw [Below.heap_setCell _ _ _ _ (by simp)])
    exact HG.out
  · simp [World.setCell]; omega
  · intro o
    simp only [World.frozen?_setCell]
    exact Joins.unfrozen_of_block HG.out _
  · repeat (refine below_set ?_ (by simp) _)
    exact HB4.out
end Go.Proofs.YtambkjnhfejfaabDoor

namespace Go.Proofs.YtambkjnhfejfaabDoor
open Go.RowKit

/-- The first k rows lie in block g. -/
structure RowsDone (g : Nat) (l : List RowM) (k : Nat) (wr : World) : Prop where
  blk : ∃ cur, wr.heap[g]? = some (.cells cur 27 (0, 0)) ∧ cur.size = l.length * 5
  rows : ∀ i r, i < k → l[i]? = some r → RowAt wr (fun b => g < b ∧ b < wr.heap.size) g (i * 5) r
/-- The first k clients lie in block g. -/
structure ClsDone (g : Nat) (l : List ClM) (k : Nat) (wb : Nat → Nat) (wr : World) : Prop where
  blk : ∃ cur, wr.heap[g]? = some (.cells cur 109 (0, 0)) ∧ cur.size = l.length * 5
  cls : ∀ i c, i < k → l[i]? = some c → ClAt wr (· = wb i) g (i * 5) c
  wB : ∀ i, i < k → g < wb i ∧ wb i < wr.heap.size
  inc : ∀ i j, i < j → j < k → wb i < wb j
  wf : ∀ i o, i < k → wr.frozen? ⟨wb i, o, none⟩ = false
  tight : ∀ i c, i < k → l[i]? = some c → wr.cell? ⟨g, i * 5 + 3, none⟩ = some (.slice (some ⟨wb i, 0, none⟩) c.ws.length c.ws.length)

theorem block_cell {w : World} {g j n : Nat} {cur : Array Value} {t : TypeId} (hg : w.heap[g]? = some (.cells cur t (0, 0))) (hn : cur.size = n) (hj : j < n) : ∃ v, w.cell? ⟨g, j, none⟩ = some v ∧ w.frozen? ⟨g, j, none⟩ = false :=
  ⟨cur[j]'(by omega), by rw [Joins.cell_of_block hg]; simp [hn, hj], Joins.unfrozen_of_block hg _⟩
theorem block_set {w : World} {g o n : Nat} {t : TypeId} (h : ∃ cur, w.heap[g]? = some (.cells cur t (0, 0)) ∧ cur.size = n) (u : Value) : ∃ cur, (w.setCell ⟨g, o, none⟩ u).heap[g]? = some (.cells cur t (0, 0)) ∧ cur.size = n := by
  obtain ⟨cur, hg, hn⟩ := h
  refine ⟨cur.modify o (fun _ => u), ?_, by simpa using hn⟩
  simp only [World.setCell, Array.getElem?_modify, if_true, hg, Option.map_some]
  rfl

section
variable {g k : Nat} {l : List RowM} {m : List ClM} {wb : Nat → Nat} {w w' : World}
theorem RowsDone.lt (h : RowsDone g l k w) : g < w.heap.size := by obtain ⟨_, h, _⟩ := h.blk; exact (Array.getElem?_eq_some_iff.1 h).1
theorem RowsDone.upto (h : RowsDone g l k w) (hb : Below w.heap.size w w') : RowsDone g l k w' := by
  obtain ⟨cur, hg, hn⟩ := h.blk
  obtain ⟨h1, h2⟩ := below_mem hb
  exact ⟨⟨cur, (hb.block g h.lt).trans hg, hn⟩, fun i r hi hr => (h.rows i r hi hr).mono (fun b hb => ⟨hb.1, h1 b hb.2⟩) (fun b k hb => h2 b k hb.2) (fun k _ _ => h2 g k h.lt)⟩
theorem RowsDone.cell (h : RowsDone g l k w) (hk : k < l.length) (j : Nat) (hj : j < 5) : ∃ v, w.cell? ⟨g, k * 5 + j, none⟩ = some v ∧ w.frozen? ⟨g, k * 5 + j, none⟩ = false := by
  obtain ⟨cur, hg, hn⟩ := h.blk
  exact block_cell hg hn (by omega)
theorem RowsDone.step (h : RowsDone g l k w) {r : RowM} {A : Option Addr} {c : Nat} (hr : l[k]? = some r) (hl : RecsAt w w.heap.size A r.recs) (hn : NewAt (g + 1) A) (hc : r.recs.length ≤ c) (hok : RowOk r) :
    RowsDone g l (k + 1) (set5 w g (k * 5) (.string r.key) (.int .i64 r.ls) (.string r.lp) (.string r.val) (.slice A r.recs.length c)) := by
  have hk := (List.getElem?_eq_some_iff.1 hr).1
  have hs := set5_same w g (k * 5) (.string r.key) (.int .i64 r.ls) (.string r.lp) (.string r.val) (.slice A r.recs.length c)
  obtain ⟨_, e0, _⟩ := h.cell hk 0 (by omega)
  obtain ⟨_, e1, _⟩ := h.cell hk 1 (by omega)
  obtain ⟨_, e2, _⟩ := h.cell hk 2 (by omega)
  obtain ⟨_, e3, _⟩ := h.cell hk 3 (by omega)
  obtain ⟨_, e4, _⟩ := h.cell hk 4 (by omega)
  obtain ⟨a0, a1, a2, a3, a4⟩ := set5_at e0 e1 e2 e3 e4 (.string r.key) (.int .i64 r.ls) (.string r.lp) (.string r.val) (.slice A r.recs.length c)
  refine ⟨block_set (block_set (block_set (block_set (block_set h.blk _) _) _) _) _, fun i x hi hx => ?_⟩
  rw [hs.sz]
  by_cases e : i = k
  · subst e
    rw [hr] at hx
    injection hx with hx
    subst hx
    refine ⟨a0, a1, a2, a3, ⟨A, c, a4, hc, ?_⟩, hok⟩
    refine (RecsAt.in_ (P := fun b => g < b ∧ b < w.heap.size) hl fun ad hA hb => ⟨by have := hn ad hA; omega, hb⟩).mono (fun _ hb => hb) fun b k' hb => hs.cell _ fun e => ?_
    have : b = g := e.1
    omega
  · refine (h.rows i x (by omega) hx).mono (fun _ hb => hb) (fun b k' hb => hs.cell _ fun e => ?_) (fun k' h1 h2 => hs.cell _ fun e' => ?_)
    · have : b = g := e.1
      omega
    · have h3 : k * 5 ≤ k' := e'.2.1
      have h4 : k' < k * 5 + 5 := e'.2.2
      omega
theorem ClsDone.lt (h : ClsDone g m k wb w) : g < w.heap.size := by obtain ⟨_, h, _⟩ := h.blk; exact (Array.getElem?_eq_some_iff.1 h).1
theorem ClsDone.upto (h : ClsDone g m k wb w) (hb : Below w.heap.size w w') : ClsDone g m k wb w' := by
  obtain ⟨cur, hg, hn⟩ := h.blk
  obtain ⟨h1, h2⟩ := below_mem hb
  exact ⟨⟨cur, (hb.block g h.lt).trans hg, hn⟩, fun i r hi hr => (h.cls i r hi hr).mono (fun b hb => hb) (fun b k hp => h2 b k (by rw [hp]; exact (h.wB i hi).2)) (fun k _ _ => h2 g k h.lt), fun i hi => ⟨(h.wB i hi).1, h1 _ (h.wB i hi).2⟩, h.inc, fun i o hi => ((bcell hb).2 _ o (h.wB i hi).2).trans (h.wf i o hi), fun i c hi hc => (h2 g _ h.lt).trans (h.tight i c hi hc)⟩
theorem ClsDone.cell (h : ClsDone g m k wb w) (hk : k < m.length) (j : Nat) (hj : j < 5) : ∃ v, w.cell? ⟨g, k * 5 + j, none⟩ = some v ∧ w.frozen? ⟨g, k * 5 + j, none⟩ = false := by
  obtain ⟨cur, hg, hn⟩ := h.blk
  exact block_cell hg hn (by omega)
theorem ClsDone.step (h : ClsDone g m k wb w) {c : ClM} {b : Nat} (hr : m[k]? = some c) (hl : WrsAt w (· = b) (some ⟨b, 0, none⟩) c.ws) (hg : g < b) (hb : b < w.heap.size) (hi : ∀ i, i < k → wb i < b) (hf : ∀ o, w.frozen? ⟨b, o, none⟩ = false) (hok : ClOk c) :
    ClsDone g m (k + 1) (fun i => if i = k then b else wb i) (set5 w g (k * 5) (.int .i64 c.ph) (.int .i64 c.st) (.int .i64 c.cm) (.slice (some ⟨b, 0, none⟩) c.ws.length c.ws.length) (.int .i64 c.at_)) := by
  have hk := (List.getElem?_eq_some_iff.1 hr).1
  have hs := set5_same w g (k * 5) (.int .i64 c.ph) (.int .i64 c.st) (.int .i64 c.cm) (.slice (some ⟨b, 0, none⟩) c.ws.length c.ws.length) (.int .i64 c.at_)
  obtain ⟨_, e0, _⟩ := h.cell hk 0 (by omega)
  obtain ⟨_, e1, _⟩ := h.cell hk 1 (by omega)
  obtain ⟨_, e2, _⟩ := h.cell hk 2 (by omega)
  obtain ⟨_, e3, _⟩ := h.cell hk 3 (by omega)
  obtain ⟨_, e4, _⟩ := h.cell hk 4 (by omega)
  obtain ⟨a0, a1, a2, a3, a4⟩ := set5_at e0 e1 e2 e3 e4 (.int .i64 c.ph) (.int .i64 c.st) (.int .i64 c.cm) (.slice (some ⟨b, 0, none⟩) c.ws.length c.ws.length) (.int .i64 c.at_)
  refine ⟨block_set (block_set (block_set (block_set (block_set h.blk _) _) _) _) _, fun i x hi' hx => ?_, fun i hi' => ?_, fun i j hij hj => ?_, fun i o hi' => ?_, fun i x hi' hx => ?_⟩
  · by_cases e : i = k
    · subst e
      rw [hr] at hx
      injection hx with hx
      subst hx
      simp only [if_true]
      refine ⟨a0, a1, a2, ⟨_, _, a3, Nat.le_refl _, ?_⟩, a4, hok⟩
      refine SeqAt.wrs hl (fun _ hb => hb) fun b' k' hb' => hs.cell _ fun e => ?_
      have : b' = g := e.1
      omega
    · simp only [e, if_false]
      have hik : i < k := by omega
      refine (h.cls i x hik hx).mono (fun _ hb => hb) (fun b' k' hb' => hs.cell _ fun e => ?_) (fun k' h1 h2 => hs.cell _ fun e' => ?_)
      · have : b' = g := e.1
        have := (h.wB i hik).1
        omega
      · have h3 : k * 5 ≤ k' := e'.2.1
        have h4 : k' < k * 5 + 5 := e'.2.2
        omega
  · rw [hs.sz]
    by_cases e : i = k
    · simp only [e, if_true]; exact ⟨hg, hb⟩
    · simp only [e, if_false]; exact h.wB i (by omega)
  · by_cases e : j = k
    · have e' : ¬ i = k := by omega
      simp only [e, e', if_true, if_false]; exact hi i (by omega)
    · have e' : ¬ i = k := by omega
      simp only [e, e', if_false]; exact h.inc i j hij (by omega)
  · rw [hs.fr]
    by_cases e : i = k
    · simp only [e, if_true]; exact hf o
    · simp only [e, if_false]; exact h.wf i o (by omega)
  · by_cases e : i = k
    · subst e
      have hx := Option.some.inj (hr.symm.trans hx)
      subst hx
      rw [if_pos rfl]
      exact a3
    · simp only [e, if_false]
      refine (hs.cell _ fun e' => ?_).trans (h.tight i x (by omega) hx)
      have h3 : k * 5 ≤ i * 5 + 3 := e'.2.1
      have h4 : i * 5 + 3 < k * 5 + 5 := e'.2.2
      omega
end

theorem RowsDone.same {g k : Nat} {l : List RowM} {w w' : World} {S : Addr → Prop} (h : RowsDone g l k w) (hs : Same w w' S) (hS : ∀ p, S p → p.block < g) (hg : w'.heap[g]? = w.heap[g]?) : RowsDone g l k w' := by
  obtain ⟨cur, hc, hn⟩ := h.blk
  refine ⟨⟨cur, hg.trans hc, hn⟩, fun i r hi hr => ?_⟩
  rw [hs.sz]
  refine (h.rows i r hi hr).mono (fun b hb => hb) (fun b k hb => hs.cell _ fun e => ?_) (fun k _ _ => hs.cell _ fun e => ?_)
  · have := hS _ e
    have : b < g := this
    omega
  · have := hS _ e
    have : g < g := this
    omega
theorem ClsDone.same {g k : Nat} {m : List ClM} {wb : Nat → Nat} {w w' : World} {S : Addr → Prop} (h : ClsDone g m k wb w) (hs : Same w w' S) (hS : ∀ p, S p → p.block < g) (hg : w'.heap[g]? = w.heap[g]?) : ClsDone g m k wb w' := by
  obtain ⟨cur, hc, hn⟩ := h.blk
  refine ⟨⟨cur, hg.trans hc, hn⟩, fun i c hi hr => ?_, fun i hi => by rw [hs.sz]; exact h.wB i hi, h.inc, fun i o hi => (hs.fr _).trans (h.wf i o hi), fun i c hi hc => (hs.cell _ fun e => by have : g < g := hS _ e; omega).trans (h.tight i c hi hc)⟩
  refine (h.cls i c hi hr).mono (fun b hb => hb) (fun b k hb => hs.cell _ fun e => ?_) (fun k _ _ => hs.cell _ fun e => ?_)
  · have : b < g := hS _ e
    have := (h.wB i hi).1
    omega
  · have : g < g := hS _ e
    omega

/-- A world that goes out, in new memory. -/
def WoOut (wo : WoM) (w : World) (e : Ending) (w' : World) : Prop :=
  ∃ bR bC wb, e = .returned (woV (some ⟨bR, 0, none⟩) wo.rows.length wo.rows.length wo.clock (some ⟨bC, 0, none⟩) wo.cls.length wo.cls.length) ∧ Core w' w.heap.size (fun b => b < w.heap.size) bR bC wb wo ∧ Below w.heap.size w w' ∧ ∀ i c, wo.cls[i]? = some c → w'.cell? ⟨bC, i * 5 + 3, none⟩ = some (.slice (some ⟨wb i, 0, none⟩) c.ws.length c.ws.length)

/-- From rows and clients that are done to a world. -/
theorem core_of {w : World} {B bR bC : Nat} {wb : Nat → Nat} {wo : WoM} (hR : RowsDone bR wo.rows wo.rows.length w) (hC : ClsDone bC wo.cls wo.cls.length wb w) (hB : B ≤ bR) (hlt : bR < bC) (hrecs : ∀ i r, wo.rows[i]? = some r → RowAt w (fun b => bR < b ∧ b < bC) bR (i * 5) r) (rl : wo.rows.length ≤ 1759218604441) (cl : wo.cls.length ≤ 2513169434917) (ck : i64 wo.clock) :
    Core w B (fun b => b < B) bR bC wb wo := by
  obtain ⟨cur, hg, _⟩ := hR.blk
  obtain ⟨cur', hg', _⟩ := hC.blk
  refine ⟨⟨hB, hR.lt, by omega⟩, ⟨by omega, hC.lt, by omega⟩, by omega, fun i hi => ?_, fun i j hi hj e => ?_, fun o => Joins.unfrozen_of_block hg o, fun o => Joins.unfrozen_of_block hg' o, hC.wf, fun i r hr => ?_, fun i c hc => hC.cls i c (List.getElem?_eq_some_iff.1 hc).1 hc, rl, cl, ck⟩
  · obtain ⟨a, b⟩ := hC.wB i hi
    exact ⟨by omega, b, by omega, by omega, by omega⟩
  · rcases Nat.lt_trichotomy i j with h | h | h
    · have := hC.inc i j h hj; omega
    · exact h
    · have := hC.inc j i h hi; omega
  · have hlt' := hC.lt
    refine (hrecs i r hr).mono (fun b hb => ⟨by omega, by omega, by omega, by omega, fun j hj => ?_⟩) (fun _ _ _ => rfl) (fun _ _ _ => rfl)
    have := (hC.wB j hj).1
    omega
end Go.Proofs.YtambkjnhfejfaabDoor
