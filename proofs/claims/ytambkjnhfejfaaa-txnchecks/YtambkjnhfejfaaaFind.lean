/-
  Contracts of row.findLast, for whatever closure, and of the closures that are handed to it. Conditions: the records lie in memory ('RecsAt').
-/
import Derived.Test.YtambkjnhfejfaaaSmall
namespace Go.Proofs.Ytambkjnhfejfaaa
open Go.RowKit

theorem getD_of {l : List RecM} {k : Nat} (h : k < l.length) : l[k]? = some (l.getD k default) := by simp [List.getD, h]
theorem mem_getD {l : List RecM} {k : Nat} (h : k < l.length) : l.getD k default ∈ l := by
  simp [List.getD, h]

set_option maxHeartbeats 1000000 in
theorem findLast_any (F : FuncId) (pc : Addr) (p : RecM → Bool) (l : List RecM) (A : Option Addr) (n c : Nat) (w : World) (hE : ∀ args w, (callFunc F args).run Try.prog w = .ok (.enter F args) w) (hn : n = l.length) (hl : RecsAt w w.heap.size A l)
    (hF : ∀ r ∈ l, ∀ W, Below w.heap.size w W → Calls Try.prog F #[recV r, .pointer (some pc)] W fun e w' => e = .returned (.bool (p r)) ∧ Below W.heap.size W w') :
    Calls Try.prog 42 #[.slice A n c, .func (.func F) #[] #[.pointer (some pc)]] w fun e w' => e = .returned (.int .i64 (lastIx p l)) ∧ Below w.heap.size w w' := by
  subst hn
  have hlen := hl.len
  have HF := Lib.hid hF
  have HL := Lib.hid hl
  clear hF hl
  go_enter Try.func42, Try.ntmps42
  go_wp2
  go_loopw [5] (fun i wr => ∃ k : Nat, k ≤ l.length ∧ i = .int .i64 ((k : Int) - 1) ∧ lastIx p l = lastUpto p l k ∧ Below w.heap.size w wr) (fun i _ => (intOf i + 1).toNat)
  case atStart => exact ⟨l.length, Nat.le_refl _, rfl, rfl, Below.refl _ _⟩
  case round =>
    obtain ⟨k, hk, rfl, hx, hb⟩ := hrel
    have HX := Lib.hid hx
    clear hx
    rcases k with _ | m
    · have e0 : ((0 : Nat) : Int) - 1 = -1 := by omega
      rw [e0]
      go_wp2
      go_ret
      exact ⟨ret_int (by rw [HX.out]; rfl), hb⟩
    · have e0 : ((m + 1 : Nat) : Int) - 1 = (m : Int) := by omega
      rw [e0]
      have hm : m < l.length := by omega
      obtain ⟨b, o, rfl, hbb, hr⟩ := (HL.out.below hb).at_ (getD_of hm)
      obtain ⟨r, hr0⟩ : ∃ r, r = l.getD m default := ⟨_, rfl⟩
      have HF1 := Lib.hid (HF.out r (hr0 ▸ mem_getD hm) wr hb)
      rw [← hr0] at hr
      obtain ⟨c0, c1, c2⟩ := hr
      have HR := Lib.hid hr0
      clear hr0
      by_cases hp : p r = true
      · go_wp2_with (go_at_fn F; refine HF1.out.mono ?_; rintro e w' ⟨rfl, hb'⟩)
        go_ret
        exact ⟨ret_int (by rw [HX.out, lastUpto, ← HR.out, if_pos hp]), hb.trans (hb'.mono hb.size)⟩
      · have hp' : p r = false := by simpa using hp
        clear hp
        go_wp2_with (go_at_fn F; refine HF1.out.mono ?_; rintro e w' ⟨rfl, hb'⟩)
        go_roundw
        case rel => exact ⟨m, by omega, by go_num, by rw [HX.out, lastUpto, ← HR.out, hp']; rfl, hb.trans (hb'.mono hb.size)⟩
        case measure => simp [intOf]

theorem validLockFn_any (r : RecM) (pb po : Nat) (st : Int) (w : World) (hp : w.cell? ⟨pb, po, none⟩ = some (.int .i64 st)) :
    Calls Try.prog 56 #[recV r, .pointer (some ⟨pb, po, none⟩)] w fun e w' => e = .returned (.bool (r.s == st || decide (st < r.c))) ∧ Below w.heap.size w w' := by
  obtain ⟨s, c, v⟩ := r
  have hlt : pb < w.heap.size := World.block_lt_of_cell? w _ hp
  by_cases h1 : (s == st) = true
  · go_enter Try.func56, Try.ntmps56
    go_wp2
    go_ret
    exact ⟨by simp_all, by repeat (first | exact Below.refl _ _ | refine Below.alloc ?_ (by simp) _)⟩
  · have h1' : (s == st) = false := by simpa using h1
    clear h1
    go_enter Try.func56, Try.ntmps56
    go_wp2
    go_ret
    exact ⟨by simp_all, by repeat (first | exact Below.refl _ _ | refine Below.alloc ?_ (by simp) _)⟩

theorem readFn_any (r : RecM) (pb po : Nat) (st : Int) (w : World) (hp : w.cell? ⟨pb, po, none⟩ = some (.int .i64 st)) :
    Calls Try.prog 43 #[recV r, .pointer (some ⟨pb, po, none⟩)] w fun e w' => e = .returned (.bool (r.c != 0 && decide (r.c ≤ st))) ∧ Below w.heap.size w w' := by
  obtain ⟨s, c, v⟩ := r
  have hlt : pb < w.heap.size := World.block_lt_of_cell? w _ hp
  by_cases h1 : (c != 0) = true
  · go_enter Try.func43, Try.ntmps43
    go_wp2
    go_ret
    exact ⟨by simp_all, by repeat (first | exact Below.refl _ _ | refine Below.alloc ?_ (by simp) _)⟩
  · have h1' : (c != 0) = false := by simpa using h1
    clear h1
    go_enter Try.func43, Try.ntmps43
    go_wp2
    go_ret
    exact ⟨by simp_all, by repeat (first | exact Below.refl _ _ | refine Below.alloc ?_ (by simp) _)⟩

theorem statusFn_any (r : RecM) (pb po : Nat) (st : Int) (w : World) (hp : w.cell? ⟨pb, po, none⟩ = some (.int .i64 st)) :
    Calls Try.prog 57 #[recV r, .pointer (some ⟨pb, po, none⟩)] w fun e w' => e = .returned (.bool (r.s == st)) ∧ Below w.heap.size w w' := by
  obtain ⟨s, c, v⟩ := r
  have hlt : pb < w.heap.size := World.block_lt_of_cell? w _ hp
  go_enter Try.func57, Try.ntmps57
  go_wp2
  go_ret
  exact ⟨rfl, by repeat (first | exact Below.refl _ _ | refine Below.alloc ?_ (by simp) _)⟩

theorem lockFn_any (r : RecM) (pb po : Nat) (st : Int) (w : World) (hp : w.cell? ⟨pb, po, none⟩ = some (.int .i64 st)) :
    Calls Try.prog 58 #[recV r, .pointer (some ⟨pb, po, none⟩)] w fun e w' => e = .returned (.bool (decide (st < r.c))) ∧ Below w.heap.size w w' := by
  obtain ⟨s, c, v⟩ := r
  have hlt : pb < w.heap.size := World.block_lt_of_cell? w _ hp
  go_enter Try.func58, Try.ntmps58
  go_wp2
  go_ret
  exact ⟨rfl, by repeat (first | exact Below.refl _ _ | refine Below.alloc ?_ (by simp) _)⟩

theorem recordFn_any (r : RecM) (pb po : Nat) (st : Int) (w : World) (hp : w.cell? ⟨pb, po, none⟩ = some (.int .i64 st)) :
    Calls Try.prog 59 #[recV r, .pointer (some ⟨pb, po, none⟩)] w fun e w' => e = .returned (.bool (decide (r.s < st))) ∧ Below w.heap.size w w' := by
  obtain ⟨s, c, v⟩ := r
  have hlt : pb < w.heap.size := World.block_lt_of_cell? w _ hp
  go_enter Try.func59, Try.ntmps59
  go_wp2
  go_ret
  exact ⟨rfl, by repeat (first | exact Below.refl _ _ | refine Below.alloc ?_ (by simp) _)⟩

theorem findLock_any (l : List RecM) (A : Option Addr) (n c : Nat) (pb po : Nat) (st : Int) (w : World) (hn : n = l.length) (hl : RecsAt w w.heap.size A l) (hp : w.cell? ⟨pb, po, none⟩ = some (.int .i64 st)) :
    Calls Try.prog 42 #[.slice A n c, .func (.func 56) #[] #[.pointer (some ⟨pb, po, none⟩)]] w fun e w' => e = .returned (.int .i64 (lastIx (fun r => r.s == st || decide (st < r.c)) l)) ∧ Below w.heap.size w w' :=
  findLast_any _ _ _ l A n c w (enters_of Try.func56 (by kernel_rfl) rfl) hn hl fun r _ W hb => validLockFn_any r pb po st W ((hb.cell (p := ⟨pb, po, none⟩) (World.block_lt_of_cell? w _ hp)).trans hp)

theorem findRead_any (l : List RecM) (A : Option Addr) (n c : Nat) (pb po : Nat) (st : Int) (w : World) (hn : n = l.length) (hl : RecsAt w w.heap.size A l) (hp : w.cell? ⟨pb, po, none⟩ = some (.int .i64 st)) :
    Calls Try.prog 42 #[.slice A n c, .func (.func 43) #[] #[.pointer (some ⟨pb, po, none⟩)]] w fun e w' => e = .returned (.int .i64 (lastIx (fun r => r.c != 0 && decide (r.c ≤ st)) l)) ∧ Below w.heap.size w w' :=
  findLast_any _ _ _ l A n c w (enters_of Try.func43 (by kernel_rfl) rfl) hn hl fun r _ W hb => readFn_any r pb po st W ((hb.cell (p := ⟨pb, po, none⟩) (World.block_lt_of_cell? w _ hp)).trans hp)

theorem findStatus_any (l : List RecM) (A : Option Addr) (n c : Nat) (pb po : Nat) (st : Int) (w : World) (hn : n = l.length) (hl : RecsAt w w.heap.size A l) (hp : w.cell? ⟨pb, po, none⟩ = some (.int .i64 st)) :
    Calls Try.prog 42 #[.slice A n c, .func (.func 57) #[] #[.pointer (some ⟨pb, po, none⟩)]] w fun e w' => e = .returned (.int .i64 (lastIx (fun r => r.s == st) l)) ∧ Below w.heap.size w w' :=
  findLast_any _ _ _ l A n c w (enters_of Try.func57 (by kernel_rfl) rfl) hn hl fun r _ W hb => statusFn_any r pb po st W ((hb.cell (p := ⟨pb, po, none⟩) (World.block_lt_of_cell? w _ hp)).trans hp)

theorem findLate_any (l : List RecM) (A : Option Addr) (n c : Nat) (pb po : Nat) (st : Int) (w : World) (hn : n = l.length) (hl : RecsAt w w.heap.size A l) (hp : w.cell? ⟨pb, po, none⟩ = some (.int .i64 st)) :
    Calls Try.prog 42 #[.slice A n c, .func (.func 58) #[] #[.pointer (some ⟨pb, po, none⟩)]] w fun e w' => e = .returned (.int .i64 (lastIx (fun r => decide (st < r.c)) l)) ∧ Below w.heap.size w w' :=
  findLast_any _ _ _ l A n c w (enters_of Try.func58 (by kernel_rfl) rfl) hn hl fun r _ W hb => lockFn_any r pb po st W ((hb.cell (p := ⟨pb, po, none⟩) (World.block_lt_of_cell? w _ hp)).trans hp)

theorem findPlace_any (l : List RecM) (A : Option Addr) (n c : Nat) (pb po : Nat) (st : Int) (w : World) (hn : n = l.length) (hl : RecsAt w w.heap.size A l) (hp : w.cell? ⟨pb, po, none⟩ = some (.int .i64 st)) :
    Calls Try.prog 42 #[.slice A n c, .func (.func 59) #[] #[.pointer (some ⟨pb, po, none⟩)]] w fun e w' => e = .returned (.int .i64 (lastIx (fun r => decide (r.s < st)) l)) ∧ Below w.heap.size w w' :=
  findLast_any _ _ _ l A n c w (enters_of Try.func59 (by kernel_rfl) rfl) hn hl fun r _ W hb => recordFn_any r pb po st W ((hb.cell (p := ⟨pb, po, none⟩) (World.block_lt_of_cell? w _ hp)).trans hp)
end Go.Proofs.Ytambkjnhfejfaaa
