/-
  Contracts of functions of the program and words for memory, several texts in one: KSmall, Small, Find, RefRec. Conditions: those stated with each.
-/
import Derived.Test.YtambkjnhfejfaacGreatDoorG00
import Derived.WalkKit
import Derived.Below
import Derived.Lib.Hide
import Derived.Lib.Walk
import Derived.Lib.ItoaNum
import Derived.Lib.ItoaWalk
import Derived.Lib.Strings
import Derived.BigCall
import Derived.BigGuard
import Derived.Outline
import Derived.WalkLawsBesides
import Derived.Shelf.Abstract
namespace Go.Proofs.YtambkjnhfejfaacGreatDoor
open Go.RowKit Go.Lib

theorem ret_str {a b : ByteArray} (h : a = b) : Ending.returned (.string a) = .returned (.string b) := by rw [h]
/-- A number from 0 to many - 1. -/
def pickM (n many : Int) : Int := (if n < 0 then -(n + 1) else n) % many
theorem pick_bd (n : Int) {many : Int} (h : 0 < many) : 0 ≤ pickM n many ∧ pickM n many < many := ⟨Int.emod_nonneg _ (by omega), Int.emod_lt_of_pos _ h⟩
set_option maxHeartbeats 1000000 in
theorem picked_any (n many : Int) (w : World) (hn : i64 n) (hm : 0 < many) (hm' : many < 9223372036854775807) :
    Calls Tryz.prog 11 #[.int .i64 n, .int .i64 many] w fun e w' => e = .returned (.int .i64 (pickM n many)) ∧ w' = w := by
  unfold i64 at hn
  have hz : (many == 0) = false := by simpa using (show many ≠ 0 by omega)
  by_cases h : n < 0
  · have t : decide (n < 0) = true := decide_eq_true h
    have hp : -Int.tmod (n + 1) many = pickM n many := by rw [pickM, if_pos h, ← Int.neg_tmod, Int.tmod_eq_emod_of_nonneg (by omega)]
    go_enter Tryz.func11, Tryz.ntmps11
    go_wp2
    go_ret
    exact ⟨rfl, rfl⟩
  · have t : decide (n < 0) = false := decide_eq_false h
    have hp : n % many = pickM n many := by rw [pickM, if_neg h]
    go_enter Tryz.func11, Tryz.ntmps11
    go_wp2
    go_ret
    exact ⟨rfl, rfl⟩

/-- The four keys. -/
def keys4 : List ByteArray := [⟨#[97, 98]⟩, ⟨#[98]⟩, ⟨#[99, 111, 119]⟩, ⟨#[100, 111, 103]⟩]
def keyOf (n : Int) : ByteArray := keys4.getD (pickM n 4).toNat default
theorem keyOf_mem (n : Int) : keyOf n ∈ keys4 := by
  have := pick_bd n (show (0 : Int) < 4 by decide)
  unfold keyOf keys4
  have h : (pickM n 4).toNat = 0 ∨ (pickM n 4).toNat = 1 ∨ (pickM n 4).toNat = 2 ∨ (pickM n 4).toNat = 3 := by omega
  rcases h with h | h | h | h <;> rw [h] <;> simp
theorem keys4_size : ∀ k ∈ keys4, k.size ≤ 3 := by decide +kernel
theorem keys_new (w : World) : ∃ W, W = w.alloc (.cells #[.string ⟨#[97, 98]⟩, .string ⟨#[98]⟩, .string ⟨#[99, 111, 119]⟩, .string ⟨#[100, 111, 103]⟩] 9) ∧ Below w.heap.size w W ∧ ∀ i : Nat, i < 4 → W.cell? ⟨w.heap.size, i, none⟩ = some (.string (keys4.getD i default)) := by
  refine ⟨_, rfl, below_alloc (Below.refl _ _) _, fun i hi => ?_⟩
  rw [World.cell?_alloc_new]
  match i, hi with
  | 0, _ => rfl
  | 1, _ => rfl
  | 2, _ => rfl
  | 3, _ => rfl
set_option maxHeartbeats 1000000 in
theorem kKey_any (n : Int) (w : World) (hn : i64 n) :
    Calls Tryz.prog 7 #[.int .i64 n] w fun e w' => e = .returned (.string (keyOf n)) ∧ Below w.heap.size w w' := by
  obtain ⟨W, hW, hb, hc⟩ := keys_new w
  have HB := Lib.hid hb
  have HW := Lib.hid hW
  obtain ⟨b0, b1⟩ := pick_bd n (show (0 : Int) < 4 by decide)
  have HP := Lib.hid (picked_any n 4 W hn (by decide) (by decide))
  have HK := Lib.hid (show keyOf n = keys4.getD (pickM n 4).toNat default from rfl)
  obtain ⟨i, hi⟩ : ∃ i : Nat, pickM n 4 = i := ⟨(pickM n 4).toNat, by omega⟩
  rw [hi] at b0 b1 HP HK
  rw [Int.toNat_natCast] at HK
  have hc := hc i (by omega)
  clear hb hW hi
  go_enter Tryz.func7, Tryz.ntmps7
  go_wp2_with fail
  rw [← HW.out]
  refine HP.out.mono ?_
  rintro e w1 ⟨rfl, rfl⟩
  go_wp2
  go_ret
  exact ⟨ret_str HK.out.symm, HB.out⟩

/-- A number below 100 as text. -/
def itoaS (i : Nat) : ByteArray := ⟨(Lib.decDigits i).toArray⟩
theorem small_ba (x : ByteArray) (l : List UInt8) (h : x.data.toList = l) : x = ⟨l.toArray⟩ := by
  obtain ⟨d⟩ := x
  subst h
  simp
set_option maxHeartbeats 2000000 in
set_option maxRecDepth 100000 in
theorem small_any (i : Nat) (h : i < 100) (w : World) :
    Calls Tryz.prog 21 #[.int .i64 i] w fun e w' => e = .returned (.string (itoaS i)) ∧ w' = w := by
  go_enter Tryz.func21, Tryz.ntmps21
  go_name_bytes_deep 45 SM hSM
  have eSM : SM = Lib.smalls := by rw [← hSM]; decide +kernel
  subst eSM
  clear hSM
  go_name_bytes_deep 30 DG hDG
  have eDG : DG = Lib.digits36 := by rw [← hDG]; decide +kernel
  subst eDG
  clear hDG
  by_cases h10 : i < 10
  · have hsl : ∀ w, (Instr.slice 9 (.string Lib.digits36) (some (.int .i64 (i : Int))) (some (.int .i64 ((i : Int) + 1))) none).run Tryz.prog w = .ok (.string (Lib.digits36.extract i (i + 1))) w := fun w => by
      rw [run_slice_string w 9 Lib.digits36 .i64 .i64 _ _ Tryz.underlying9 (by omega) (by omega) (by rw [Lib.digits36_size]; omega), show ((i : Int)).toNat = i by omega, show ((i : Int) + 1).toNat = i + 1 by omega]
    go_wp2
    go_ret
    refine ⟨?_, rfl⟩
    show Ending.returned (Value.string (Lib.digits36.extract i (i + 1))) = _
    rw [small_ba (Lib.digits36.extract i (i + 1)) (Lib.decDigits i) (by rw [Lib.extract_data]; exact Lib.digits36_piece h10)]
    rfl
  · have hsl : ∀ w, (Instr.slice 9 (.string Lib.smalls) (some (.int .i64 ((i : Int) * 2))) (some (.int .i64 ((i : Int) * 2 + 2))) none).run Tryz.prog w = .ok (.string (Lib.smalls.extract (i * 2) (i * 2 + 2))) w := fun w => by
      rw [run_slice_string w 9 Lib.smalls .i64 .i64 _ _ Tryz.underlying9 (by omega) (by omega) (by rw [Lib.smalls_size]; omega), show ((i : Int) * 2).toNat = i * 2 by omega, show ((i : Int) * 2 + 2).toNat = i * 2 + 2 by omega]
    go_wp2
    go_ret
    refine ⟨?_, rfl⟩
    show Ending.returned (Value.string (Lib.smalls.extract (i * 2) (i * 2 + 2))) = _
    rw [small_ba (Lib.smalls.extract (i * 2) (i * 2 + 2)) (Lib.decDigits i) (by rw [Lib.extract_data]; exact Lib.smalls_piece h10 h)]
    rfl
set_option maxHeartbeats 2000000 in
set_option maxRecDepth 100000 in
theorem formatInt_any (i : Nat) (h : i < 100) (w : World) :
    Calls Tryz.prog 17 #[.int .i64 i, .int .i64 10] w fun e w' => e = .returned (.string (itoaS i)) ∧ w' = w := by
  have t0 : decide ((0 : Int) ≤ (i : Int)) = true := decide_eq_true (by omega)
  have t1 : decide ((i : Int) < 100) = true := decide_eq_true (by omega)
  have HS := Lib.hid (small_any i h w)
  go_enter Tryz.func17, Tryz.ntmps17
  go_wp2_with fail
  refine HS.out.mono ?_
  rintro e w1 ⟨rfl, rfl⟩
  go_wp2
  go_ret
  exact ⟨rfl, rfl⟩
theorem itoa_in (i : Nat) (h : i < 100) (w : World) :
    Calls Tryz.prog 15 #[.int .i64 i] w fun e w' => e = .returned (.string (itoaS i)) ∧ w' = w := by
  have HS := Lib.hid (formatInt_any i h w)
  go_enter Tryz.func15, Tryz.ntmps15
  go_wp2_with fail
  refine HS.out.mono ?_
  rintro e w1 ⟨rfl, rfl⟩
  go_wp2
  go_ret
  exact ⟨rfl, rfl⟩
theorem itoa_any (i : Nat) (h : i < 100) (w : World) :
    Calls Tryz.prog 12 #[.int .i64 i] w fun e w' => e = .returned (.string (itoaS i)) ∧ w' = w := by
  have HS := Lib.hid (itoa_in i h w)
  go_enter Tryz.func12, Tryz.ntmps12
  go_wp2_with fail
  refine HS.out.mono ?_
  rintro e w1 ⟨rfl, rfl⟩
  go_wp2
  go_ret
  exact ⟨rfl, rfl⟩
theorem itoa_size : ∀ i, i < 100 → (itoaS i).size ≤ 2 := by decide +kernel
end Go.Proofs.YtambkjnhfejfaacGreatDoor

namespace Go.Proofs.YtambkjnhfejfaacGreatDoor
open Go.RowKit

theorem locked_any (key lp val : ByteArray) (ls : Int) (A : Option Addr) (n c : Nat) (w : World) :
    Calls Tryz.prog 67 #[.agg #[.string key, .int .i64 ls, .string lp, .string val, .slice A n c]] w fun e w' => e = .returned (.bool (ls != 0)) ∧ Below w.heap.size w w' := by
  go_enter Tryz.func67, Tryz.ntmps67
  go_wp2
  go_ret
  exact ⟨rfl, (Below.refl _ _).alloc (Nat.le_refl _) _⟩

theorem maxRecords_any (key lp val : ByteArray) (ls : Int) (A : Option Addr) (n c : Nat) (w : World) :
    Calls Tryz.prog 81 #[.agg #[.string key, .int .i64 ls, .string lp, .string val, .slice A n c]] w fun e w' => e = .returned (.int .i64 (roomOf ls)) ∧ Below w.heap.size w w' := by
  by_cases h : ls = 0
  · subst h
    go_enter Tryz.func81, Tryz.ntmps81
    go_wp2
    go_ret
    exact ⟨rfl, by repeat (first | exact Below.refl _ _ | refine Below.alloc ?_ (by simp) _)⟩
  · have hr0 : roomOf ls = 99 := if_neg h
    have hr := Lib.hid hr0
    clear hr0
    have h1 : (ls != 0) = true := by simpa using h
    go_enter Tryz.func81, Tryz.ntmps81
    go_wp2
    go_ret
    exact ⟨ret_int hr.out.symm, by repeat (first | exact Below.refl _ _ | refine Below.alloc ?_ (by simp) _)⟩

theorem validRecord_any (r : RecM) (w : World) (hr : RecOk r) :
    Calls Tryz.prog 92 #[recV r] w fun e w' => e = .returned (.bool (recB r)) ∧ Below w.heap.size w w' := by
  obtain ⟨s, c, v⟩ := r
  have hv : v.size ≤ maxLen := hr.v
  unfold maxLen at hv
  clear hr
  by_cases h1 : inB s 1 1099511627776 = true
  · by_cases h2 : c = 0
    · subst h2
      go_enter Tryz.func92, Tryz.ntmps92
      go_wp2_with (go_at_call 85; refine (isTime_any _ _).mono ?_; rintro e w' ⟨rfl, rfl⟩)
      go_ret
      exact ⟨ret_bool (by simp [recB, h1]), by repeat (first | exact Below.refl _ _ | refine Below.alloc ?_ (by simp) _)⟩
    · have h2' : (c == 0) = false := by simpa using h2
      by_cases h3 : s < c <;> by_cases h4 : c ≤ 1099511627776 <;> by_cases h5 : v.size ≤ 20
      all_goals
        go_enter Tryz.func92, Tryz.ntmps92
        go_wp2_with (go_at_call 85; refine (isTime_any _ _).mono ?_; rintro e w' ⟨rfl, rfl⟩)
        go_ret
        exact ⟨ret_bool (by simp [recB, h1, h2, h3, h4, h5] <;> omega), by repeat (first | exact Below.refl _ _ | refine Below.alloc ?_ (by simp) _)⟩
  · have h1' : inB s 1 1099511627776 = false := by simpa using h1
    clear h1
    go_enter Tryz.func92, Tryz.ntmps92
    go_wp2_with (go_at_call 85; refine (isTime_any _ _).mono ?_; rintro e w' ⟨rfl, rfl⟩)
    go_ret
    exact ⟨ret_bool (by simp [recB, h1']), by repeat (first | exact Below.refl _ _ | refine Below.alloc ?_ (by simp) _)⟩
end Go.Proofs.YtambkjnhfejfaacGreatDoor

namespace Go.Proofs.YtambkjnhfejfaacGreatDoor
open Go.RowKit

theorem getD_of {l : List RecM} {k : Nat} (h : k < l.length) : l[k]? = some (l.getD k default) := by simp [List.getD, h]
theorem mem_getD {l : List RecM} {k : Nat} (h : k < l.length) : l.getD k default ∈ l := by
  simp [List.getD, h]

set_option maxHeartbeats 1000000 in
theorem findLast_any (F : FuncId) (pc : Addr) (p : RecM → Bool) (l : List RecM) (A : Option Addr) (n c : Nat) (w : World) (hE : ∀ args w, (callFunc F args).run Tryz.prog w = .ok (.enter F args) w) (hn : n = l.length) (hl : RecsAt w w.heap.size A l)
    (hF : ∀ r ∈ l, ∀ W, Below w.heap.size w W → Calls Tryz.prog F #[recV r, .pointer (some pc)] W fun e w' => e = .returned (.bool (p r)) ∧ Below W.heap.size W w') :
    Calls Tryz.prog 68 #[.slice A n c, .func (.func F) #[] #[.pointer (some pc)]] w fun e w' => e = .returned (.int .i64 (lastIx p l)) ∧ Below w.heap.size w w' := by
  subst hn
  have hlen := hl.len
  have HF := Lib.hid hF
  have HL := Lib.hid hl
  clear hF hl
  go_enter Tryz.func68, Tryz.ntmps68
  go_wp2
  go_loopw [5] (fun i wr => ∃ k : Nat, k ≤ l.length ∧ i = .int .i64 ((k : Int) - 1) ∧ lastIx p l = lastUpto p l k ∧ Below w.heap.size w wr) (fun i _ => (intOf i + 1).toNat)
  case atStart => exact ⟨l.length, Nat.le_refl _, rfl, rfl, Below.refl _ _⟩
  case round =>
    obtain ⟨k, hk, rfl, hx, hb⟩ := hrel
    have HX := Lib.hid hx
    clear hx
    rcases k with _ | m
    · have e0 : ((0 : Nat) : Int) - 1 = -1 := by omega
      rw [e0]
      go_wp2
      go_ret
      exact ⟨ret_int (by rw [HX.out]; rfl), hb⟩
    · have e0 : ((m + 1 : Nat) : Int) - 1 = (m : Int) := by omega
      rw [e0]
      have hm : m < l.length := by omega
      obtain ⟨b, o, rfl, hbb, hr⟩ := (HL.out.below hb).at_ (getD_of hm)
      obtain ⟨r, hr0⟩ : ∃ r, r = l.getD m default := ⟨_, rfl⟩
      have HF1 := Lib.hid (HF.out r (hr0 ▸ mem_getD hm) wr hb)
      rw [← hr0] at hr
      obtain ⟨c0, c1, c2⟩ := hr
      have HR := Lib.hid hr0
      clear hr0
      by_cases hp : p r = true
      · go_wp2_with (go_at_fn F; refine HF1.out.mono ?_; rintro e w' ⟨rfl, hb'⟩)
        go_ret
        exact ⟨ret_int (by rw [HX.out, lastUpto, ← HR.out, if_pos hp]), hb.trans (hb'.mono hb.size)⟩
      · have hp' : p r = false := by simpa using hp
        clear hp
        go_wp2_with (go_at_fn F; refine HF1.out.mono ?_; rintro e w' ⟨rfl, hb'⟩)
        go_roundw
        case rel => exact ⟨m, by omega, by go_num, by rw [HX.out, lastUpto, ← HR.out, hp']; rfl, hb.trans (hb'.mono hb.size)⟩
        case measure => simp [intOf]

theorem validLockFn_any (r : RecM) (pb po : Nat) (st : Int) (w : World) (hp : w.cell? ⟨pb, po, none⟩ = some (.int .i64 st)) :
    Calls Tryz.prog 93 #[recV r, .pointer (some ⟨pb, po, none⟩)] w fun e w' => e = .returned (.bool (r.s == st || decide (st < r.c))) ∧ Below w.heap.size w w' := by
  obtain ⟨s, c, v⟩ := r
  have hlt : pb < w.heap.size := World.block_lt_of_cell? w _ hp
  by_cases h1 : (s == st) = true
  · go_enter Tryz.func93, Tryz.ntmps93
    go_wp2
    go_ret
    exact ⟨by simp_all, by repeat (first | exact Below.refl _ _ | refine Below.alloc ?_ (by simp) _)⟩
  · have h1' : (s == st) = false := by simpa using h1
    clear h1
    go_enter Tryz.func93, Tryz.ntmps93
    go_wp2
    go_ret
    exact ⟨by simp_all, by repeat (first | exact Below.refl _ _ | refine Below.alloc ?_ (by simp) _)⟩

theorem readFn_any (r : RecM) (pb po : Nat) (st : Int) (w : World) (hp : w.cell? ⟨pb, po, none⟩ = some (.int .i64 st)) :
    Calls Tryz.prog 69 #[recV r, .pointer (some ⟨pb, po, none⟩)] w fun e w' => e = .returned (.bool (r.c != 0 && decide (r.c ≤ st))) ∧ Below w.heap.size w w' := by
  obtain ⟨s, c, v⟩ := r
  have hlt : pb < w.heap.size := World.block_lt_of_cell? w _ hp
  by_cases h1 : (c != 0) = true
  · go_enter Tryz.func69, Tryz.ntmps69
    go_wp2
    go_ret
    exact ⟨by simp_all, by repeat (first | exact Below.refl _ _ | refine Below.alloc ?_ (by simp) _)⟩
  · have h1' : (c != 0) = false := by simpa using h1
    clear h1
    go_enter Tryz.func69, Tryz.ntmps69
    go_wp2
    go_ret
    exact ⟨by simp_all, by repeat (first | exact Below.refl _ _ | refine Below.alloc ?_ (by simp) _)⟩

theorem statusFn_any (r : RecM) (pb po : Nat) (st : Int) (w : World) (hp : w.cell? ⟨pb, po, none⟩ = some (.int .i64 st)) :
    Calls Tryz.prog 99 #[recV r, .pointer (some ⟨pb, po, none⟩)] w fun e w' => e = .returned (.bool (r.s == st)) ∧ Below w.heap.size w w' := by
  obtain ⟨s, c, v⟩ := r
  have hlt : pb < w.heap.size := World.block_lt_of_cell? w _ hp
  go_enter Tryz.func99, Tryz.ntmps99
  go_wp2
  go_ret
  exact ⟨rfl, by repeat (first | exact Below.refl _ _ | refine Below.alloc ?_ (by simp) _)⟩

theorem lockFn_any (r : RecM) (pb po : Nat) (st : Int) (w : World) (hp : w.cell? ⟨pb, po, none⟩ = some (.int .i64 st)) :
    Calls Tryz.prog 98 #[recV r, .pointer (some ⟨pb, po, none⟩)] w fun e w' => e = .returned (.bool (decide (st < r.c))) ∧ Below w.heap.size w w' := by
  obtain ⟨s, c, v⟩ := r
  have hlt : pb < w.heap.size := World.block_lt_of_cell? w _ hp
  go_enter Tryz.func98, Tryz.ntmps98
  go_wp2
  go_ret
  exact ⟨rfl, by repeat (first | exact Below.refl _ _ | refine Below.alloc ?_ (by simp) _)⟩

theorem recordFn_any (r : RecM) (pb po : Nat) (st : Int) (w : World) (hp : w.cell? ⟨pb, po, none⟩ = some (.int .i64 st)) :
    Calls Tryz.prog 100 #[recV r, .pointer (some ⟨pb, po, none⟩)] w fun e w' => e = .returned (.bool (decide (r.s < st))) ∧ Below w.heap.size w w' := by
  obtain ⟨s, c, v⟩ := r
  have hlt : pb < w.heap.size := World.block_lt_of_cell? w _ hp
  go_enter Tryz.func100, Tryz.ntmps100
  go_wp2
  go_ret
  exact ⟨rfl, by repeat (first | exact Below.refl _ _ | refine Below.alloc ?_ (by simp) _)⟩

theorem findLock_any (l : List RecM) (A : Option Addr) (n c : Nat) (pb po : Nat) (st : Int) (w : World) (hn : n = l.length) (hl : RecsAt w w.heap.size A l) (hp : w.cell? ⟨pb, po, none⟩ = some (.int .i64 st)) :
    Calls Tryz.prog 68 #[.slice A n c, .func (.func 93) #[] #[.pointer (some ⟨pb, po, none⟩)]] w fun e w' => e = .returned (.int .i64 (lastIx (fun r => r.s == st || decide (st < r.c)) l)) ∧ Below w.heap.size w w' :=
  findLast_any _ _ _ l A n c w (enters_of Tryz.func93 (by kernel_rfl) rfl) hn hl fun r _ W hb => validLockFn_any r pb po st W ((hb.cell (p := ⟨pb, po, none⟩) (World.block_lt_of_cell? w _ hp)).trans hp)

theorem findRead_any (l : List RecM) (A : Option Addr) (n c : Nat) (pb po : Nat) (st : Int) (w : World) (hn : n = l.length) (hl : RecsAt w w.heap.size A l) (hp : w.cell? ⟨pb, po, none⟩ = some (.int .i64 st)) :
    Calls Tryz.prog 68 #[.slice A n c, .func (.func 69) #[] #[.pointer (some ⟨pb, po, none⟩)]] w fun e w' => e = .returned (.int .i64 (lastIx (fun r => r.c != 0 && decide (r.c ≤ st)) l)) ∧ Below w.heap.size w w' :=
  findLast_any _ _ _ l A n c w (enters_of Tryz.func69 (by kernel_rfl) rfl) hn hl fun r _ W hb => readFn_any r pb po st W ((hb.cell (p := ⟨pb, po, none⟩) (World.block_lt_of_cell? w _ hp)).trans hp)

theorem findStatus_any (l : List RecM) (A : Option Addr) (n c : Nat) (pb po : Nat) (st : Int) (w : World) (hn : n = l.length) (hl : RecsAt w w.heap.size A l) (hp : w.cell? ⟨pb, po, none⟩ = some (.int .i64 st)) :
    Calls Tryz.prog 68 #[.slice A n c, .func (.func 99) #[] #[.pointer (some ⟨pb, po, none⟩)]] w fun e w' => e = .returned (.int .i64 (lastIx (fun r => r.s == st) l)) ∧ Below w.heap.size w w' :=
  findLast_any _ _ _ l A n c w (enters_of Tryz.func99 (by kernel_rfl) rfl) hn hl fun r _ W hb => statusFn_any r pb po st W ((hb.cell (p := ⟨pb, po, none⟩) (World.block_lt_of_cell? w _ hp)).trans hp)

theorem findLate_any (l : List RecM) (A : Option Addr) (n c : Nat) (pb po : Nat) (st : Int) (w : World) (hn : n = l.length) (hl : RecsAt w w.heap.size A l) (hp : w.cell? ⟨pb, po, none⟩ = some (.int .i64 st)) :
    Calls Tryz.prog 68 #[.slice A n c, .func (.func 98) #[] #[.pointer (some ⟨pb, po, none⟩)]] w fun e w' => e = .returned (.int .i64 (lastIx (fun r => decide (st < r.c)) l)) ∧ Below w.heap.size w w' :=
  findLast_any _ _ _ l A n c w (enters_of Tryz.func98 (by kernel_rfl) rfl) hn hl fun r _ W hb => lockFn_any r pb po st W ((hb.cell (p := ⟨pb, po, none⟩) (World.block_lt_of_cell? w _ hp)).trans hp)

theorem findPlace_any (l : List RecM) (A : Option Addr) (n c : Nat) (pb po : Nat) (st : Int) (w : World) (hn : n = l.length) (hl : RecsAt w w.heap.size A l) (hp : w.cell? ⟨pb, po, none⟩ = some (.int .i64 st)) :
    Calls Tryz.prog 68 #[.slice A n c, .func (.func 100) #[] #[.pointer (some ⟨pb, po, none⟩)]] w fun e w' => e = .returned (.int .i64 (lastIx (fun r => decide (r.s < st)) l)) ∧ Below w.heap.size w w' :=
  findLast_any _ _ _ l A n c w (enters_of Tryz.func100 (by kernel_rfl) rfl) hn hl fun r _ W hb => recordFn_any r pb po st W ((hb.cell (p := ⟨pb, po, none⟩) (World.block_lt_of_cell? w _ hp)).trans hp)
end Go.Proofs.YtambkjnhfejfaacGreatDoor

namespace Go.Proofs.YtambkjnhfejfaacGreatDoor
open Go.RowKit

theorem ret_rec {a b : RecM} {p q : Bool} (h : a = b) (h' : p = q) : Ending.returned (.tuple #[recV a, .bool p]) = .returned (.tuple #[recV b, .bool q]) := by rw [h, h']

end Go.Proofs.YtambkjnhfejfaacGreatDoor
