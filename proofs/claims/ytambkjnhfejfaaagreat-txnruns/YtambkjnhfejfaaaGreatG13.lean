/-
  Contracts of functions of the program and words for memory, several texts in one: TFind. Conditions: those stated with each.
-/
import Derived.Test.YtambkjnhfejfaaaGreatG03
import Derived.Lib.Walk
import Derived.Lib.Strings
namespace Go.Proofs.YtambkjnhfejfaaaGreat
open Go.RowKit
set_option maxRecDepth 100000 in
set_option maxHeartbeats 1000000 in
theorem compareString_any (a b : ByteArray) (w : World) :
 Calls Tryz.prog 91 #[.string a, .string b] w fun e w' => e = .returned (.int .i64 (cmpS a b)) ∧ w = w' := by
 go_enter Tryz.func91, Tryz.ntmps91
 go_wp2
 rw [run_callFunc_extern Tryz.func101 (by kernel_rfl) (by kernel_rfl) (by kernel_rfl) (e := Extern.BytealgCompare.compare) (by kernel_rfl), Lib.run_compareString, Result.andThen_ok, Oper.upon_value]
 go_wp2
 go_ret
 exact ⟨rfl, rfl⟩
theorem compare_any (a b : ByteArray) (w : World) :
 Calls Tryz.prog 70 #[.string a, .string b] w fun e w' => e = .returned (.int .i64 (cmpS a b)) ∧ w = w' := by
 go_enter Tryz.func70, Tryz.ntmps70
 go_wp2_with (go_at_call 91; refine (compareString_any _ _ _).mono ?_; rintro e w' ⟨rfl, rfl⟩)
 go_ret
 exact ⟨rfl, rfl⟩
theorem rowFn_any (key lp val : ByteArray) (ls : Int) (A : Option Addr) (n c : Nat) (k : ByteArray) (w : World) :
 Calls Tryz.prog 72 #[rowV key ls lp val A n c, .string k] w fun e w' => e = .returned (.int .i64 (cmpS key k)) ∧ Below w.heap.size w w' := by
 go_enter Tryz.func72, Tryz.ntmps72
 go_wp2_with (go_at_call 70; refine (compare_any _ _ _).mono ?_; rintro e w' ⟨rfl, rfl⟩)
 go_ret
 exact ⟨rfl, by repeat (first | with_reducible exact Below.refl _ _ | assumption | with_reducible apply below_alloc | with_reducible apply below_drew | with_reducible apply below_drewN | (with_reducible apply below_next; rotate_left; assumption))⟩
theorem ret_ib {a a' : Int} {b b' : Bool} (h : a = a') (h' : b = b') : Ending.returned (.tuple #[.int .i64 a, .bool b]) = .returned (.tuple #[.int .i64 a', .bool b']) := by rw [h, h']
set_option maxRecDepth 100000 in
set_option maxHeartbeats 4000000 in
theorem searchRows_any (l : List RowM) (key : ByteArray) (A : Option Addr) (n c : Nat) (w : World) (hn : n = l.length) (hl : RowsAt w (· < w.heap.size) A l) (hs : Inc (l.map RowM.key)) :
 Calls Tryz.prog 71 #[.slice A n c, .string key, .func (.func 72) #[] #[]] w fun e w' => e = .returned (.tuple #[.int .i64 (lowIx (l.map RowM.key) key), .bool (hasK (l.map RowM.key) key)]) ∧ Below w.heap.size w w' := by
 subst hn
 have hlen := hl.1
 have HL := Lib.hid hl
 have HS := Lib.hid hs
 clear hl hs
 obtain ⟨f, hf⟩ : ∃ f : Nat → ByteArray, f = fun i => (l.map RowM.key).getD i default := ⟨_, rfl⟩
 have HF := Lib.hid hf
 clear hf
 go_enter Tryz.func71, Tryz.ntmps71
 go_wp2
 go_loopw [9, 10] (fun i j wr => ∃ a b : Nat, a ≤ b ∧ b ≤ l.length ∧ i = .int .i64 a ∧ j = .int .i64 b ∧ (∀ t, t < a → ltS (f t) key = true) ∧ (b < l.length → ltS (f b) key = false) ∧ Below w.heap.size w wr) (fun i j _ => (intOf j - intOf i).toNat)
 case atStart => exact ⟨0, l.length, Nat.zero_le _, Nat.le_refl _, rfl, rfl, fun t ht => by omega, fun h => by omega, Below.refl _ _⟩
 case round =>
  obtain ⟨a, b, hab, hbl, rfl, rfl, h1, h2, hb⟩ := hrel
  have H1 := Lib.hid h1
  have H2 := Lib.hid h2
  have HB := Lib.hid hb
  clear h1 h2
  by_cases hm : a < b
  ·obtain ⟨h, hh⟩ : ∃ h : Nat, h = (a + b) / 2 := ⟨_, rfl⟩
   have hh1 : a ≤ h := by omega
   have hh2 : h < b := by omega
   have hh3 : h < l.length := by omega
   have hmid : ((a : Int) + (b : Int)) / 2 = (h : Int) := by omega
   clear hh
   obtain ⟨b0, o, rfl, hbb, hr⟩ := SeqAt.at_ (SeqAt.rows HL.out (below_mem hb).1 (below_mem hb).2) (getD_some (d := default) hh3)
   obtain ⟨r, hr0⟩ : ∃ r, r = l.getD h default := ⟨_, rfl⟩
   rw [← hr0] at hr
   have hfk : f h = r.key := by rw [HF.out, hr0]; simp [List.getD, hh3]
   have HFK := Lib.hid hfk
   have c0 := hr.ck
   have c1 := hr.cs
   have c2 := hr.cp
   have c3 := hr.cv
   obtain ⟨A, q, c4, _, _⟩ := hr.cr
   have j0 : (0 : Int) ≤ (h : Int) := by omega
   have j1 : (h : Int) < (l.length : Int) := by omega
   obtain ⟨rk, ls, lp, val, recs⟩ := r
   dsimp only at c0 c1 c2 c3 c4
   clear hr0 hr hb hfk
   by_cases t : ltS rk key = true
   ·have tc : cmpS rk key < 0 := cmpS_lt.2 t
    have td : decide (cmpS rk key < 0) = true := by simpa using tc
    clear tc
    go_wp2_with (go_at_call 72; refine (rowFn_any rk lp val ls A recs.length q key _).mono ?_; rintro e w1 ⟨rfl, hb1⟩)
    go_roundw
    case rel =>
     refine ⟨h + 1, b, by omega, hbl, by go_num, rfl, fun t' ht' => ?_, H2.out, below_next HB.out hb1⟩
     rcases Nat.lt_or_ge t' h with h' | h'
     ·have e : ltS (f t') (f h) = true := by rw [HF.out]; exact inc_lt HS.out h' (by simpa using hh3)
      rw [HFK.out] at e
      exact ltS_trans e t
     ·have : t' = h := by omega
      rw [this, HFK.out]; exact t
    case measure => simp [intOf]; omega
   ·have t : ltS rk key = false := by simpa using t
    have tc : ¬ cmpS rk key < 0 := fun h => by rw [cmpS_lt.1 h] at t; cases t
    have td : decide (cmpS rk key < 0) = false := by simpa using tc
    clear tc
    go_wp2_with (go_at_call 72; refine (rowFn_any rk lp val ls A recs.length q key _).mono ?_; rintro e w1 ⟨rfl, hb1⟩)
    go_roundw
    case rel => exact ⟨a, h, by omega, by omega, rfl, rfl, H1.out, fun _ => by rw [HFK.out]; exact t, below_next HB.out hb1⟩
    case measure => simp [intOf]; omega
  ·have hab' : a = b := by omega
   subst hab'
   have hlow : lowIx (l.map RowM.key) key = a := lowIx_eq (by simpa using hbl) (fun j hj => by have := H1.out j hj; rw [HF.out] at this; exact this) (fun h => by have := H2.out (by simpa using h); rw [HF.out] at this; exact this)
   have HLOW := Lib.hid hlow
   clear hlow
   by_cases hal : a < l.length
   ·obtain ⟨b0, o, rfl, hbb, hr⟩ := SeqAt.at_ (SeqAt.rows HL.out (below_mem hb).1 (below_mem hb).2) (getD_some (d := default) hal)
    obtain ⟨r, hr0⟩ : ∃ r, r = l.getD a default := ⟨_, rfl⟩
    rw [← hr0] at hr
    have hfk : f a = r.key := by rw [HF.out, hr0]; simp [List.getD, hal]
    have HFK := Lib.hid hfk
    have c0 := hr.ck
    have c1 := hr.cs
    have c2 := hr.cp
    have c3 := hr.cv
    obtain ⟨A, q, c4, _, _⟩ := hr.cr
    have j0 : (0 : Int) ≤ (a : Int) := by omega
    have j1 : (a : Int) < (l.length : Int) := by omega
    obtain ⟨rk, ls, lp, val, recs⟩ := r
    dsimp only at c0 c1 c2 c3 c4
    clear hr0 hr hb hfk
    by_cases t : rk = key
    ·have tc : (cmpS rk key == 0) = true := by simpa using cmpS_eq.2 t
     have HT := Lib.hid (show hasK (l.map RowM.key) key = true by
      have : (l.map RowM.key).getD a default = key := by have := HFK.out; rw [HF.out] at this; exact this.trans t
      simp only [hasK, HLOW.out, this]; simp [hal])
     clear t
     go_wp2_with (go_at_call 72; refine (rowFn_any rk lp val ls A recs.length q key _).mono ?_; rintro e w1 ⟨rfl, hb1⟩)
     go_ret2
     exact ⟨ret_ib (by rw [HLOW.out]) HT.out.symm, below_next HB.out hb1⟩
    ·have tc : (cmpS rk key == 0) = false := by
      have : ¬ cmpS rk key = 0 := fun h => t (cmpS_eq.1 h)
      simpa using this
     have HT := Lib.hid (show hasK (l.map RowM.key) key = false by
      have : ¬ (l.map RowM.key).getD a default = key := by
       have h := HFK.out
       rw [HF.out] at h
       intro h'
       exact t (h.symm.trans h')
      simp only [hasK, HLOW.out, this]; simp)
     clear t
     go_wp2_with (go_at_call 72; refine (rowFn_any rk lp val ls A recs.length q key _).mono ?_; rintro e w1 ⟨rfl, hb1⟩)
     go_ret2
     exact ⟨ret_ib (by rw [HLOW.out]) HT.out.symm, below_next HB.out hb1⟩
   ·have HT := Lib.hid (show hasK (l.map RowM.key) key = false by simp only [hasK, HLOW.out]; simp; omega)
    have d : decide (a < l.length) = false := by simpa using hal
    clear hb
    go_wp2
    go_ret2
    exact ⟨ret_ib (by rw [HLOW.out]) HT.out.symm, HB.out⟩
theorem wrFn_any (rk rv k : ByteArray) (w : World) :
 Calls Tryz.prog 69 #[.agg #[.string rk, .string rv], .string k] w fun e w' => e = .returned (.int .i64 (cmpS rk k)) ∧ Below w.heap.size w w' := by
 go_enter Tryz.func69, Tryz.ntmps69
 go_wp2_with (go_at_call 70; refine (compare_any _ _ _).mono ?_; rintro e w' ⟨rfl, rfl⟩)
 go_ret
 exact ⟨rfl, by repeat (first | with_reducible exact Below.refl _ _ | assumption | with_reducible apply below_alloc | with_reducible apply below_drew | with_reducible apply below_drewN | (with_reducible apply below_next; rotate_left; assumption))⟩
set_option maxRecDepth 100000 in
set_option maxHeartbeats 4000000 in
theorem searchWrs_any (l : List WrM) (key : ByteArray) (A : Option Addr) (n c : Nat) (w : World) (hn : n = l.length) (hl : WrsAt w (· < w.heap.size) A l) (hs : Inc (l.map WrM.k)) :
 Calls Tryz.prog 68 #[.slice A n c, .string key, .func (.func 69) #[] #[]] w fun e w' => e = .returned (.tuple #[.int .i64 (lowIx (l.map WrM.k) key), .bool (hasK (l.map WrM.k) key)]) ∧ Below w.heap.size w w' := by
 subst hn
 have hlen := hl.1
 have HL := Lib.hid hl
 have HS := Lib.hid hs
 clear hl hs
 obtain ⟨f, hf⟩ : ∃ f : Nat → ByteArray, f = fun i => (l.map WrM.k).getD i default := ⟨_, rfl⟩
 have HF := Lib.hid hf
 clear hf
 go_enter Tryz.func68, Tryz.ntmps68
 go_wp2
 go_loopw [9, 10] (fun i j wr => ∃ a b : Nat, a ≤ b ∧ b ≤ l.length ∧ i = .int .i64 a ∧ j = .int .i64 b ∧ (∀ t, t < a → ltS (f t) key = true) ∧ (b < l.length → ltS (f b) key = false) ∧ Below w.heap.size w wr) (fun i j _ => (intOf j - intOf i).toNat)
 case atStart => exact ⟨0, l.length, Nat.zero_le _, Nat.le_refl _, rfl, rfl, fun t ht => by omega, fun h => by omega, Below.refl _ _⟩
 case round =>
  obtain ⟨a, b, hab, hbl, rfl, rfl, h1, h2, hb⟩ := hrel
  have H1 := Lib.hid h1
  have H2 := Lib.hid h2
  have HB := Lib.hid hb
  clear h1 h2
  by_cases hm : a < b
  ·obtain ⟨h, hh⟩ : ∃ h : Nat, h = (a + b) / 2 := ⟨_, rfl⟩
   have hh1 : a ≤ h := by omega
   have hh2 : h < b := by omega
   have hh3 : h < l.length := by omega
   have hmid : ((a : Int) + (b : Int)) / 2 = (h : Int) := by omega
   clear hh
   obtain ⟨b0, o, rfl, hbb, hr⟩ := SeqAt.at_ (SeqAt.wrs HL.out (below_mem hb).1 (below_mem hb).2) (getD_some (d := default) hh3)
   obtain ⟨r, hr0⟩ : ∃ r, r = l.getD h default := ⟨_, rfl⟩
   rw [← hr0] at hr
   have hfk : f h = r.k := by rw [HF.out, hr0]; simp [List.getD, hh3]
   have HFK := Lib.hid hfk
   have c0 := hr.k
   have c1 := hr.v
   have j0 : (0 : Int) ≤ (h : Int) := by omega
   have j1 : (h : Int) < (l.length : Int) := by omega
   obtain ⟨rk, rv⟩ := r
   dsimp only at c0 c1
   clear hr0 hr hb hfk
   by_cases t : ltS rk key = true
   ·have tc : cmpS rk key < 0 := cmpS_lt.2 t
    have td : decide (cmpS rk key < 0) = true := by simpa using tc
    clear tc
    go_wp2_with (go_at_call 69; refine (wrFn_any rk rv key _).mono ?_; rintro e w1 ⟨rfl, hb1⟩)
    go_roundw
    case rel =>
     refine ⟨h + 1, b, by omega, hbl, by go_num, rfl, fun t' ht' => ?_, H2.out, below_next HB.out hb1⟩
     rcases Nat.lt_or_ge t' h with h' | h'
     ·have e : ltS (f t') (f h) = true := by rw [HF.out]; exact inc_lt HS.out h' (by simpa using hh3)
      rw [HFK.out] at e
      exact ltS_trans e t
     ·have : t' = h := by omega
      rw [this, HFK.out]; exact t
    case measure => simp [intOf]; omega
   ·have t : ltS rk key = false := by simpa using t
    have tc : ¬ cmpS rk key < 0 := fun h => by rw [cmpS_lt.1 h] at t; cases t
    have td : decide (cmpS rk key < 0) = false := by simpa using tc
    clear tc
    go_wp2_with (go_at_call 69; refine (wrFn_any rk rv key _).mono ?_; rintro e w1 ⟨rfl, hb1⟩)
    go_roundw
    case rel => exact ⟨a, h, by omega, by omega, rfl, rfl, H1.out, fun _ => by rw [HFK.out]; exact t, below_next HB.out hb1⟩
    case measure => simp [intOf]; omega
  ·have hab' : a = b := by omega
   subst hab'
   have hlow : lowIx (l.map WrM.k) key = a := lowIx_eq (by simpa using hbl) (fun j hj => by have := H1.out j hj; rw [HF.out] at this; exact this) (fun h => by have := H2.out (by simpa using h); rw [HF.out] at this; exact this)
   have HLOW := Lib.hid hlow
   clear hlow
   by_cases hal : a < l.length
   ·obtain ⟨b0, o, rfl, hbb, hr⟩ := SeqAt.at_ (SeqAt.wrs HL.out (below_mem hb).1 (below_mem hb).2) (getD_some (d := default) hal)
    obtain ⟨r, hr0⟩ : ∃ r, r = l.getD a default := ⟨_, rfl⟩
    rw [← hr0] at hr
    have hfk : f a = r.k := by rw [HF.out, hr0]; simp [List.getD, hal]
    have HFK := Lib.hid hfk
    have c0 := hr.k
    have c1 := hr.v
    have j0 : (0 : Int) ≤ (a : Int) := by omega
    have j1 : (a : Int) < (l.length : Int) := by omega
    obtain ⟨rk, rv⟩ := r
    dsimp only at c0 c1
    clear hr0 hr hb hfk
    by_cases t : rk = key
    ·have tc : (cmpS rk key == 0) = true := by simpa using cmpS_eq.2 t
     have HT := Lib.hid (show hasK (l.map WrM.k) key = true by
      have : (l.map WrM.k).getD a default = key := by have := HFK.out; rw [HF.out] at this; exact this.trans t
      simp only [hasK, HLOW.out, this]; simp [hal])
     clear t
     go_wp2_with (go_at_call 69; refine (wrFn_any rk rv key _).mono ?_; rintro e w1 ⟨rfl, hb1⟩)
     go_ret2
     exact ⟨ret_ib (by rw [HLOW.out]) HT.out.symm, below_next HB.out hb1⟩
    ·have tc : (cmpS rk key == 0) = false := by
      have : ¬ cmpS rk key = 0 := fun h => t (cmpS_eq.1 h)
      simpa using this
     have HT := Lib.hid (show hasK (l.map WrM.k) key = false by
      have : ¬ (l.map WrM.k).getD a default = key := by
       have h := HFK.out
       rw [HF.out] at h
       intro h'
       exact t (h.symm.trans h')
      simp only [hasK, HLOW.out, this]; simp)
     clear t
     go_wp2_with (go_at_call 69; refine (wrFn_any rk rv key _).mono ?_; rintro e w1 ⟨rfl, hb1⟩)
     go_ret2
     exact ⟨ret_ib (by rw [HLOW.out]) HT.out.symm, below_next HB.out hb1⟩
   ·have HT := Lib.hid (show hasK (l.map WrM.k) key = false by simp only [hasK, HLOW.out]; simp; omega)
    have d : decide (a < l.length) = false := by simpa using hal
    clear hb
    go_wp2
    go_ret2
    exact ⟨ret_ib (by rw [HLOW.out]) HT.out.symm, HB.out⟩
end Go.Proofs.YtambkjnhfejfaaaGreat
