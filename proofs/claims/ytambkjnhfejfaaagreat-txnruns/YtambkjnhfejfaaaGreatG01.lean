/-
  Contracts of functions of the program and words for memory, several texts in one: RefRec, StatusPure, CopyMem, Copy, AppMem, LockPure, ReadPure, InsPure. Conditions: those stated with each.
-/
import Derived.Test.YtambkjnhfejfaaaGreatG00
import Derived.Lib.SmallJoins
import Derived.Laws.MakeOwn
import Derived.Laws.CopyRow
import Derived.Laws.CopyOwn
import Derived.BigQuiet
import Derived.Deep.QuietTactic
import Derived.Maps.AppendAt
import Derived.RegionTactic
import Derived.OwnWalk
namespace Go.Proofs.YtambkjnhfejfaaaGreat
open Go.RowKit
theorem ret_rec {a b : RecM} {p q : Bool} (h : a = b) (h' : p = q) : Ending.returned (.tuple #[recV a, .bool p]) = .returned (.tuple #[recV b, .bool q]) := by rw [h, h']
set_option maxHeartbeats 2000000 in
theorem recordOf_any (key lp val : ByteArray) (ls st : Int) (A : Option Addr) (l : List RecM) (n c : Nat) (w : World) (hn : n = l.length) (hl : RecsAt w w.heap.size A l) :
 Calls Tryz.prog 59 #[.agg #[.string key, .int .i64 ls, .string lp, .string val, .slice A n c], .int .i64 st] w fun e w' => e = .returned (.tuple #[recV (recOf st l), .bool (hasRec st l)]) ∧ Below w.heap.size w w' := by
 subst hn
 have hlen := hl.len
 have HL := Lib.hid hl
 clear hl
 go_enter Tryz.func59, Tryz.ntmps59
 go_wp2
 go_loop [6] (fun i => ∃ k : Nat, k ≤ l.length ∧ i = .int .i64 k ∧ ∀ j, j < k → (l.getD j default).s ≠ st) (fun i => l.length - (intOf i).toNat)
 case atStart => exact ⟨0, Nat.zero_le _, rfl, fun _ h => absurd h (by omega)⟩
 case round =>
  obtain ⟨k, hk, rfl, hx⟩ := hrel
  have HX := Lib.hid hx
  clear hx
  by_cases hm : k < l.length
  ·obtain ⟨b, o, rfl, hbb, hr⟩ := HL.out.at_ (getD_of hm)
   obtain ⟨r, hr0⟩ : ∃ r, r = l.getD k default := ⟨_, rfl⟩
   rw [← hr0] at hr
   obtain ⟨c0, c1, c2⟩ := hr
   have HR := Lib.hid hr0
   clear hr0
   obtain ⟨rs, rc, rv⟩ := r
   by_cases q : (rs == st) = true
   ·have hf : firstOf st l = some ⟨rs, rc, rv⟩ := by
     rw [HR.out]
     exact firstOf_at hm HX.out (by rw [← HR.out]; simpa using q)
    have HF := Lib.hid hf
    clear hf
    go_wp2
    exact bodyPost_ret (v := .tuple #[.agg #[.int .i64 rs, .int .i64 rc, .string rv], .bool true]) (by simp [results, Tryz.results59, go_sem]) rfl
     ⟨ret_rec (a := ⟨rs, rc, rv⟩) (by rw [recOf, HF.out]; rfl) (by rw [hasRec, HF.out]; rfl), by repeat (first | with_reducible exact Below.refl _ _ | assumption | with_reducible apply below_alloc | with_reducible apply below_drew | with_reducible apply below_drewN | (with_reducible apply below_next; rotate_left; assumption))⟩
   ·have q' : (rs == st) = false := by simpa using q
    have hne : rs ≠ st := by simpa using q
    have HNE := Lib.hid hne
    clear q hne
    go_wp2
    go_round
    case rel => exact ⟨k + 1, by omega, by go_num, fun j hj => by
     by_cases e : j = k
     ·subst e; rw [← HR.out]; exact HNE.out
     ·exact HX.out j (by omega)⟩
    case measure => simp [intOf]; omega
  ·have hf : firstOf st l = none := firstOf_none fun j hj => HX.out j (by omega)
   have HF := Lib.hid hf
   clear hf
   go_wp2
   exact bodyPost_ret (v := .tuple #[.agg #[.int .i64 0, .int .i64 0, .string ⟨#[]⟩], .bool false]) (by simp [results, Tryz.results59, go_sem]) rfl
    ⟨ret_rec (a := ⟨0, 0, ⟨#[]⟩⟩) (by rw [recOf, HF.out]; rfl) (by rw [hasRec, HF.out]; rfl), by repeat (first | with_reducible exact Below.refl _ _ | assumption | with_reducible apply below_alloc | with_reducible apply below_drew | with_reducible apply below_drewN | (with_reducible apply below_next; rotate_left; assumption))⟩
structure RowIn (w : World) (key lp val : ByteArray) (A : Option Addr) (n : Nat) (l : List RecM) : Prop where
 n : n = l.length
 l : RecsAt w w.heap.size A l
 k : key.size ≤ maxLen
 p : lp.size ≤ maxLen
 v : val.size ≤ maxLen
theorem RowIn.upto {w W : World} {key lp val : ByteArray} {A : Option Addr} {n : Nat} {l : List RecM} (h : RowIn w key lp val A n l) (hb : Below w.heap.size w W) : RowIn W key lp val A n l :=
 ⟨h.n, h.l.upto hb, h.k, h.p, h.v⟩
abbrev rowV (key : ByteArray) (ls : Int) (lp val : ByteArray) (A : Option Addr) (n c : Nat) : Value := .agg #[.string key, .int .i64 ls, .string lp, .string val, .slice A n c]
def stOf (ls st : Int) (l : List RecM) : Int := if ls = st then 1 else if hasRec st l then (if (recOf st l).c = 0 then 3 else 2) else 0
def cmOf (ls st : Int) (l : List RecM) : Int := if ls = st then 0 else (recOf st l).c
theorem stOf_at {ls st : Int} {l : List RecM} {r : RecM} (hq : ¬ ls = st) (hf : firstOf st l = some r) : stOf ls st l = if r.c = 0 then 3 else 2 := by
 simp [stOf, hq, hasRec, recOf, hf]
theorem cmOf_at {ls st : Int} {l : List RecM} {r : RecM} (hq : ¬ ls = st) (hf : firstOf st l = some r) : cmOf ls st l = r.c := by simp [cmOf, hq, recOf, hf]
theorem getD_get {l : List RecM} {k : Nat} (h : k < l.length) : l.getD k default = l[k] := by simp [List.getD, h]
theorem lastIx_of {l : List RecM} (h : recsFrom 0 0 l = true) (st : Int) :
 (lastIx (fun r => r.s == st) l < 0 → firstOf st l = none) ∧ (∀ i : Nat, lastIx (fun r => r.s == st) l = (i : Int) → firstOf st l = some (l.getD i default)) := by
 obtain ⟨_, hp⟩ := (recsFrom_iff l 0 0).1 h
 rw [List.pairwise_iff_getElem] at hp
 refine ⟨fun h0 => ?_, fun i hi => ?_⟩
 ·have := (lastIx_neg _ _).1 h0
  unfold firstOf
  rw [List.find?_eq_none]
  intro r hr
  simp [this r hr]
 ·have hil : i < l.length := by have := (lastIx_bd (fun r => r.s == st) l).2; omega
  have hfit : (l.getD i default).s = st := by
   have key : ∀ k, lastUpto (fun r => r.s == st) l k = (i : Int) → (l.getD i default).s = st := by
    intro k
    induction k with
    | zero => intro e; simp [lastUpto] at e
    | succ k ih =>
     intro e
     simp only [lastUpto] at e
     split at e
     ·rename_i hq
      have : k = i := by omega
      subst this
      simpa using hq
     ·exact ih e
   exact key _ hi
  refine firstOf_at hil (fun j hj => ?_) hfit
  have hjl : j < l.length := by omega
  have := (hp j i hjl hil hj).1
  rw [getD_get hil] at hfit
  rw [getD_get hjl]
  omega
theorem recs_ok {key : ByteArray} {ls : Int} {lp val : ByteArray} {l : List RecM} (h : rowB key ls lp val l = true) : recsFrom 0 0 l = true := by
 simp only [rowB, Bool.and_eq_true] at h
 exact h.1.2
def recsC (l : List RecM) : List Value := l.flatMap recC
theorem recsC_cons (r : RecM) (l : List RecM) : recsC (r :: l) = .int .i64 r.s :: .int .i64 r.c :: .string r.v :: recsC l := rfl
theorem recsC_append (a b : List RecM) : recsC (a ++ b) = recsC a ++ recsC b := by simp [recsC]
theorem recsC_length (l : List RecM) : (recsC l).length = l.length * 3 := by
 induction l with
 | nil => rfl
 | cons r l ih => rw [recsC_cons]; simp [ih]; omega
theorem recsC_one (l : List RecM) : ∀ v ∈ recsC l, v.oneCell' = true := by
 induction l with
 | nil => intro v h; cases h
 | cons r l ih =>
  intro v h
  rw [recsC_cons] at h
  simp only [List.mem_cons] at h
  rcases h with rfl | rfl | rfl | h
  ·rfl
  ·rfl
  ·rfl
  ·exact ih v h
theorem recsC_at {l : List RecM} {i : Nat} {r : RecM} (h : l[i]? = some r) : (recsC l)[i * 3]? = some (.int .i64 r.s) ∧ (recsC l)[i * 3 + 1]? = some (.int .i64 r.c) ∧ (recsC l)[i * 3 + 2]? = some (.string r.v) := by
 induction l generalizing i with
 | nil => cases h
 | cons x l ih =>
  rw [recsC_cons]
  cases i with
  | zero => simp only [List.getElem?_cons_zero, Option.some.injEq] at h; subst h; exact ⟨rfl, rfl, rfl⟩
  | succ i =>
   have := ih (i := i) (by simpa using h)
   have e : (i + 1) * 3 = i * 3 + 3 := by omega
   rw [e]
   exact this
theorem RecsAt.cells {w : World} {B b o : Nat} {l : List RecM} (h : RecsAt w B (some ⟨b, o, none⟩) l) : ∀ j v, (recsC l)[j]? = some v → w.cell? ⟨b, o + j, none⟩ = some v := by
 intro j v hj
 have hjl : j < l.length * 3 := by rw [← recsC_length]; exact (List.getElem?_eq_some_iff.1 hj).1
 have hi : j / 3 < l.length := by omega
 obtain ⟨b', o', hA, _, hr⟩ := h.at_ (i := j / 3) (List.getElem?_eq_getElem hi)
 have hA' : b = b' ∧ o = o' := by injection hA with hA; injection hA with h1 h2; exact ⟨h1, h2⟩
 obtain ⟨rfl, rfl⟩ := hA'
 obtain ⟨a0, a1, a2⟩ := recsC_at (List.getElem?_eq_getElem hi)
 have hm : j % 3 = 0 ∨ j % 3 = 1 ∨ j % 3 = 2 := by omega
 rcases hm with hm | hm | hm
 ·rw [show j / 3 * 3 = j by omega] at a0
  rw [hj] at a0
  rw [a0, show o + j = o + j / 3 * 3 by omega]; exact hr.s
 ·rw [show j / 3 * 3 + 1 = j by omega] at a1
  rw [hj] at a1
  rw [a1, show o + j = o + j / 3 * 3 + 1 by omega]; exact hr.c
 ·rw [show j / 3 * 3 + 2 = j by omega] at a2
  rw [hj] at a2
  rw [a2, show o + j = o + j / 3 * 3 + 2 by omega]; exact hr.v
theorem recsAt_block {w : World} {B g : Nat} {l : List RecM} {cur : Array Value} {t : TypeId} {fr : Nat × Nat} (hlen : l.length ≤ 4398046511104) (hok : ∀ r ∈ l, RecOk r) (hB : g < B) (hg : w.heap[g]? = some (.cells cur t fr))
 (hc : ∀ (j : Nat) v, (recsC l)[j]? = some v → cur[j]? = some v) : RecsAt w B (some ⟨g, 0, none⟩) l :=
 ⟨hlen, hok, fun _ => ⟨g, 0, rfl, hB, fun i r hr => by
  obtain ⟨a0, a1, a2⟩ := recsC_at hr
  rw [Nat.zero_add]
  exact ⟨by rw [Joins.cell_of_block hg]; exact hc _ _ a0, by rw [Joins.cell_of_block hg]; exact hc _ _ a1, by rw [Joins.cell_of_block hg]; exact hc _ _ a2⟩⟩⟩
def NewAt (B : Nat) (A : Option Addr) : Prop := ∀ ad, A = some ad → B ≤ ad.block
def NewC (B : Nat) (A : Option Addr) (n c : Nat) : Prop := NewAt B A ∧ n ≤ c
theorem newAt_none (B : Nat) : NewAt B none := fun _ h => by cases h
theorem RecsAt.setLow {w : World} {B B' : Nat} {A : Option Addr} {l : List RecM} (h : RecsAt w B A l) (hn : NewAt B' A) {p : Addr} (hp : p.block < B') (u : Value) : RecsAt (w.setCell p u) B A l :=
 ⟨h.1, h.2.1, fun h0 => by
  obtain ⟨b, o, hA, hb, hc⟩ := h.2.2 h0
  have hB : B' ≤ b := hn _ hA
  exact ⟨b, o, hA, hb, fun i r hr => (hc i r hr).keep fun k => World.cell?_setCell_other w p ⟨b, k, none⟩ u (fun e => by have : p.block = b := congrArg Addr.block e; omega)⟩⟩
theorem three_blocks (w : World) (o1 o2 o3 : Obj) : (((w.alloc o1).alloc o2).alloc o3).heap[w.heap.size]? = some o1 ∧ (((w.alloc o1).alloc o2).alloc o3).heap[w.heap.size + 1]? = some o2 ∧ (((w.alloc o1).alloc o2).alloc o3).heap[w.heap.size + 2]? = some o3 := by
 have h1 := heap_alloc_new w o1
 have h2 := heap_alloc_new (w.alloc o1) o2
 have h3 := heap_alloc_new ((w.alloc o1).alloc o2) o3
 have s1 : (w.alloc o1).heap.size = w.heap.size + 1 := by simp
 have s2 : ((w.alloc o1).alloc o2).heap.size = w.heap.size + 2 := by simp
 rw [s1] at h2
 rw [s2] at h3
 exact ⟨((Below.heap_alloc _ o3 _ (by omega)).trans (Below.heap_alloc _ o2 _ (by omega))).trans h1, (Below.heap_alloc _ o3 _ (by omega)).trans h2, h3⟩
theorem rec_info : (Tryz.prog.info? 80).map (fun i => (i.zero, i.size, i.bytes)) = some (some (.agg #[.int .i64 0, .int .i64 0, .string ⟨#[]⟩]), 3, 32) := by kernel_rfl
theorem make_recs (n : Nat) (hn : n ≤ 4398046511104) : ∃ Z : Array Value, Z.size = n * 3 ∧ ∀ W : World, (Instr.makeSlice 43 (.int .i64 (n : Int)) (.int .i64 (n : Int))).run Tryz.prog W =
 .ok (.slice (some ⟨W.heap.size, 0, none⟩) n n) (W.alloc (.cells Z 80)) := by
 obtain ⟨i0, hi0, hz0, hz1, hz2⟩ := info_parts rec_info
 refine ⟨madeCells (Value.agg #[.int .i64 0, .int .i64 0, .string ⟨#[]⟩]).cells (n * 3), by rw [size_madeCells], fun W => ?_⟩
 have h := run_make (P := Tryz.prog) W 43 80 i0 _ Tryz.underlying43 hi0 hz0 .i64 .i64 (n : Int) (n : Int) (by omega) (by omega) (by rw [hz2]; omega) (by omega)
 simp only [Int.toNat_natCast, hz1] at h
 exact h
theorem copy_recs (W : World) (ty : TypeId) (g n c B : Nat) (A : Option Addr) (l : List RecM) (Z : Array Value) (hn : n = l.length) (hl : RecsAt W B A l) (hZ : Z.size = n * 3) (hg : W.heap[g]? = some (.cells Z 80 (0, 0))) :
 (Builtin.copy_ #[43, 43] ty #[.slice (some ⟨g, 0, none⟩) n n, .slice A n c]).run Tryz.prog W = .ok (goInt n) (W.setRow g (recsC l).toArray) := by
 obtain ⟨i0, hi0, _, hz1, _⟩ := info_parts rec_info
 rcases Nat.eq_zero_or_pos n with h0 | h0
 ·subst h0
  have : l = [] := List.eq_nil_of_length_eq_zero hn.symm
  subst this
  have hZ0 : Z = #[] := Array.eq_empty_of_size_eq_zero (by omega)
  subst hZ0
  have e : W.setRow g (recsC []).toArray = W := setRow_self W g #[] _ _ hg
  rw [e]
  cases A with
  | none => simp [Builtin.copy_, run_underlying Tryz.underlying43, Builtin.lenOf, Builtin.firstCells, sizeOf, typeInfo, hi0, storeCells]
  | some a =>
   have h1 := run_loadCells_list (P := Tryz.prog) W a [] (by simp)
   simp only [List.length_nil] at h1
   simp [Builtin.copy_, run_underlying Tryz.underlying43, Builtin.lenOf, Builtin.firstCells, sizeOf, typeInfo, hi0, storeCells, h1]
 ·obtain ⟨b, o, rfl, _, _⟩ := hl.2.2 (by omega)
  have hsrc : ∀ j v, (recsC l)[j]? = some v → W.cell? ((⟨b, o, none⟩ : Addr).add j) = some v := by
   intro j v hj
   have e : (⟨b, o, none⟩ : Addr).add j = ⟨b, o + j, none⟩ := by unfold Addr.add; split <;> simp_all
   rw [e]
   exact hl.cells j v hj
  have h1 := run_loadCells_list (P := Tryz.prog) W ⟨b, o, none⟩ (recsC l) hsrc
  have h2 := run_storeCells_at Tryz.prog g 0 80 (recsC l) 0 Z W hg (by rw [recsC_length]; omega) (recsC_one l)
  have hd : Z.toList.drop (recsC l).length = [] := List.drop_eq_nil_of_le (by rw [recsC_length]; simp; omega)
  have hlen : (recsC l).length = n * 3 := by rw [recsC_length, hn]
  rw [hlen] at h1
  simp only [Nat.zero_add, List.take_zero, List.nil_append, hd, List.append_nil] at h2
  simp [Builtin.copy_, run_underlying Tryz.underlying43, Builtin.lenOf, Builtin.firstCells, sizeOf, typeInfo, hi0, hz1, h1, h2]
def RowOut (key : ByteArray) (ls : Int) (lp val : ByteArray) (l : List RecM) (w : World) (e : Ending) (w' : World) : Prop :=
 ∃ A c, e = .returned (rowV key ls lp val A l.length c) ∧ RecsAt w' w'.heap.size A l ∧ NewC w.heap.size A l.length c ∧ Below w.heap.size w w'
set_option maxHeartbeats 2000000 in
theorem copy_any (key lp val : ByteArray) (ls : Int) (A : Option Addr) (n c : Nat) (l : List RecM) (w : World) (hn : n = l.length) (hl : RecsAt w w.heap.size A l) :
 Calls Tryz.prog 27 #[rowV key ls lp val A n c] w (RowOut key ls lp val l w) := by
 have hlen := hl.len
 subst hn
 obtain ⟨Z, hZ, hmk⟩ := make_recs l.length hlen
 obtain ⟨W3, hW3⟩ : ∃ W3, W3 = ((w.alloc (.cells #[.string key, .int .i64 ls, .string lp, .string val, .slice A l.length c] 45)).alloc (.cells #[.string ⟨#[]⟩, .int .i64 0, .string ⟨#[]⟩, .string ⟨#[]⟩, .slice none 0 0] 45)).alloc (.cells Z 80) := ⟨_, rfl⟩
 have hb3 : Below w.heap.size w W3 := by rw [hW3]; repeat (first | with_reducible exact Below.refl _ _ | assumption | with_reducible apply below_alloc | with_reducible apply below_drew | with_reducible apply below_drewN | (with_reducible apply below_next; rotate_left; assumption))
 have hs3 : W3.heap.size = w.heap.size + 3 := by rw [hW3]; simp
 obtain ⟨hB0, hB1, hg3⟩ := three_blocks w (.cells #[.string key, .int .i64 ls, .string lp, .string val, .slice A l.length c] 45) (.cells #[.string ⟨#[]⟩, .int .i64 0, .string ⟨#[]⟩, .string ⟨#[]⟩, .slice none 0 0] 45) (.cells Z 80)
 rw [← hW3] at hB0 hB1 hg3
 have hcp := copy_recs W3 3 (w.heap.size + 2) l.length c _ A l Z rfl (hl.upto hb3) hZ hg3
 obtain ⟨W4, hW4⟩ : ∃ W4, W4 = W3.setRow (w.heap.size + 2) (recsC l).toArray := ⟨_, rfl⟩
 rw [← hW4] at hcp
 have hg4 : W4.heap[w.heap.size + 2]? = some (.cells (recsC l).toArray 80 (0, 0)) := by rw [hW4]; exact setRow_heap _ _ _ _ _ _ hg3
 have hb4 : Below (w.heap.size + 2) W3 W4 := by rw [hW4]; exact below_setRow (Below.refl _ _) (Nat.le_refl _) _
 have hD0 := (hb4.block w.heap.size (by omega)).trans hB0
 have hD1 := (hb4.block (w.heap.size + 1) (by omega)).trans hB1
 have hs4 : w.heap.size + 2 < W4.heap.size := by have := hb4.size; omega
 have hbw4 : Below w.heap.size w W4 := hb3.trans (hb4.mono (by omega))
 rw [hW3] at hcp
 have p0 : W4.cell? ⟨w.heap.size, 0, none⟩ = some (.string key) := by rw [Joins.cell_of_block hD0]; rfl
 have p1 : W4.cell? ⟨w.heap.size, 1, none⟩ = some (.int .i64 ls) := by rw [Joins.cell_of_block hD0]; rfl
 have p2 : W4.cell? ⟨w.heap.size, 2, none⟩ = some (.string lp) := by rw [Joins.cell_of_block hD0]; rfl
 have p3 : W4.cell? ⟨w.heap.size, 3, none⟩ = some (.string val) := by rw [Joins.cell_of_block hD0]; rfl
 have p4 : W4.cell? ⟨w.heap.size, 4, none⟩ = some (.slice A l.length c) := by rw [Joins.cell_of_block hD0]; rfl
 have p5 : W4.frozen? ⟨w.heap.size, 4, none⟩ = false := Joins.unfrozen_of_block hD0 _
 have q0 : W4.cell? ⟨w.heap.size + 1, 0, none⟩ = some (.string ⟨#[]⟩) := by rw [Joins.cell_of_block hD1]; rfl
 have q1 : W4.cell? ⟨w.heap.size + 1, 1, none⟩ = some (.int .i64 0) := by rw [Joins.cell_of_block hD1]; rfl
 have q2 : W4.cell? ⟨w.heap.size + 1, 2, none⟩ = some (.string ⟨#[]⟩) := by rw [Joins.cell_of_block hD1]; rfl
 have q3 : W4.cell? ⟨w.heap.size + 1, 3, none⟩ = some (.string ⟨#[]⟩) := by rw [Joins.cell_of_block hD1]; rfl
 have q4 : W4.cell? ⟨w.heap.size + 1, 4, none⟩ = some (.slice none 0 0) := by rw [Joins.cell_of_block hD1]; rfl
 have f0 : W4.frozen? ⟨w.heap.size + 1, 0, none⟩ = false := Joins.unfrozen_of_block hD1 _
 have f1 : W4.frozen? ⟨w.heap.size + 1, 1, none⟩ = false := Joins.unfrozen_of_block hD1 _
 have f2 : W4.frozen? ⟨w.heap.size + 1, 2, none⟩ = false := Joins.unfrozen_of_block hD1 _
 have f3 : W4.frozen? ⟨w.heap.size + 1, 3, none⟩ = false := Joins.unfrozen_of_block hD1 _
 have f4 : W4.frozen? ⟨w.heap.size + 1, 4, none⟩ = false := Joins.unfrozen_of_block hD1 _
 have HG := Lib.hid hg4
 have HB4 := Lib.hid hbw4
 have HL := Lib.hid hl
 clear hg4 hb4 hbw4 hD0 hD1 hW4 hW3 hB0 hB1 hg3 hb3 hs3 hl W3
 go_enter Tryz.func27, Tryz.ntmps27
 go_wp2
 refine bodyPost_ret (v := rowV key ls lp val (some ⟨w.heap.size + 2, 0, none⟩) l.length l.length) (by simp [results, Tryz.results27, go_sem, q0, q1, q2, q3, q4]) rfl ⟨some ⟨w.heap.size + 2, 0, none⟩, l.length, rfl, ?_, ⟨fun ad h => by injection h with h; subst h; show _ ≤ w.heap.size + 2; omega, Nat.le_refl _⟩, ?_⟩
 ·refine recsAt_block HL.out.1 HL.out.2.1 ?_ (cur := (recsC l).toArray) (t := 80) (fr := (0, 0)) ?_ (fun j v h => by simpa using h)
  ·simp [World.setCell]; omega
  ·repeat (rw [Below.heap_setCell _ _ _ _ (by simp)])
   exact HG.out
 ·repeat (refine below_set ?_ (by simp) _)
  exact HB4.out
set_option maxHeartbeats 2000000 in
theorem sameRow_true (key lp val : ByteArray) (ls : Int) (A A' : Option Addr) (n c n' c' : Nat) (l : List RecM) (w : World) (hn : n = l.length) (hn' : n' = l.length) (hl : RecsAt w w.heap.size A l) (hl' : RecsAt w w.heap.size A' l) :
 Calls Tryz.prog 24 #[rowV key ls lp val A n c, rowV key ls lp val A' n' c'] w fun e w' => e = .returned (.bool true) ∧ Below w.heap.size w w' := by
 subst hn hn'
 have hlen := hl.len
 have HL := Lib.hid hl
 have HL' := Lib.hid hl'
 clear hl hl'
 go_enter Tryz.func24, Tryz.ntmps24
 go_wp2
 go_loopw [5] (fun i wr => ∃ (k q : Nat), k ≤ l.length ∧ i = .int .i64 k ∧ wr = ((w.alloc (.cells #[.string key, .int .i64 ls, .string lp, .string val, .slice A l.length c] 45)).alloc (.cells #[.string key, .int .i64 ls, .string lp, .string val, .slice A' l.length c'] 45)).drewN q) (fun i _ => l.length - (intOf i).toNat)
 case atStart => exact ⟨0, 0, Nat.zero_le _, rfl, rfl⟩
 case round =>
  obtain ⟨k, q, hk, rfl, rfl⟩ := hrel
  by_cases hm : k < l.length
  ·obtain ⟨b, o, rfl, hbb, hr⟩ := HL.out.at_ (getD_of hm)
   obtain ⟨b', o', rfl, hbb', hr'⟩ := HL'.out.at_ (getD_of hm)
   obtain ⟨r, hr0⟩ : ∃ r, r = l.getD k default := ⟨_, rfl⟩
   rw [← hr0] at hr hr'
   obtain ⟨c0, c1, c2⟩ := hr
   obtain ⟨d0, d1, d2⟩ := hr'
   clear hr0
   obtain ⟨rs, rc, rv⟩ := r
   have j0 : (0 : Int) ≤ (k : Int) := by omega
   have hbn : b < w.heap.size + 1 := by omega
   have hbn' : b' < w.heap.size + 1 := by omega
   go_wp2
   go_quiet (fail)
   go_wp2
   go_roundw
   case rel => exact ⟨k + 1, _, by omega, by go_num, rfl⟩
   case measure => simp [intOf]; omega
  ·go_wp2
   go_ret
   exact ⟨rfl, by repeat (first | with_reducible exact Below.refl _ _ | assumption | with_reducible apply below_alloc | with_reducible apply below_drew | with_reducible apply below_drewN | (with_reducible apply below_next; rotate_left; assumption))⟩
def OwnsRecs (w : World) (base : Nat) (v : Value) (l : List RecM) : Prop := w.ownsRow base 80 3 v l.length (recsC l)
theorem ownsRecs_nil (w : World) (base : Nat) : OwnsRecs w base (.slice none 0 0) [] := World.ownsRow_nil _ _ _ _
theorem OwnsRecs.at_ {w : World} {base : Nat} {v : Value} {l : List RecM} (h : OwnsRecs w base v l) (hlen : l.length ≤ 4398046511104) (hok : ∀ r ∈ l, RecOk r) : ∃ A c, v = .slice A l.length c ∧ RecsAt w w.heap.size A l := by
 rcases h.2 with ⟨hv, h0⟩ | ⟨g, cap, cur, hv, _, hh, _, _, _, ht⟩
 ·have : l = [] := List.eq_nil_of_length_eq_zero h0
  subst this
  exact ⟨none, 0, hv, RecsAt.nil_ _ _ _⟩
 ·refine ⟨some ⟨g, 0, none⟩, cap, hv, recsAt_block hlen hok (Array.getElem?_eq_some_iff.1 hh).1 hh fun j u hj => ?_⟩
  have hjl := (List.getElem?_eq_some_iff.1 hj).1
  rw [← ht, List.getElem?_take] at hj
  split at hj
  ·simpa using hj
  ·cases hj
theorem OwnsRecs.rec {w : World} {base n c : Nat} {A : Option Addr} {l : List RecM} (h : OwnsRecs w base (.slice A n c) l) (hlen : l.length ≤ 4398046511104) (hok : ∀ r ∈ l, RecOk r) : RecsAt w w.heap.size A l := by
 obtain ⟨A', c', hv, hr⟩ := h.at_ hlen hok
 injection hv with hv
 rw [hv]; exact hr
theorem OwnsRecs.new {w : World} {base n c : Nat} {A : Option Addr} {l : List RecM} (h : OwnsRecs w base (.slice A n c) l) : NewAt base A := by
 intro ad hA
 rcases h.2 with ⟨hv, _⟩ | ⟨g, cap, cur, hv, hg, _⟩
 ·injection hv with hv; rw [hv] at hA; cases hA
 ·injection hv with hv; rw [hv] at hA; injection hA with hA; subst hA; exact hg
theorem OwnsRecs.cap {w : World} {base n c : Nat} {A : Option Addr} {l : List RecM} (h : OwnsRecs w base (.slice A n c) l) : l.length ≤ c := by
 rcases h.2 with ⟨hv, h0⟩ | ⟨g, cap, cur, hv, _, _, hc, _⟩
 ·omega
 ·injection hv with _ _ hv; omega
theorem OwnsRecs.set {w : World} {base : Nat} {v : Value} {l : List RecM} (h : OwnsRecs w base v l) {a : Addr} (ha : a.block < base) (u : Value) : OwnsRecs (w.setCell a u) base v l := ownsRow_setCell_below h ha u
theorem OwnsRecs.kept {w w' : World} {base : Nat} {v : Value} {l : List RecM} (h : OwnsRecs w base v l) (hb : Below w.heap.size w w') : OwnsRecs w' base v l := by
 rcases h.2 with h0 | ⟨g, cap, cur, hv, hg, hh, r⟩
 ·exact ⟨h.1, .inl h0⟩
 ·exact ⟨h.1, .inr ⟨g, cap, cur, hv, hg, (hb.block g (Array.getElem?_eq_some_iff.1 hh).1).trans hh, r⟩⟩
theorem OwnsRecs.below {w w' : World} {base : Nat} {v : Value} {l : List RecM} (h : OwnsRecs w base v l) (hk : ∀ g, v.ownBlock = some g → w'.heap[g]? = w.heap[g]?) : OwnsRecs w' base v l := by
 rcases h.2 with h0 | ⟨g, cap, cur, hv, hg, hh, r⟩
 ·exact ⟨h.1, .inl h0⟩
 ·exact ⟨h.1, .inr ⟨g, cap, cur, hv, hg, (hk g (by rw [hv]; rfl)).trans hh, r⟩⟩
set_option maxRecDepth 100000 in
theorem append_recs (W : World) (ty : TypeId) (base B m c : Nat) (v : Value) (l0 : List RecM) (A : Option Addr) (l : List RecM) (hown : OwnsRecs W base v l0) (hm : m = l.length) (hl : RecsAt W B A l)
 (hbd : l0.length + l.length ≤ 4398046511104) (hbase : base ≤ W.heap.size) :
 ∃ v' w', (Builtin.append_ #[43, 43] ty #[v, .slice A m c]).run Tryz.prog W = .ok v' w' ∧ OwnsRecs w' base v' (l0 ++ l) ∧ W.grownBy w' v.ownBlock ∧ (v'.ownBlock = v.ownBlock ∨ v'.ownBlock = some W.heap.size) := by
 obtain ⟨i0, hi0, hz0, hz1, hz2⟩ := info_parts rec_info
 subst hm
 cases A with
 | none =>
  have h0 : l = [] := by
   rcases Nat.eq_zero_or_pos l.length with h0 | h0
   ·exact List.eq_nil_of_length_eq_zero h0
   ·obtain ⟨b, o, h, _⟩ := hl.2.2 h0; cases h
  subst h0
  refine ⟨v, W, ?_, by simpa using hown, World.grownBy.refl W _, .inl rfl⟩
  rcases hown.2 with ⟨rfl, h0⟩ | ⟨g, cap, cur, rfl, _, _, hnc, _⟩
  ·simp [Builtin.append_, run_underlying Tryz.underlying43, sizeOf, typeInfo, hi0, Builtin.lenOf, Builtin.firstCells]
  ·simp [Builtin.append_, run_underlying Tryz.underlying43, sizeOf, typeInfo, hi0, Builtin.lenOf, Builtin.firstCells, hnc, storeCells]
 | some a =>
  have hsrc : ∀ j u, (recsC l)[j]? = some u → W.cell? (a.add j) = some u := by
   intro j u hj
   have hjl : j < l.length * 3 := by rw [← recsC_length]; exact (List.getElem?_eq_some_iff.1 hj).1
   obtain ⟨b, o, hA, _, _⟩ := hl.2.2 (by omega)
   injection hA with hA
   subst hA
   have e : (⟨b, o, none⟩ : Addr).add j = ⟨b, o + j, none⟩ := by unfold Addr.add; split <;> simp_all
   rw [e]
   exact hl.cells j u hj
  obtain ⟨v', w', h1, h2, h3, _, h5⟩ := run_append_own_at (P := Tryz.prog) W base 43 ty 80 i0 _ 3 32 Tryz.underlying43 hi0 hz0 hz1 hz2 rfl (by omega) v l0.length (recsC l0) hown a l.length c (recsC l)
   (recsC_length l) hsrc (recsC_one l) (by simp only [maxLen]; omega) (by omega) hbase
  refine ⟨v', w', h1, ?_, h3, h5⟩
  unfold OwnsRecs
  rw [List.length_append, recsC_append]
  exact h2
theorem app_shape (W w0 : World) (ty : TypeId) (base B m c : Nat) (v : Value) (l0 : List RecM) (A : Option Addr) (l : List RecM) (hown : OwnsRecs W base v l0) (hm : m = l.length) (hl : RecsAt W B A l)
 (hbd : l0.length + l.length ≤ 4398046511104) (hok : ∀ r ∈ l0, RecOk r) (hbase : base ≤ W.heap.size) (hb : Below base w0 W) :
 ∃ v' w', (Builtin.append_ #[43, 43] ty #[v, .slice A m c]).run Tryz.prog W = .ok v' w' ∧ ∃ A' c', v' = .slice A' (l0 ++ l).length c' ∧ OwnsRecs w' base (.slice A' (l0 ++ l).length c') (l0 ++ l) ∧ Below base w0 w' ∧ W.heap.size ≤ w'.heap.size := by
 obtain ⟨v', w', h1, h2, h3, _⟩ := append_recs W ty base B m c v l0 A l hown hm hl hbd hbase
 obtain ⟨A', c', hv, _⟩ := h2.at_ (by simpa using hbd) (fun r hr => by
  rcases List.mem_append.1 hr with hr | hr
  ·exact hok r hr
  ·exact hl.ok hr)
 subst hv
 exact ⟨_, w', h1, A', c', rfl, h2, hb.grown h3 hbase (fun k hk => (World.ownsRow.lt hown k hk).1), h3.size⟩
theorem step_append_run {P : Program} {ops : Array Oper} {o : Oper} {a : Act} {w : World} {K : Act → World → Prop} {Q : Exit → Act → World → Prop} {E : Prop} (R : Value → World → Prop) (hgd : o.guard = none) (s x : Operand) (t : TypeId)
 (ho : o.op = .call { callee := .builtin .append, args := #[s, x], argTypes := #[t, t] }) (v u : Value) (hs : a.eval s = v) (hx : a.eval x = u)
 (hrun : ∃ v' w', (Builtin.append_ #[t, t] o.type #[v, u]).run P w = .ok v' w' ∧ R v' w') (h : ∀ v' w', R v' w' → K (a.put o.dst v') w') :
 if Region.wanted o (yielded ops a.tmps) = true then Oper.wp P o a w K Q else E := by
 have hw : Region.wanted o (yielded ops a.tmps) = true := by simp [Region.wanted, hgd]
 rw [if_pos hw]
 obtain ⟨v', w', hr, hR⟩ := hrun
 unfold Oper.wp execOp
 simp only [ho, resolve, invoke, builtin, Sem.run_bind, Sem.run_pure, Result.andThen_ok, List.map_toArray, List.map_cons, List.map_nil, hs, hx, hr]
 exact h v' w' hR
theorem wpList_append_run {P : Program} {ops : Array Oper} {rest : List Oper} {o : Oper} {a : Act} {w : World} {Q : Exit → Act → World → Prop} (R : Value → World → Prop) (hgd : o.guard = none) (s x : Operand) (t : TypeId)
 (ho : o.op = .call { callee := .builtin .append, args := #[s, x], argTypes := #[t, t] }) (v u : Value) (hs : a.eval s = v) (hx : a.eval x = u)
 (hrun : ∃ v' w', (Builtin.append_ #[t, t] o.type #[v, u]).run P w = .ok v' w' ∧ R v' w') (h : ∀ v' w', R v' w' → wpList P ops Q rest (a.put o.dst v') w') : wpList P ops Q (o :: rest) a w := by
 refine wpList_plain hgd fun K hK => ?_
 obtain ⟨v', w', hr, hR⟩ := hrun
 unfold Oper.wp execOp
 simp only [ho, resolve, invoke, builtin, Sem.run_bind, Sem.run_pure, Result.andThen_ok, List.map_toArray, List.map_cons, List.map_nil, hs, hx, hr]
 exact hK _ _ (h v' w' hR)
def lateB (st : Int) (l : List RecM) : Bool := decide (0 ≤ lastIx (fun r => decide (st < r.c)) l)
def lockE (key : ByteArray) (ls : Int) (lp val : ByteArray) (l : List RecM) (st : Int) (pk pv : ByteArray) : Int :=
 if rowB key ls lp val l = false then 6 else if inB st 1 1099511627776 = false then 2 else if keyB pk = false then 4 else if 20 < pv.size then 1 else if stOf ls st l = 3 then 9
 else if lateB st l = true then 8 else if ls ≠ 0 then 7 else if 100 ≤ l.length then 1 else 0
theorem lateB_false {st : Int} {l : List RecM} : lateB st l = false ↔ ∀ r ∈ l, r.c ≤ st := by
 unfold lateB
 rw [decide_eq_false_iff_not]
 have h := lastIx_neg (fun r => decide (st < r.c)) l
 constructor
 ·intro h0 r hr
  have := h.1 (by omega) r hr
  simpa using this
 ·intro h0 h1
  have := h.2 (fun r hr => by have := h0 r hr; simpa using this)
  omega
theorem late_at {st : Int} {l : List RecM} {k : Nat} (hk : k < l.length) (h : st < (l.getD k default).c) : lateB st l = true := by
 cases e : lateB st l
 ·have := lateB_false.1 e (l.getD k default) (by simp [List.getD, hk])
  omega
 ·rfl
theorem late_none {st : Int} {l : List RecM} (h : ∀ j, j < l.length → (l.getD j default).c ≤ st) : lateB st l = false := by
 refine lateB_false.2 fun r hr => ?_
 obtain ⟨i, hi, rfl⟩ := List.getElem_of_mem hr
 have := h i hi
 rwa [getD_get hi] at this
def upTo (at_ : Int) (r : RecM) : Bool := r.c != 0 && decide (r.c ≤ at_)
def bestUpto (at_ : Int) (l : List RecM) : Nat → RecM
 | 0 => ⟨0, 0, ⟨#[]⟩⟩
 | k + 1 => if upTo at_ (l.getD k default) then l.getD k default else bestUpto at_ l k
def bestOf (at_ : Int) (l : List RecM) : RecM := bestUpto at_ l l.length
theorem best_last (at_ : Int) (l : List RecM) (k : Nat) :
 (lastUpto (upTo at_) l k < 0 → bestUpto at_ l k = ⟨0, 0, ⟨#[]⟩⟩) ∧ (∀ i : Nat, lastUpto (upTo at_) l k = (i : Int) → bestUpto at_ l k = l.getD i default ∧ upTo at_ (l.getD i default) = true) := by
 induction k with
 | zero => exact ⟨fun _ => rfl, fun i h => by simp [lastUpto] at h⟩
 | succ k ih =>
  simp only [lastUpto, bestUpto]
  by_cases h : upTo at_ (l.getD k default) = true
  ·rw [if_pos h, if_pos h]
   refine ⟨fun h' => by omega, fun i hi => ?_⟩
   have : k = i := by omega
   subst this
   exact ⟨rfl, h⟩
  ·rw [if_neg h, if_neg h]; exact ih
theorem commit_pos {l : List RecM} (h : recsFrom 0 0 l = true) {k : Nat} (hk : k < l.length) (hc : (l.getD k default).c ≠ 0) : (l.getD k default).s < (l.getD k default).c ∧ 1 ≤ (l.getD k default).s := by
 have M := recMay_of (ls := 0) h (fun h => absurd rfl h) hk
 have d := inB_true.1 (M.done hc)
 have t := inB_true.1 M.time
 omega
theorem best_lt {l : List RecM} (h : recsFrom 0 0 l = true) (at_ : Int) {k : Nat} (hk : k ≤ l.length) :
 0 ≤ (bestUpto at_ l k).c ∧ ∀ j, k ≤ j → j < l.length → (l.getD j default).c ≠ 0 → (bestUpto at_ l k).c < (l.getD j default).c := by
 induction k with
 | zero =>
  refine ⟨Int.le_refl _, fun j _ hj hc => ?_⟩
  have := commit_pos h hj hc
  show (0 : Int) < _
  omega
 | succ k ih =>
  simp only [bestUpto]
  by_cases hu : upTo at_ (l.getD k default) = true
  ·rw [if_pos hu]
   have hc0 : (l.getD k default).c ≠ 0 := by simp only [upTo, Bool.and_eq_true, bne_iff_ne] at hu; exact hu.1
   have h1 := commit_pos h (by omega) hc0
   refine ⟨by omega, fun j hj hjl hc => ?_⟩
   have M := recMay_of (ls := 0) h (fun h => absurd rfl h) hjl
   have := M.before k (by omega) hc
   have := commit_pos h hjl hc
   omega
  ·rw [if_neg hu]
   obtain ⟨a, b⟩ := ih (by omega)
   exact ⟨a, fun j hj hjl hc => b j (by omega) hjl hc⟩
theorem best_step {l : List RecM} (h : recsFrom 0 0 l = true) (at_ : Int) {k : Nat} (hk : k < l.length) :
 (decide ((l.getD k default).c ≤ at_) && decide ((bestUpto at_ l k).c < (l.getD k default).c)) = upTo at_ (l.getD k default) := by
 obtain ⟨h0, h1⟩ := best_lt h at_ (Nat.le_of_lt hk)
 unfold upTo
 by_cases hc : (l.getD k default).c = 0
 ·rw [hc]; simp; intro _; omega
 ·have h2 := h1 k (Nat.le_refl _) hk hc
  rw [decide_eq_true h2, show ((l.getD k default).c != 0) = true from by simpa using hc, Bool.and_true, Bool.true_and]
theorem held_pos {key : ByteArray} {ls : Int} {lp val : ByteArray} {l : List RecM} (h : rowB key ls lp val l = true) : ls = 0 ∨ (1 ≤ ls ∧ ls ≤ 1099511627776) := by
 by_cases h0 : ls = 0
 ·exact .inl h0
 ·exact .inr (inB_true.1 (((rowB_iff ..).1 h).held h0).2.1)
def placeOf (st : Int) (l : List RecM) : Nat := (lastIx (fun x => decide (x.s < st)) l + 1).toNat
def insRec (l : List RecM) (r : RecM) : List RecM := l.take (placeOf r.s l) ++ [r] ++ l.drop (placeOf r.s l)
def endRec (l : List RecM) (r : RecM) : List RecM := l.filter (fun x => decide (x.s < r.s)) ++ [r] ++ l.filter (fun x => decide (r.s < x.s))
theorem placeOf_le (st : Int) (l : List RecM) : placeOf st l ≤ l.length := by
 have := lastIx_bd (fun x => decide (x.s < st)) l
 unfold placeOf; omega
theorem placeOf_eq (st : Int) (l : List RecM) : lastIx (fun x => decide (x.s < st)) l + 1 = (placeOf st l : Int) := by
 have := lastIx_bd (fun x => decide (x.s < st)) l
 unfold placeOf; omega
theorem lastIx_fit (p : RecM → Bool) (l : List RecM) (i : Nat) (h : lastIx p l = (i : Int)) : p (l.getD i default) = true ∧ ∀ j, i < j → j < l.length → p (l.getD j default) = false := by
 have key : ∀ k, lastUpto p l k = (i : Int) → p (l.getD i default) = true ∧ ∀ j, i < j → j < k → p (l.getD j default) = false := by
  intro k
  induction k with
  | zero => intro e; simp [lastUpto] at e
  | succ k ih =>
   intro e
   simp only [lastUpto] at e
   split at e
   ·rename_i hq
    have : k = i := by omega
    subst this
    exact ⟨hq, fun j h1 h2 => by omega⟩
   ·rename_i hq
    obtain ⟨a, b⟩ := ih e
    refine ⟨a, fun j h1 h2 => ?_⟩
    by_cases ej : j = k
    ·subst ej; simpa using hq
    ·exact b j h1 (by omega)
 exact key _ h
theorem place_parts {l : List RecM} (h : recsFrom 0 0 l = true) (st : Int) : (∀ j, j < placeOf st l → (l.getD j default).s < st) ∧ (∀ j, placeOf st l ≤ j → j < l.length → ¬ (l.getD j default).s < st) := by
 obtain ⟨_, hp⟩ := (recsFrom_iff l 0 0).1 h
 rw [List.pairwise_iff_getElem] at hp
 by_cases h0 : lastIx (fun x => decide (x.s < st)) l < 0
 ·have e : placeOf st l = 0 := by have := lastIx_bd (fun x => decide (x.s < st)) l; unfold placeOf; omega
  rw [e]
  refine ⟨fun j hj => by omega, fun j _ hj => ?_⟩
  have := (lastIx_neg _ _).1 h0 (l.getD j default) (by simp [List.getD, hj])
  simpa using this
 ·obtain ⟨i, hi⟩ : ∃ i : Nat, lastIx (fun x => decide (x.s < st)) l = (i : Int) := ⟨(lastIx (fun x => decide (x.s < st)) l).toNat, by omega⟩
  have hil : i < l.length := by have := (lastIx_bd (fun x => decide (x.s < st)) l).2; omega
  have e : placeOf st l = i + 1 := by unfold placeOf; omega
  obtain ⟨a, b⟩ := lastIx_fit _ l i hi
  rw [e]
  have a' : (l.getD i default).s < st := by simpa using a
  refine ⟨fun j hj => ?_, fun j hj hjl => by have := b j (by omega) hjl; simpa using this⟩
  by_cases ej : j = i
  ·subst ej; exact a'
  ·have := (hp j i (by omega) hil (by omega)).1
   rw [getD_get hil] at a'
   rw [getD_get (by omega)]
   omega
theorem filter_take_drop {l : List RecM} {k : Nat} (hk : k ≤ l.length) (p : RecM → Bool) (h1 : ∀ j, j < k → p (l.getD j default) = true) (h2 : ∀ j, k ≤ j → j < l.length → p (l.getD j default) = false) : l.filter p = l.take k := by
 have e : l = l.take k ++ l.drop k := (List.take_append_drop k l).symm
 have f1 : (l.take k).filter p = l.take k := by
  rw [List.filter_eq_self]
  intro x hx
  obtain ⟨i, hi, rfl⟩ := List.getElem_of_mem hx
  have hi' : i < k := by simp at hi; omega
  have := h1 i hi'
  rw [getD_get (by omega)] at this
  simpa using this
 have f2 : (l.drop k).filter p = [] := by
  rw [List.filter_eq_nil_iff]
  intro x hx
  obtain ⟨i, hi, rfl⟩ := List.getElem_of_mem hx
  have hi' : k + i < l.length := by simp at hi; omega
  have := h2 (k + i) (by omega) hi'
  rw [getD_get hi'] at this
  simpa using this
 conv => lhs; rw [e]
 rw [List.filter_append, f1, f2, List.append_nil]
theorem filter_drop {l : List RecM} {k : Nat} (p : RecM → Bool) (h1 : ∀ j, j < k → j < l.length → p (l.getD j default) = false) (h2 : ∀ j, k ≤ j → j < l.length → p (l.getD j default) = true) : l.filter p = l.drop k := by
 have e : l = l.take k ++ l.drop k := (List.take_append_drop k l).symm
 have f1 : (l.take k).filter p = [] := by
  rw [List.filter_eq_nil_iff]
  intro x hx
  obtain ⟨i, hi, rfl⟩ := List.getElem_of_mem hx
  have hi' : i < k ∧ i < l.length := by simp at hi; omega
  have := h1 i hi'.1 hi'.2
  rw [getD_get hi'.2] at this
  simpa using this
 have f2 : (l.drop k).filter p = l.drop k := by
  rw [List.filter_eq_self]
  intro x hx
  obtain ⟨i, hi, rfl⟩ := List.getElem_of_mem hx
  have hi' : k + i < l.length := by simp at hi; omega
  have := h2 (k + i) (by omega) hi'
  rw [getD_get hi'] at this
  simpa using this
 conv => lhs; rw [e]
 rw [List.filter_append, f1, f2, List.nil_append]
theorem ins_eq_end {l : List RecM} (h : recsFrom 0 0 l = true) (r : RecM) (hn : hasRec r.s l = false) : insRec l r = endRec l r := by
 obtain ⟨a, b⟩ := place_parts h r.s
 have hne : ∀ j, j < l.length → (l.getD j default).s ≠ r.s := fun j hj => hasRec_false.1 hn _ (by simp [List.getD, hj])
 unfold insRec endRec
 rw [filter_take_drop (placeOf_le r.s l) (fun x => decide (x.s < r.s)) (fun j hj => by simpa using a j hj) (fun j h1 h2 => by simpa using b j h1 h2),
  filter_drop (k := placeOf r.s l) (fun x => decide (r.s < x.s)) (fun j h1 h2 => decide_eq_false (by have := a j h1; omega)) (fun j h1 h2 => decide_eq_true (by have := b j h1 h2; have := hne j h2; omega))]
end Go.Proofs.YtambkjnhfejfaaaGreat
