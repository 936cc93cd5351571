/-
  Contracts of functions of the program and words for memory, several texts in one: KRaw, KRowPure, KRow. Conditions: those stated with each.
-/
import Derived.Test.YtambkjnhfejfaabDoorG01
import Derived.Test.YtambkjnhfejfaabDoorG13
import Derived.Test.YtambkjnhfejfaabDoorG24
import Derived.Test.YtambkjnhfejfaabDoorG29
import Derived.Deep.DeepCutAuto
namespace Go.Proofs.YtambkjnhfejfaabDoor
open Go.ChangeShapes Go.WideShapes Go.ChangeAt Go.RowKit Go.Deep

/-- Some numbers. -/
structure RawM where
  kind : Int
  a : Int
  b : Int
  c : Int
instance : Inhabited RawM := ⟨⟨0, 0, 0, 0⟩⟩
structure RawAt (w : World) (b o : Nat) (r : RawM) : Prop where
  k : w.cell? ⟨b, o, none⟩ = some (.int .i64 r.kind)
  a : w.cell? ⟨b, o + 1, none⟩ = some (.int .i64 r.a)
  bb : w.cell? ⟨b, o + 2, none⟩ = some (.int .i64 r.b)
  c : w.cell? ⟨b, o + 3, none⟩ = some (.int .i64 r.c)
  ok : i64 r.kind ∧ i64 r.a ∧ i64 r.b ∧ i64 r.c
abbrev RawsAt (w : World) (P : Nat → Prop) (A : Option Addr) (l : List RawM) : Prop := SeqAt P 4 4398046511104 (RawAt w) A l
theorem RawAt.keep {w w' : World} {b o : Nat} {x : RawM} (h : RawAt w b o x) (hk : ∀ k, w'.cell? ⟨b, k, none⟩ = w.cell? ⟨b, k, none⟩) : RawAt w' b o x := ⟨(hk _).trans h.k, (hk _).trans h.a, (hk _).trans h.bb, (hk _).trans h.c, h.ok⟩
theorem SeqAt.raws {w w' : World} {P P' : Nat → Prop} {A : Option Addr} {l : List RawM} (h : RawsAt w P A l) (hP : ∀ b, P b → P' b) (hk : ∀ b k, P b → w'.cell? ⟨b, k, none⟩ = w.cell? ⟨b, k, none⟩) : RawsAt w' P' A l :=
  SeqAt.mono h hP fun b _ _ _ hb hx => hx.keep fun k => hk b k hb
/-- The value of a write that the i-th act makes. -/
def vS (i : Nat) : ByteArray := (⟨#[118]⟩ : ByteArray) ++ itoaS i
def actOf (clients : Int) (i : Nat) (r : RawM) : ActM :=
  if pickM r.kind 30 < 5 then actB 1 (pickM r.c clients)
  else if pickM r.kind 30 < 9 then ⟨2, pickM r.c clients, keyOf r.a, ⟨#[]⟩⟩
  else if pickM r.kind 30 < 15 then ⟨3, pickM r.c clients, keyOf r.a, vS i⟩
  else if pickM r.kind 30 < 27 then actB 4 (pickM r.c clients)
  else if pickM r.kind 30 = 27 then actB 5 (pickM r.c clients)
  else ⟨6, pickM r.c clients, keyOf r.a, ⟨#[]⟩⟩
/-- The first k acts. -/
def actsM (clients : Int) (l : List RawM) (k : Nat) : List ActM := (List.range k).map fun i => actOf clients i (l.getD i default)
theorem actsM_succ (clients : Int) (l : List RawM) (k : Nat) : actsM clients l (k + 1) = actsM clients l k ++ [actOf clients k (l.getD k default)] := by
  rw [actsM, actsM, List.range_succ, List.map_append]; rfl
theorem actsM_len (clients : Int) (l : List RawM) (k : Nat) : (actsM clients l k).length = k := by simp [actsM]
theorem vS_size {i : Nat} (h : i < 100) : (vS i).size ≤ 3 := by
  have h1 := itoa_size i h
  have h2 : (⟨#[118]⟩ : ByteArray).size = 1 := rfl
  simp only [vS, ByteArray.size_append]
  omega
theorem actOf_ok {clients : Int} {i : Nat} (h : i < 100) (r : RawM) : ActOk (actOf clients i r) := by
  have h1 := keys4_size _ (keyOf_mem r.a)
  have h2 := vS_size h
  have e : (⟨#[]⟩ : ByteArray).size = 0 := rfl
  have hk : (keyOf r.a).size ≤ maxLen := by simp only [maxLen]; omega
  have hv : (vS i).size ≤ maxLen := by simp only [maxLen]; omega
  have hz : (⟨#[]⟩ : ByteArray).size ≤ maxLen := by rw [e]; exact Nat.zero_le _
  unfold actOf
  repeat' split
  all_goals first | exact ⟨hz, hz⟩ | exact ⟨hk, hz⟩ | exact ⟨hk, hv⟩
theorem actsM_ok {clients : Int} {l : List RawM} {k : Nat} (h : k ≤ 100) : ∀ a ∈ actsM clients l k, ActOk a := by
  intro a ha
  obtain ⟨i, hi, rfl⟩ := List.mem_map.1 ha
  exact actOf_ok (by have := List.mem_range.1 hi; omega) _

theorem cells_raw : Tryd.prog.cellsOf 89 = 4 := by kernel_rfl
theorem bytes_raw : Tryd.prog.bytesOf 89 = 32 := by kernel_rfl
theorem cells_rawsS : Tryd.prog.cellsOf 22 = 1 := by kernel_rfl
section
variable {H : Type} {enc : TypeId × Value → H} {W : World}
set_option maxRecDepth 100000 in
theorem open_rawAt {n b o : Nat} {cs : List Value} {x : DataW H × List MemPlace} (hc : W.cells? 0 ⟨b, o, none⟩ 4 = some cs) (h : DataW.trod enc Tryd.prog W 0 (fun _ => true) true n 89 cs = some x) : ∃ r : RawM, RawAt W b o r := by
  obtain ⟨_, hcl, hat⟩ := World.cells?_some hc
  obtain ⟨ys, n', _, hx, hlen, hyl, hg⟩ := DataW.trod_struct Tryd.underlying89 h
  match cs, hcl with
  | [v0, v1, v2, v3], _ =>
    have f0 : DataW.trod enc Tryd.prog W 0 (fun _ => true) true n' 3 (([v0, v1, v2, v3].drop 0).take (Tryd.prog.cellsOf 3)) = ys[0]? := hg 0 _ rfl
    have f1 : DataW.trod enc Tryd.prog W 0 (fun _ => true) true n' 3 (([v0, v1, v2, v3].drop 1).take (Tryd.prog.cellsOf 3)) = ys[1]? := hg 1 _ rfl
    have f2 : DataW.trod enc Tryd.prog W 0 (fun _ => true) true n' 3 (([v0, v1, v2, v3].drop 2).take (Tryd.prog.cellsOf 3)) = ys[2]? := hg 2 _ rfl
    have f3 : DataW.trod enc Tryd.prog W 0 (fun _ => true) true n' 3 (([v0, v1, v2, v3].drop 3).take (Tryd.prog.cellsOf 3)) = ys[3]? := hg 3 _ rfl
    rw [cells_int] at f0 f1 f2 f3
    match ys, hyl with
    | [y0, y1, y2, y3], _ =>
      simp only [List.drop_zero, List.take_succ_cons, List.take_zero, List.drop_succ_cons, List.getElem?_cons_zero, List.getElem?_cons_succ] at f0 f1 f2 f3
      obtain ⟨p, e0, _, w0⟩ := DataW.trod_int Tryd.underlying3 f0
      obtain ⟨s, e1, _, w1⟩ := DataW.trod_int Tryd.underlying3 f1
      obtain ⟨m, e2, _, w2⟩ := DataW.trod_int Tryd.underlying3 f2
      obtain ⟨a, e3, _, w3⟩ := DataW.trod_int Tryd.underlying3 f3
      simp only [List.cons.injEq, and_true] at e0 e1 e2 e3
      subst e0 e1 e2 e3
      exact ⟨⟨p, s, m, a⟩, by simpa [Addr.add] using hat 0 (by omega), by simpa [Addr.add] using hat 1 (by omega), by simpa [Addr.add] using hat 2 (by omega), by simpa [Addr.add] using hat 3 (by omega), i64_of_wf w0, i64_of_wf w1, i64_of_wf w2, i64_of_wf w3⟩
set_option maxRecDepth 100000 in
/-- A slice of raw numbers that came in. -/
theorem open_raws {r0 : Reach} {base : Nat} {v : Value} {d : DataW H} {p : List MemPlace} (hv : Value.okWide Tryd.prog W r0 base 22 v) (h : DataW.Trod enc Tryd.prog W 0 (fun _ => true) true 22 v d p)
    (hz : ∀ k ∈ d.weights Tryd.prog 22, k ≤ reachBytes) : ∃ (l : List RawM) (A : Option Addr) (c : Nat), v = .slice A l.length c ∧ RawsAt W (· < W.heap.size) A l := by
  obtain ⟨fuel, hf⟩ := h
  obtain ⟨A, n, c, rfl⟩ := okWide_slice Tryd.underlying22 hv
  obtain ⟨l, hl, hr, hcap⟩ := open_seq (E := RawAt W) (sz := 4) (by_ := 32) (mx := 4398046511104) Tryd.underlying22 cells_raw (by omega) bytes_raw (fun n h => by unfold reachBytes at h; omega) hf hz (fun b o n' cs y hc ht _ => open_rawAt hc ht)
  exact ⟨l, A, c, by rw [hl], hr⟩
end
end Go.Proofs.YtambkjnhfejfaabDoor

namespace Go.Proofs.YtambkjnhfejfaabDoor
open Go.RowKit

def rowKey : ByteArray := ⟨#[114, 111, 119]⟩
/-- The Start that is committed. -/
def rowSt (x : RawM) (r : RowM) : Int := if r.ls = 0 then 1 + pickM x.a 30 else r.ls
def rowOp (x : RawM) (r : RowM) : RowM × Int :=
  if pickM x.kind 5 < 2 then lockOp (1 + pickM x.a 30) (keyOf x.b) (vS (pickM x.c 9).toNat) r
  else if pickM x.kind 5 < 4 then commitOp (rowSt x r) (rowSt x r + 1 + pickM x.b 10) r
  else undoOp (1 + pickM x.a 30) r
def rowNext (x : RawM) (r : RowM) : RowM := if (rowOp x r).2 = 0 then (rowOp x r).1 else r
/-- The row behind the first k of the numbers. -/
def rowsM (l : List RawM) : Nat → RowM
  | 0 => freshRow rowKey
  | k + 1 => rowNext (l.getD k default) (rowsM l k)

/-- What the row keeps. -/
structure RowKeep (k : Nat) (r : RowM) : Prop where
  ok : r.ok = true
  key : r.key = rowKey
  sz : RowOk r
  ls : 0 ≤ r.ls ∧ r.ls ≤ 30
  recs : ∀ y ∈ r.recs, y.s ≤ 30 ∧ y.c ≤ 41
  len : r.recs.length ≤ k
theorem lock_fst {st : Int} {pk pv : ByteArray} {r : RowM} (e : (lockOp st pk pv r).2 = 0) : lockE r.key r.ls r.lp r.val r.recs st pk pv = 0 ∧ (lockOp st pk pv r).1 = ⟨r.key, st, pk, pv, r.recs⟩ := by
  unfold lockOp at e ⊢
  by_cases h : lockE r.key r.ls r.lp r.val r.recs st pk pv = 0
  · rw [if_pos h]; exact ⟨h, rfl⟩
  · rw [if_neg h] at e; exact absurd e h
theorem commit_fst {st cm : Int} {r : RowM} (e : (commitOp st cm r).2 = 0) : commitE r.key r.ls r.lp r.val r.recs st cm = 0 ∧ (commitOp st cm r).1 = ⟨r.key, 0, emptyS, emptyS, endRec r.recs ⟨st, cm, r.val⟩⟩ := by
  unfold commitOp at e ⊢
  by_cases h : commitE r.key r.ls r.lp r.val r.recs st cm = 0
  · rw [if_pos h]; exact ⟨h, rfl⟩
  · rw [if_neg h] at e; exact absurd e h
theorem undo_fst {st : Int} {r : RowM} (e : (undoOp st r).2 = 0) : undoE r.key r.ls r.lp r.val r.recs st = 0 ∧ (undoOp st r).1 = undoneR st r := by
  unfold undoOp at e ⊢
  by_cases h : undoE r.key r.ls r.lp r.val r.recs st = 0
  · rw [if_pos h]; exact ⟨h, rfl⟩
  · rw [if_neg h] at e; exact absurd e h
theorem vS9 (n : Int) : (vS (pickM n 9).toNat).size ≤ 3 := vS_size (by have := pick_bd n (show (0 : Int) < 9 by decide); omega)
theorem end_keep {l : List RecM} {s c : Int} {v : ByteArray} {k : Nat} (h : ∀ y ∈ l, y.s ≤ 30 ∧ y.c ≤ 41) (hl : l.length ≤ k) (hs : s ≤ 30) (hc : c ≤ 41) : (∀ y ∈ endRec l ⟨s, c, v⟩, y.s ≤ 30 ∧ y.c ≤ 41) ∧ (endRec l ⟨s, c, v⟩).length ≤ k + 1 := by
  refine ⟨fun y hy => ?_, Nat.le_trans (endRec_len l _) (by omega)⟩
  rcases mem_endRec.1 hy with rfl | ⟨hy, _⟩
  · exact ⟨hs, hc⟩
  · exact h y hy
theorem rowSt_bd {x : RawM} {r : RowM} (h : 0 ≤ r.ls ∧ r.ls ≤ 30) : 1 ≤ rowSt x r ∧ rowSt x r ≤ 30 := by
  have := pick_bd x.a (show (0 : Int) < 30 by decide)
  unfold rowSt
  split <;> omega
theorem rowNext_keep {k : Nat} {r : RowM} (x : RawM) (h : RowKeep k r) : RowKeep (k + 1) (rowNext x r) := by
  unfold rowNext
  split
  · rename_i e
    have ha := pick_bd x.a (show (0 : Int) < 30 by decide)
    have hb := pick_bd x.b (show (0 : Int) < 10 by decide)
    have hs := rowSt_bd (x := x) h.ls
    unfold rowOp at e ⊢
    by_cases h2 : pickM x.kind 5 < 2
    · rw [if_pos h2] at e ⊢
      have hg := lockOp_good _ _ _ r h.ok e
      have hk := keys4_size _ (keyOf_mem x.b)
      have hv := vS9 x.c
      have ho := lockOp_ok h.sz (show i64 (1 + pickM x.a 30) by unfold i64; omega) (show (keyOf x.b).size ≤ maxLen by simp only [maxLen]; omega) (show (vS (pickM x.c 9).toNat).size ≤ maxLen by simp only [maxLen]; omega) e
      have hf := (lock_fst e).2
      refine ⟨hg.1, hg.2.trans h.key, ho, ?_, ?_, ?_⟩
      · rw [hf]; exact ⟨by show (0 : Int) ≤ 1 + _; omega, by show 1 + pickM x.a 30 ≤ 30; omega⟩
      · rw [hf]; exact h.recs
      · rw [hf]; exact Nat.le_succ_of_le h.len
    · rw [if_neg h2] at e ⊢
      by_cases h4 : pickM x.kind 5 < 4
      · rw [if_pos h4] at e ⊢
        have hg := commitOp_good _ _ r h.ok e
        have ho := commitOp_ok h.sz e
        have hf := (commit_fst e).2
        have hr := end_keep (v := r.val) h.recs h.len hs.2 (show rowSt x r + 1 + pickM x.b 10 ≤ 41 by omega)
        refine ⟨hg.1, hg.2.trans h.key, ho, ?_, ?_, ?_⟩
        · rw [hf]; exact ⟨Int.le_refl 0, by show (0 : Int) ≤ 30; omega⟩
        · rw [hf]; exact hr.1
        · rw [hf]; exact hr.2
      · rw [if_neg h4] at e ⊢
        have hg := undoOp_good _ r h.ok e
        have ho := undoOp_ok h.sz e
        have hf := (undo_fst e).2
        have hr := end_keep (v := emptyS) h.recs h.len (show 1 + pickM x.a 30 ≤ 30 by omega) (show (0 : Int) ≤ 41 by omega)
        refine ⟨hg.1, hg.2.trans h.key, ho, ?_, ?_, ?_⟩
        · rw [hf]; unfold undoneR
          split
          · exact h.ls
          · split
            · exact ⟨Int.le_refl 0, by show (0 : Int) ≤ 30; omega⟩
            · exact h.ls
        · rw [hf]; unfold undoneR
          split
          · exact h.recs
          · split
            · exact hr.1
            · exact hr.1
        · rw [hf]; unfold undoneR
          split
          · exact Nat.le_succ_of_le h.len
          · split
            · exact hr.2
            · exact hr.2
  · exact ⟨h.ok, h.key, h.sz, h.ls, h.recs, Nat.le_succ_of_le h.len⟩
theorem rowsM_keep (l : List RawM) : ∀ k, RowKeep k (rowsM l k)
  | 0 => ⟨fresh_valid (by decide +kernel), rfl, fresh_ok (by decide), ⟨Int.le_refl 0, by show (0 : Int) ≤ 30; omega⟩, fun _ h => (by cases h), Nat.le_refl 0⟩
  | k + 1 => rowNext_keep _ (rowsM_keep l k)
end Go.Proofs.YtambkjnhfejfaabDoor

namespace Go.Proofs.YtambkjnhfejfaabDoor
open Go.RowKit Go.Deep

/-- A row in its box. -/
structure RowBox (w : World) (g : Nat) (r : RowM) (A : Option Addr) (n c : Nat) : Prop where
  k : w.cell? ⟨g, 0, none⟩ = some (.string r.key)
  s : w.cell? ⟨g, 1, none⟩ = some (.int .i64 r.ls)
  p : w.cell? ⟨g, 2, none⟩ = some (.string r.lp)
  v : w.cell? ⟨g, 3, none⟩ = some (.string r.val)
  l : w.cell? ⟨g, 4, none⟩ = some (.slice A n c)
  f : ∀ o, w.frozen? ⟨g, o, none⟩ = false
theorem RowBox.new (w : World) (r : RowM) (A : Option Addr) (n c : Nat) : RowBox (w.alloc (.cells #[.string r.key, .int .i64 r.ls, .string r.lp, .string r.val, .slice A n c] 27)) w.heap.size r A n c := ⟨by simp, by simp, by simp, by simp, by simp, fun o => by simp⟩
section
variable {w w' : World} {g : Nat} {r : RowM} {A : Option Addr} {n c B : Nat}
theorem RowBox.upto (h : RowBox w g r A n c) (hb : Below B w w') (hg : g < B) : RowBox w' g r A n c :=
  ⟨(hb.cell (p := ⟨g, 0, none⟩) hg).trans h.k, (hb.cell (p := ⟨g, 1, none⟩) hg).trans h.s, (hb.cell (p := ⟨g, 2, none⟩) hg).trans h.p, (hb.cell (p := ⟨g, 3, none⟩) hg).trans h.v, (hb.cell (p := ⟨g, 4, none⟩) hg).trans h.l, fun o => (hb.frozen (p := ⟨g, o, none⟩) hg).trans (h.f o)⟩
abbrev setRow (w : World) (g : Nat) (r : RowM) (A : Option Addr) (n c : Nat) : World := set5 w g 0 (.string r.key) (.int .i64 r.ls) (.string r.lp) (.string r.val) (.slice A n c)
theorem frozen_set5 (w : World) (g o : Nat) (v0 v1 v2 v3 v4 : Value) (p : Addr) : (set5 w g o v0 v1 v2 v3 v4).frozen? p = w.frozen? p := by unfold set5; simp only [World.frozen?_setCell]
theorem size_set5 (w : World) (g o : Nat) (v0 v1 v2 v3 v4 : Value) : (set5 w g o v0 v1 v2 v3 v4).heap.size = w.heap.size := by unfold set5; simp [World.setCell]
theorem cell_set5 (w : World) (g o : Nat) (v0 v1 v2 v3 v4 : Value) {b k : Nat} (h : b ≠ g) : (set5 w g o v0 v1 v2 v3 v4).cell? ⟨b, k, none⟩ = w.cell? ⟨b, k, none⟩ := by
  have ne : ∀ j, (⟨g, j, none⟩ : Addr) ≠ ⟨b, k, none⟩ := fun j e => h (by injection e with e1 _; exact e1.symm)
  unfold set5
  rw [World.cell?_setCell_other _ _ _ _ (ne _), World.cell?_setCell_other _ _ _ _ (ne _), World.cell?_setCell_other _ _ _ _ (ne _), World.cell?_setCell_other _ _ _ _ (ne _), World.cell?_setCell_other _ _ _ _ (ne _)]
theorem RowBox.set (h : RowBox w g r A n c) (r' : RowM) (A' : Option Addr) (n' c' : Nat) : RowBox (setRow w g r' A' n' c') g r' A' n' c' := by
  obtain ⟨a0, a1, a2, a3, a4⟩ := set5_at (o := 0) h.k h.s h.p h.v h.l (.string r'.key) (.int .i64 r'.ls) (.string r'.lp) (.string r'.val) (.slice A' n' c')
  exact ⟨a0, a1, a2, a3, a4, fun o => (frozen_set5 _ _ _ _ _ _ _ _ _).trans (h.f o)⟩
theorem RowBox.other (h : RowBox w g r A n c) {g' : Nat} (hg : g ≠ g') (v0 v1 v2 v3 v4 : Value) : RowBox (set5 w g' 0 v0 v1 v2 v3 v4) g r A n c :=
  ⟨(cell_set5 _ _ _ _ _ _ _ _ hg).trans h.k, (cell_set5 _ _ _ _ _ _ _ _ hg).trans h.s, (cell_set5 _ _ _ _ _ _ _ _ hg).trans h.p, (cell_set5 _ _ _ _ _ _ _ _ hg).trans h.v, (cell_set5 _ _ _ _ _ _ _ _ hg).trans h.l, fun o => (frozen_set5 _ _ _ _ _ _ _ _ _).trans (h.f o)⟩
theorem recs_set5 {l : List RecM} (h : RecsAt w w.heap.size A l) {B' : Nat} (hn : NewAt B' A) (hg : g < B') (v0 v1 v2 v3 v4 : Value) : RecsAt (set5 w g 0 v0 v1 v2 v3 v4) (set5 w g 0 v0 v1 v2 v3 v4).heap.size A l := by
  rw [size_set5]
  exact ((((h.setLow hn hg _).setLow hn hg _).setLow hn hg _).setLow hn hg _).setLow hn hg _
end
/-- A row that goes out. -/
def KRowOut (r : RowM) (w : World) (e : Ending) (w' : World) : Prop :=
  ∃ A c, e = .returned (rV r A r.recs.length c) ∧ OpIn w' r A r.recs.length c ∧ Below w.heap.size w w'
set_option maxRecDepth 100000 in
set_option maxHeartbeats 4000000 in
theorem kRow_any (A : Option Addr) (q : Nat) (l : List RawM) (w : World) (hr : RawsAt w (· < w.heap.size) A l) :
    Calls Tryd.prog 15 #[.slice A l.length q] w (KRowOut (rowsM l (min l.length 40)) w) := by
  have HR := Lib.hid hr
  have hlen := hr.1
  clear hr
  have hbx0 := RowBox.new w (freshRow ⟨#[]⟩) none 0 0
  have hbx1 := RowBox.new (w.alloc (.cells #[.string ⟨#[]⟩, .int .i64 0, .string ⟨#[]⟩, .string ⟨#[]⟩, .slice none 0 0] 27)) (freshRow rowKey) none 0 0
  have hsz : (w.alloc (.cells #[.string ⟨#[]⟩, .int .i64 0, .string ⟨#[]⟩, .string ⟨#[]⟩, .slice none 0 0] 27)).heap.size = w.heap.size + 1 := by simp
  rw [hsz] at hbx1
  have hbx2 := hbx0.upto (below_alloc (Below.refl _ _) (.cells #[.string rowKey, .int .i64 0, .string ⟨#[]⟩, .string ⟨#[]⟩, .slice none 0 0] 27)) (by simp)
  have HX1 := Lib.hid hbx1
  have HX2 := Lib.hid hbx2
  clear hbx0 hbx1 hbx2 hsz
  go_enter Tryd.func15, Tryd.ntmps15
  go_wp2
  go_loopw [4] (fun i wr => ∃ (k : Nat) (As : Option Addr) (cs : Nat), k ≤ min l.length 40 ∧ i = .int .i64 k ∧ RowBox wr (w.heap.size + 1) (rowsM l k) As (rowsM l k).recs.length cs ∧ RowBox wr w.heap.size (freshRow ⟨#[]⟩) none 0 0 ∧ OpIn wr (rowsM l k) As (rowsM l k).recs.length cs ∧ NewAt (w.heap.size + 2) As ∧ Below w.heap.size w wr) (fun i _ => min l.length 40 - (intOf i).toNat)
  case atStart => exact ⟨0, none, 0, Nat.zero_le _, rfl, HX1.out, HX2.out, ⟨⟨rfl, ⟨Nat.zero_le _, (fun _ h => by cases h), (fun h => absurd h (Nat.lt_irrefl 0))⟩, (rowsM_keep l 0).sz.k, (rowsM_keep l 0).sz.p, (rowsM_keep l 0).sz.v⟩, Nat.le_refl _⟩, newAt_none _, below_alloc (below_alloc (Below.refl _ _) _) _⟩
  case round =>
    obtain ⟨k, As, cs, hk, rfl, hbx, hbz, hin, hnew, hb⟩ := hrel
    have hkeep := rowsM_keep l k
    have HBX := Lib.hid hbx
    have HBZ := Lib.hid hbz
    have HIN := Lib.hid hin
    have HNW := Lib.hid hnew
    have HB := Lib.hid hb
    have hsw : w.heap.size + 1 < wr.heap.size := World.block_lt_of_cell? wr _ hbx.k
    by_cases hm : k < min l.length 40
    · have hml : k < l.length := by omega
      obtain ⟨b, o, hA, hbb, hx⟩ := SeqAt.at_ (HR.out.raws (below_mem hb).1 (below_mem hb).2) (getD_some (d := default) hml)
      subst hA
      have HSUC := Lib.hid (show rowsM l (k + 1) = rowNext (l.getD k default) (rowsM l k) from rfl)
      obtain ⟨x, hrd⟩ : ∃ x, x = l.getD k default := ⟨_, rfl⟩
      rw [← hrd] at hx HSUC
      obtain ⟨r, hr⟩ : ∃ r, r = rowsM l k := ⟨_, rfl⟩
      rw [← hr] at HBX HIN HSUC hkeep
      have x0 := hx.k
      have x1 := hx.a
      have x2 := hx.bb
      have x3 := hx.c
      obtain ⟨ok0, ok1, ok2, ok3⟩ := hx.ok
      have j0 : (0 : Int) ≤ (k : Int) := by omega
      have j1 : (k : Int) < (l.length : Int) := by omega
      have j2 : decide ((k : Int) < (l.length : Int)) = true := decide_eq_true (by omega)
      have j3 : decide ((k : Int) < 40) = true := decide_eq_true (by omega)
      obtain ⟨xk, xa, xb, xc⟩ := x
      dsimp only at x0 x1 x2 x3 ok0 ok1 ok2 ok3
      have HKP := Lib.hid hkeep
      obtain ⟨n, hn⟩ : ∃ n, n = r.recs.length := ⟨_, rfl⟩
      rw [← hn] at HBX HIN
      have HPA := Lib.hid (fun W => picked_any xa 30 W ok1 (by omega) (by omega))
      have HPK := Lib.hid (fun W => picked_any xk 5 W ok0 (by omega) (by omega))
      have ba := pick_bd xa (show (0 : Int) < 30 by decide)
      have bk := pick_bd xk (show (0 : Int) < 5 by decide)
      have bb := pick_bd xb (show (0 : Int) < 10 by decide)
      have bc := pick_bd xc (show (0 : Int) < 9 by decide)
      have bl := hkeep.ls
      have HOP := Lib.hid (show rowOp ⟨xk, xa, xb, xc⟩ r = if pickM xk 5 < 2 then lockOp (1 + pickM xa 30) (keyOf xb) (vS (pickM xc 9).toNat) r else if pickM xk 5 < 4 then commitOp (if r.ls = 0 then 1 + pickM xa 30 else r.ls) ((if r.ls = 0 then 1 + pickM xa 30 else r.ls) + 1 + pickM xb 10) r else undoOp (1 + pickM xa 30) r from rfl)
      obtain ⟨Y, hY⟩ : ∃ Y, Y = rowOp ⟨xk, xa, xb, xc⟩ r := ⟨_, rfl⟩
      obtain ⟨R', ec⟩ := Y
      have HNX := Lib.hid (show rowNext ⟨xk, xa, xb, xc⟩ r = if ec = 0 then R' else r by unfold rowNext; rw [← hY])
      rw [← hY] at HOP
      obtain ⟨pa, hpa⟩ : ∃ pa, pa = pickM xa 30 := ⟨_, rfl⟩
      obtain ⟨pk, hpk⟩ : ∃ pk, pk = pickM xk 5 := ⟨_, rfl⟩
      rw [← hpa] at HPA ba HOP
      rw [← hpk] at HPK bk HOP
      have y0 := HBX.out.k
      have y1 := HBX.out.s
      have y2 := HBX.out.p
      have y3 := HBX.out.v
      have y4 := HBX.out.l
      obtain ⟨W1, hW1⟩ : ∃ W1, W1 = (wr.alloc (.cells #[.int .i64 xk, .int .i64 xa, .int .i64 xb, .int .i64 xc] 89)).alloc (.cells #[.string ⟨#[]⟩, .int .i64 0, .string ⟨#[]⟩, .string ⟨#[]⟩, .slice none 0 0] 27) := ⟨_, rfl⟩
      have hb1 : Below wr.heap.size wr W1 := by rw [hW1]; exact below_alloc (below_alloc (Below.refl _ _) _) _
      have HB1 := Lib.hid hb1
      have r0 : W1.cell? ⟨wr.heap.size, 0, none⟩ = some (.int .i64 xk) := by rw [hW1]; simp
      have r1 : W1.cell? ⟨wr.heap.size, 1, none⟩ = some (.int .i64 xa) := by rw [hW1]; simp
      have r2 : W1.cell? ⟨wr.heap.size, 2, none⟩ = some (.int .i64 xb) := by rw [hW1]; simp
      have r3 : W1.cell? ⟨wr.heap.size, 3, none⟩ = some (.int .i64 xc) := by rw [hW1]; simp
      have hs1 : W1.heap.size = wr.heap.size + 2 := by rw [hW1]; simp
      have HN := Lib.hid (show RowBox W1 (wr.heap.size + 1) (freshRow ⟨#[]⟩) none 0 0 by
        rw [hW1]; have h := RowBox.new (wr.alloc (.cells #[.int .i64 xk, .int .i64 xa, .int .i64 xb, .int .i64 xc] 89)) (freshRow ⟨#[]⟩) none 0 0; rw [World.size_alloc] at h; exact h)
      have HW1 := Lib.hid hW1
      have HIN1 := Lib.hid (HIN.out.upto hb1)
      have hcb := HBX.out.upto hb1 hsw
      have c0 := hcb.k
      have c1 := hcb.s
      have c2 := hcb.p
      have c3 := hcb.v
      have c4 := hcb.l
      have HRE := Lib.hid hr
      have HNE := Lib.hid hn
      have s1 : IntKind.i64.wrap (1 + pa) = 1 + pa := IntWalk.i64_in _ (by omega)
      clear hb hx hrd hbx hbz hin hnew hkeep hb1 hW1 hcb hpa hpk hY hr hn
      go_wp2_with fail
      rw [← HW1.out]
      refine (HPA.out _).mono ?_
      rintro e w' ⟨rfl, hw⟩
      rw [hw]
      clear hw w'
      go_wp2_with fail
      refine (HPK.out _).mono ?_
      rintro e w' ⟨rfl, hw⟩
      rw [hw]
      clear hw w' HPK HPA x0 x1 x2 x3 y0 y1 y2 y3 y4
      have HSK := Lib.hid (show ∀ W, Below (wr.heap.size + 1) W1 W → (fun W => (W.cell? ⟨w.heap.size + 1, 0, none⟩ = some (.string r.key) ∧ W.cell? ⟨w.heap.size + 1, 1, none⟩ = some (.int .i64 r.ls) ∧ W.cell? ⟨w.heap.size + 1, 2, none⟩ = some (.string r.lp) ∧ W.cell? ⟨w.heap.size + 1, 3, none⟩ = some (.string r.val) ∧ W.cell? ⟨w.heap.size + 1, 4, none⟩ = some (.slice As n cs)) ∧ W.cell? ⟨wr.heap.size, 2, none⟩ = some (.int .i64 xb) ∧ W.cell? ⟨wr.heap.size, 3, none⟩ = some (.int .i64 xc)) W from fun W hb => ⟨⟨(hb.cell (p := ⟨w.heap.size + 1, 0, none⟩) (by show w.heap.size + 1 < _; omega)).trans c0, (hb.cell (p := ⟨w.heap.size + 1, 1, none⟩) (by show w.heap.size + 1 < _; omega)).trans c1, (hb.cell (p := ⟨w.heap.size + 1, 2, none⟩) (by show w.heap.size + 1 < _; omega)).trans c2, (hb.cell (p := ⟨w.heap.size + 1, 3, none⟩) (by show w.heap.size + 1 < _; omega)).trans c3, (hb.cell (p := ⟨w.heap.size + 1, 4, none⟩) (by show w.heap.size + 1 < _; omega)).trans c4⟩, (hb.cell (p := ⟨wr.heap.size, 2, none⟩) (by show wr.heap.size < _; omega)).trans r2, (hb.cell (p := ⟨wr.heap.size, 3, none⟩) (by show wr.heap.size < _; omega)).trans r3⟩)
      have HMO := Lib.hid (show ∀ W, Below W1.heap.size W1 W → Below (wr.heap.size + 1) W1 W from fun W hb => hb.mono (by omega))
      have HWB := Lib.hid (HBX.out.upto HB1.out hsw)
      have HWZ := Lib.hid (HBZ.out.upto HB1.out (by omega))
      dsimp only at HSK
      rcases (show pk = 0 ∨ pk = 1 ∨ pk = 2 ∨ pk = 3 ∨ pk = 4 by omega) with rfl | rfl | rfl | rfl | rfl
      · have HY := Lib.hid (show (R', ec) = lockOp (1 + pa) (keyOf xb) (vS (pickM xc 9).toNat) r by rw [HOP.out, if_pos (by decide)])
        obtain ⟨m, hm9⟩ : ∃ m : Nat, m = (pickM xc 9).toNat := ⟨_, rfl⟩
        have hmm : pickM xc 9 = (m : Int) := by omega
        have HP9 := Lib.hid (show ∀ W, Calls Tryd.prog 18 #[.int .i64 xc, .int .i64 9] W fun e w' => e = .returned (.int .i64 (m : Int)) ∧ w' = W from fun W => by rw [← hmm]; exact picked_any xc 9 W ok3 (by omega) (by omega))
        have HKY := Lib.hid (fun W => kKey_any xb W ok2)
        have HIT := Lib.hid (fun W => itoa_any m (by omega) W)
        have hit := itoa_size m (by omega)
        have hky := keys4_size _ (keyOf_mem xb)
        have HLK := Lib.hid (show ∀ W, Below W1.heap.size W1 W → Calls Tryd.prog 19 #[rV r As n cs, .int .i64 (1 + pa), .string (keyOf xb), .string ((⟨#[118]⟩ : ByteArray) ++ itoaS m)] W (OpOut (R', ec) W) from fun W hb => by
          rw [HY.out, ← hm9]
          exact lockFn_op r As n cs (1 + pa) (keyOf xb) (vS m) W (HIN1.out.upto hb) (by simp only [maxLen]; omega) (by have := vS_size (i := m) (by omega); simp only [maxLen]; omega))
        obtain ⟨it, hitd⟩ : ∃ it, it = itoaS m := ⟨_, rfl⟩
        obtain ⟨ky, hkyd⟩ : ∃ ky, ky = keyOf xb := ⟨_, rfl⟩
        rw [← hitd] at HIT hit HLK
        rw [← hkyd] at HKY hky HLK
        have hit2 : ¬ (9223372036854775807 < 1 + it.size) := by omega
        clear hitd hkyd hm9 hmm
        go_wp2_with fail
        refine wp_region_held_drew (S := fun W => (W.cell? ⟨w.heap.size + 1, 0, none⟩ = some (.string r.key) ∧ W.cell? ⟨w.heap.size + 1, 1, none⟩ = some (.int .i64 r.ls) ∧ W.cell? ⟨w.heap.size + 1, 2, none⟩ = some (.string r.lp) ∧ W.cell? ⟨w.heap.size + 1, 3, none⟩ = some (.string r.val) ∧ W.cell? ⟨w.heap.size + 1, 4, none⟩ = some (.slice As n cs)) ∧ W.cell? ⟨wr.heap.size, 2, none⟩ = some (.int .i64 xb) ∧ W.cell? ⟨wr.heap.size, 3, none⟩ = some (.int .i64 xc)) (by kernel_rfl) ?_ (fun hHeld => ?_)
        · exact ⟨⟨c0, c1, c2, c3, c4⟩, r2, r3⟩
        (refine wpAnyH_take (i := 0) (oi := ?_) (v := ?_) ?_ (by kernel_rfl) ?_ ?_ ?_ ?_ (by assumption) ?_; rotate_left 2; (simp only [List.getElem?_toArray, List.getElem?_cons_zero]; rfl); kernel_rfl; kernel_rfl; exact fun _ _ _ h => h; (refine Or.inl ⟨by rfl, ?_⟩; intro w hSw; (try dsimp only at hSw); go_simp; (first | done | with_reducible rfl)); (try simp only [Act.put, List.setIfInBounds_toArray, List.set_cons_zero, List.set_cons_succ]))
        (first | (refine wpAnyH_take (i := 1) (oi := ?_) (v := ?_) ?_ (by kernel_rfl) ?_ ?_ ?_ ?_ (by assumption) ?_; rotate_left 2; (simp only [List.getElem?_toArray, List.getElem?_cons_zero, List.getElem?_cons_succ]; rfl); kernel_rfl; kernel_rfl; exact fun _ _ _ h => h; (refine Or.inl ⟨by rfl, ?_⟩; intro w hSw; (try dsimp only at hSw); go_simp; (first | done | with_reducible rfl)); (try simp only [Act.put, List.setIfInBounds_toArray, List.set_cons_zero, List.set_cons_succ])) | (refine wpAnyH_take (i := 1) (oi := ?_) (v := undef) ?_ (by kernel_rfl) ?_ ?_ ?_ ?_ (by assumption) ?_; rotate_left 1; (simp only [List.getElem?_toArray, List.getElem?_cons_zero, List.getElem?_cons_succ]; rfl); kernel_rfl; kernel_rfl; exact fun _ _ _ h => h; exact Or.inr ⟨by rfl, rfl⟩; (try simp only [Act.put, List.setIfInBounds_toArray, List.set_cons_zero, List.set_cons_succ])))
        (first | (refine wpAnyH_take (i := 2) (oi := ?_) (v := ?_) ?_ (by kernel_rfl) ?_ ?_ ?_ ?_ (by assumption) ?_; rotate_left 2; (simp only [List.getElem?_toArray, List.getElem?_cons_zero, List.getElem?_cons_succ]; rfl); kernel_rfl; kernel_rfl; exact fun _ _ _ h => h; (refine Or.inl ⟨by rfl, ?_⟩; intro w hSw; (try dsimp only at hSw); go_simp; (first | done | with_reducible rfl)); (try simp only [Act.put, List.setIfInBounds_toArray, List.set_cons_zero, List.set_cons_succ])) | (refine wpAnyH_take (i := 2) (oi := ?_) (v := undef) ?_ (by kernel_rfl) ?_ ?_ ?_ ?_ (by assumption) ?_; rotate_left 1; (simp only [List.getElem?_toArray, List.getElem?_cons_zero, List.getElem?_cons_succ]; rfl); kernel_rfl; kernel_rfl; exact fun _ _ _ h => h; exact Or.inr ⟨by rfl, rfl⟩; (try simp only [Act.put, List.setIfInBounds_toArray, List.set_cons_zero, List.set_cons_succ])))
        (first | (refine wpAnyH_take (i := 3) (oi := ?_) (v := ?_) ?_ (by kernel_rfl) ?_ ?_ ?_ ?_ (by assumption) ?_; rotate_left 2; (simp only [List.getElem?_toArray, List.getElem?_cons_zero, List.getElem?_cons_succ]; rfl); kernel_rfl; kernel_rfl; exact fun _ _ _ h => h; (refine Or.inl ⟨by rfl, ?_⟩; intro w hSw; (try dsimp only at hSw); go_simp; (first | done | with_reducible rfl)); (try simp only [Act.put, List.setIfInBounds_toArray, List.set_cons_zero, List.set_cons_succ])) | (refine wpAnyH_take (i := 3) (oi := ?_) (v := undef) ?_ (by kernel_rfl) ?_ ?_ ?_ ?_ (by assumption) ?_; rotate_left 1; (simp only [List.getElem?_toArray, List.getElem?_cons_zero, List.getElem?_cons_succ]; rfl); kernel_rfl; kernel_rfl; exact fun _ _ _ h => h; exact Or.inr ⟨by rfl, rfl⟩; (try simp only [Act.put, List.setIfInBounds_toArray, List.set_cons_zero, List.set_cons_succ])))
        (first | (refine wpAnyH_take (i := 5) (oi := ?_) (v := ?_) ?_ (by kernel_rfl) ?_ ?_ ?_ ?_ (by assumption) ?_; rotate_left 2; (simp only [List.getElem?_toArray, List.getElem?_cons_zero, List.getElem?_cons_succ]; rfl); kernel_rfl; kernel_rfl; exact fun _ _ _ h => h; (refine Or.inl ⟨by rfl, ?_⟩; intro w hSw; (try dsimp only at hSw); go_simp; (first | done | with_reducible rfl)); (try simp only [Act.put, List.setIfInBounds_toArray, List.set_cons_zero, List.set_cons_succ])) | (refine wpAnyH_take (i := 5) (oi := ?_) (v := undef) ?_ (by kernel_rfl) ?_ ?_ ?_ ?_ (by assumption) ?_; rotate_left 1; (simp only [List.getElem?_toArray, List.getElem?_cons_zero, List.getElem?_cons_succ]; rfl); kernel_rfl; kernel_rfl; exact fun _ _ _ h => h; exact Or.inr ⟨by rfl, rfl⟩; (try simp only [Act.put, List.setIfInBounds_toArray, List.set_cons_zero, List.set_cons_succ])))
        (first | (refine wpAnyH_take (i := 6) (oi := ?_) (v := ?_) ?_ (by kernel_rfl) ?_ ?_ ?_ ?_ (by assumption) ?_; rotate_left 2; (simp only [List.getElem?_toArray, List.getElem?_cons_zero, List.getElem?_cons_succ]; rfl); kernel_rfl; kernel_rfl; exact fun _ _ _ h => h; (refine Or.inl ⟨by rfl, ?_⟩; intro w hSw; (try dsimp only at hSw); go_simp; (first | done | with_reducible rfl)); (try simp only [Act.put, List.setIfInBounds_toArray, List.set_cons_zero, List.set_cons_succ])) | (refine wpAnyH_take (i := 6) (oi := ?_) (v := undef) ?_ (by kernel_rfl) ?_ ?_ ?_ ?_ (by assumption) ?_; rotate_left 1; (simp only [List.getElem?_toArray, List.getElem?_cons_zero, List.getElem?_cons_succ]; rfl); kernel_rfl; kernel_rfl; exact fun _ _ _ h => h; exact Or.inr ⟨by rfl, rfl⟩; (try simp only [Act.put, List.setIfInBounds_toArray, List.set_cons_zero, List.set_cons_succ])))
        (refine wpAnyH_ready (rs := [4]) (by kernel_rfl) (by simp) ?_; refine AllReadyH.cons (o := ?_) ?_ (fun K hK => ?_) AllReadyH.nil; rotate_left 1; (simp only [List.getElem?_toArray, List.getElem?_cons_zero, List.getElem?_cons_succ]; rfl); go_simp)
        refine (HKY.out _).mono ?_
        rintro e w2 ⟨rfl, hb2⟩
        have HB2 := Lib.hid (show Below W1.heap.size W1 w2 from below_next (below_drew (Below.refl _ _)) hb2)
        clear hb2
        clear hHeld
        (refine hK.out _ _ ?_ (fun hHeld => ?_); exact HSK.out _ (HMO.out _ HB2.out); clear hK K)
        (refine wpAnyH_ready (rs := [7]) (by kernel_rfl) (by simp) ?_; refine AllReadyH.cons (o := ?_) ?_ (fun K hK => ?_) AllReadyH.nil; rotate_left 1; (simp only [List.getElem?_toArray, List.getElem?_cons_zero, List.getElem?_cons_succ]; rfl); go_simp)
        refine (HP9.out _).mono ?_
        rintro e w' ⟨rfl, hw⟩
        rw [hw]
        clear hw w'
        clear hHeld
        (refine hK.out _ _ ?_ (fun hHeld => ?_); exact HSK.out _ (HMO.out _ HB2.out); clear hK K)
        (refine wpAnyH_ready (rs := [8]) (by kernel_rfl) (by simp) ?_; refine AllReadyH.cons (o := ?_) ?_ (fun K hK => ?_) AllReadyH.nil; rotate_left 1; (simp only [List.getElem?_toArray, List.getElem?_cons_zero, List.getElem?_cons_succ]; rfl); go_simp)
        refine (HIT.out _).mono ?_
        rintro e w' ⟨rfl, hw⟩
        rw [hw]
        clear hw w'
        clear hHeld
        (refine hK.out _ _ ?_ (fun hHeld => ?_); exact HSK.out _ (HMO.out _ HB2.out); clear hK K)
        (first | (refine wpAnyH_take (i := 9) (oi := ?_) (v := ?_) ?_ (by kernel_rfl) ?_ ?_ ?_ ?_ (by assumption) ?_; rotate_left 2; (simp only [List.getElem?_toArray, List.getElem?_cons_zero, List.getElem?_cons_succ]; rfl); kernel_rfl; kernel_rfl; exact fun _ _ _ h => h; (refine Or.inl ⟨by rfl, ?_⟩; intro w hSw; (try dsimp only at hSw); go_simp; (first | done | with_reducible rfl)); (try simp only [Act.put, List.setIfInBounds_toArray, List.set_cons_zero, List.set_cons_succ])) | (refine wpAnyH_take (i := 9) (oi := ?_) (v := undef) ?_ (by kernel_rfl) ?_ ?_ ?_ ?_ (by assumption) ?_; rotate_left 1; (simp only [List.getElem?_toArray, List.getElem?_cons_zero, List.getElem?_cons_succ]; rfl); kernel_rfl; kernel_rfl; exact fun _ _ _ h => h; exact Or.inr ⟨by rfl, rfl⟩; (try simp only [Act.put, List.setIfInBounds_toArray, List.set_cons_zero, List.set_cons_succ])))
        (refine wpAnyH_ready (rs := [10]) (by kernel_rfl) (by simp) ?_; refine AllReadyH.cons (o := ?_) ?_ (fun K hK => ?_) AllReadyH.nil; rotate_left 1; (simp only [List.getElem?_toArray, List.getElem?_cons_zero, List.getElem?_cons_succ]; rfl); go_simp)
        refine (HLK.out _ HB2.out).mono ?_
        rintro e w3 ⟨A', c', rfl, hrec, hnc, hb3⟩
        have HB3 := Lib.hid (show Below W1.heap.size W1 w3 from below_next HB2.out hb3)
        have hN := HN.out.upto HB3.out (by omega)
        have HN3 := Lib.hid hN
        have z0 := hN.k
        have z1 := hN.s
        have z2 := hN.p
        have z3 := hN.v
        have z4 := hN.l
        have u0 := hN.f 0
        have u1 := hN.f 1
        have u2 := hN.f 2
        have u3 := hN.f 3
        have u4 := hN.f 4
        have HRC := Lib.hid hrec
        have HNA := Lib.hid (show NewAt (wr.heap.size + 2) A' from fun ad h => Nat.le_trans (by have := (show Below W1.heap.size W1 _ from HB2.out).size; omega) (hnc.1 ad h))
        have hle := hnc.2
        clear hrec hnc hb3 hN
        clear hHeld
        (refine hK.out _ _ ?_ (fun hHeld => ?_); exact HSK.out _ (HMO.out _ HB3.out); clear hK K)
        (first | (refine wpAnyH_take (i := 11) (oi := ?_) (v := ?_) ?_ (by kernel_rfl) ?_ ?_ ?_ ?_ (by assumption) ?_; rotate_left 2; (simp only [List.getElem?_toArray, List.getElem?_cons_zero, List.getElem?_cons_succ]; rfl); kernel_rfl; kernel_rfl; exact fun _ _ _ h => h; (refine Or.inl ⟨by rfl, ?_⟩; intro w hSw; (try dsimp only at hSw); go_simp; (first | done | with_reducible rfl)); (try simp only [Act.put, List.setIfInBounds_toArray, List.set_cons_zero, List.set_cons_succ])) | (refine wpAnyH_take (i := 11) (oi := ?_) (v := undef) ?_ (by kernel_rfl) ?_ ?_ ?_ ?_ (by assumption) ?_; rotate_left 1; (simp only [List.getElem?_toArray, List.getElem?_cons_zero, List.getElem?_cons_succ]; rfl); kernel_rfl; kernel_rfl; exact fun _ _ _ h => h; exact Or.inr ⟨by rfl, rfl⟩; (try simp only [Act.put, List.setIfInBounds_toArray, List.set_cons_zero, List.set_cons_succ])))
        (first | (refine wpAnyH_take (i := 12) (oi := ?_) (v := ?_) ?_ (by kernel_rfl) ?_ ?_ ?_ ?_ (by assumption) ?_; rotate_left 2; (simp only [List.getElem?_toArray, List.getElem?_cons_zero, List.getElem?_cons_succ]; rfl); kernel_rfl; kernel_rfl; exact fun _ _ _ h => h; (refine Or.inl ⟨by rfl, ?_⟩; intro w hSw; (try dsimp only at hSw); go_simp; (first | done | with_reducible rfl)); (try simp only [Act.put, List.setIfInBounds_toArray, List.set_cons_zero, List.set_cons_succ])) | (refine wpAnyH_take (i := 12) (oi := ?_) (v := undef) ?_ (by kernel_rfl) ?_ ?_ ?_ ?_ (by assumption) ?_; rotate_left 1; (simp only [List.getElem?_toArray, List.getElem?_cons_zero, List.getElem?_cons_succ]; rfl); kernel_rfl; kernel_rfl; exact fun _ _ _ h => h; exact Or.inr ⟨by rfl, rfl⟩; (try simp only [Act.put, List.setIfInBounds_toArray, List.set_cons_zero, List.set_cons_succ])))
        (first | (refine wpAnyH_take (i := 13) (oi := ?_) (v := ?_) ?_ (by kernel_rfl) ?_ ?_ ?_ ?_ (by assumption) ?_; rotate_left 2; (simp only [List.getElem?_toArray, List.getElem?_cons_zero, List.getElem?_cons_succ]; rfl); kernel_rfl; kernel_rfl; exact fun _ _ _ h => h; (refine Or.inl ⟨by rfl, ?_⟩; intro w hSw; (try dsimp only at hSw); go_simp; (first | done | with_reducible rfl)); (try simp only [Act.put, List.setIfInBounds_toArray, List.set_cons_zero, List.set_cons_succ])) | (refine wpAnyH_take (i := 13) (oi := ?_) (v := undef) ?_ (by kernel_rfl) ?_ ?_ ?_ ?_ (by assumption) ?_; rotate_left 1; (simp only [List.getElem?_toArray, List.getElem?_cons_zero, List.getElem?_cons_succ]; rfl); kernel_rfl; kernel_rfl; exact fun _ _ _ h => h; exact Or.inr ⟨by rfl, rfl⟩; (try simp only [Act.put, List.setIfInBounds_toArray, List.set_cons_zero, List.set_cons_succ])))
        (refine wpAnyH_ready (rs := [14]) (by kernel_rfl) (by simp) ?_; refine AllReadyH.cons (o := ?_) ?_ (fun K hK => ?_) AllReadyH.nil; rotate_left 1; (simp only [List.getElem?_toArray, List.getElem?_cons_zero, List.getElem?_cons_succ]; rfl); go_simp)
        clear hHeld
        (refine hK.out _ _ ?_ (fun hHeld => ?_); exact HSK.out _ (below_set5 (HMO.out _ HB3.out) (Nat.le_refl _) _ _ _ _ _ _); clear hK K)
        (first | (refine wpAnyH_take (i := 15) (oi := ?_) (v := ?_) ?_ (by kernel_rfl) ?_ ?_ ?_ ?_ (by assumption) ?_; rotate_left 2; (simp only [List.getElem?_toArray, List.getElem?_cons_zero, List.getElem?_cons_succ]; rfl); kernel_rfl; kernel_rfl; exact fun _ _ _ h => h; (refine Or.inl ⟨by rfl, ?_⟩; intro w hSw; (try dsimp only at hSw); go_simp; (first | done | with_reducible rfl)); (try simp only [Act.put, List.setIfInBounds_toArray, List.set_cons_zero, List.set_cons_succ])) | (refine wpAnyH_take (i := 15) (oi := ?_) (v := undef) ?_ (by kernel_rfl) ?_ ?_ ?_ ?_ (by assumption) ?_; rotate_left 1; (simp only [List.getElem?_toArray, List.getElem?_cons_zero, List.getElem?_cons_succ]; rfl); kernel_rfl; kernel_rfl; exact fun _ _ _ h => h; exact Or.inr ⟨by rfl, rfl⟩; (try simp only [Act.put, List.setIfInBounds_toArray, List.set_cons_zero, List.set_cons_succ])))
        refine wpAnyH_done (by kernel_rfl) ?_ _
        clear hHeld
        obtain ⟨wc, hwc⟩ : ∃ wc, wc = ((((w3.setCell ⟨wr.heap.size + 1, 0, none⟩ (.string R'.key)).setCell ⟨wr.heap.size + 1, 1, none⟩ (.int .i64 R'.ls)).setCell ⟨wr.heap.size + 1, 2, none⟩ (.string R'.lp)).setCell ⟨wr.heap.size + 1, 3, none⟩ (.string R'.val)).setCell ⟨wr.heap.size + 1, 4, none⟩ (.slice A' R'.recs.length c') := ⟨_, rfl⟩
        have hbn : RowBox wc (wr.heap.size + 1) R' A' R'.recs.length c' := by rw [hwc]; exact HN3.out.set R' A' _ c'
        have hrec : RecsAt wc wc.heap.size A' R'.recs := by rw [hwc]; exact recs_set5 HRC.out HNA.out (by omega) _ _ _ _ _
        have hnw := HNA.out
        have hbc : Below (wr.heap.size + 1) W1 wc := by rw [hwc]; exact below_set5 (HMO.out _ HB3.out) (Nat.le_refl _) 0 _ _ _ _ _
        rw [← hwc]
        clear hwc HRC HNA z0 z1 z2 z3 z4 u0 u1 u2 u3 u4 c0 c1 c2 c3 c4 r0 r1 r2 r3
        have HRC := Lib.hid hrec
        have HBC := Lib.hid hbc
        have hrb := HWB.out.upto hbc (by omega)
        have HRB := Lib.hid hrb
        have HZB := Lib.hid (HWZ.out.upto hbc (by omega))
        have n0 := hbn.k
        have n1 := hbn.s
        have n2 := hbn.p
        have n3 := hbn.v
        have n4 := hbn.l
        have m0 := hrb.k
        have m1 := hrb.s
        have m2 := hrb.p
        have m3 := hrb.v
        have m4 := hrb.l
        have f0 := hrb.f 0
        have f1 := hrb.f 1
        have f2 := hrb.f 2
        have f3 := hrb.f 3
        have f4 := hrb.f 4
        have HNA := Lib.hid (show NewAt (w.heap.size + 2) A' from fun ad h => Nat.le_trans (by omega) (hnw ad h))
        have HBW := Lib.hid (show Below w.heap.size w wc from HB.out.trans ((HB1.out.mono (by omega)).trans (hbc.mono (by omega))))
        clear hrb hbn hrec hnw hbc
        by_cases e0 : ec = 0
        · have d0 : (ec == 0) = true := by simpa using e0
          have HNK := Lib.hid (show rowsM l (k + 1) = R' by rw [HSUC.out, HNX.out, if_pos e0])
          have HK1 := Lib.hid (rowsM_keep l (k + 1))
          rw [HNK.out] at HK1
          clear e0
          go_wp2
          go_roundw
          case rel => exact ⟨k + 1, A', c', by omega, by go_num, by rw [HNK.out]; exact HRB.out.set R' A' _ c', HZB.out.other (by omega) _ _ _ _ _, by rw [HNK.out]; exact ⟨⟨rfl, recs_set5 HRC.out HNA.out (by omega) _ _ _ _ _, HK1.out.sz.k, HK1.out.sz.p, HK1.out.sz.v⟩, hle⟩, HNA.out, below_set5 HBW.out (by omega) _ _ _ _ _ _⟩
          case measure => simp [intOf]; omega
        · have d0 : (ec == 0) = false := by simpa using e0
          have HNK := Lib.hid (show rowsM l (k + 1) = r by rw [HSUC.out, HNX.out, if_neg e0])
          have HIC := Lib.hid (show OpIn wc r As n cs from ⟨⟨HIN1.out.i.n, (HIN.out.i.l.below ((HB1.out).trans (HBC.out.mono (by omega)))).more (by have := HBC.out.size; omega), HIN1.out.i.k, HIN1.out.i.p, HIN1.out.i.v⟩, HIN1.out.c⟩)
          clear e0
          go_wp2
          go_roundw
          case rel => exact ⟨k + 1, As, cs, by omega, by go_num, by rw [HNK.out, ← HNE.out]; exact HRB.out, HZB.out, by rw [HNK.out, ← HNE.out]; exact HIC.out, HNW.out, HBW.out⟩
          case measure => simp [intOf]; omega
      · have HY := Lib.hid (show (R', ec) = lockOp (1 + pa) (keyOf xb) (vS (pickM xc 9).toNat) r by rw [HOP.out, if_pos (by decide)])
        obtain ⟨m, hm9⟩ : ∃ m : Nat, m = (pickM xc 9).toNat := ⟨_, rfl⟩
        have hmm : pickM xc 9 = (m : Int) := by omega
        have HP9 := Lib.hid (show ∀ W, Calls Tryd.prog 18 #[.int .i64 xc, .int .i64 9] W fun e w' => e = .returned (.int .i64 (m : Int)) ∧ w' = W from fun W => by rw [← hmm]; exact picked_any xc 9 W ok3 (by omega) (by omega))
        have HKY := Lib.hid (fun W => kKey_any xb W ok2)
        have HIT := Lib.hid (fun W => itoa_any m (by omega) W)
        have hit := itoa_size m (by omega)
        have hky := keys4_size _ (keyOf_mem xb)
        have HLK := Lib.hid (show ∀ W, Below W1.heap.size W1 W → Calls Tryd.prog 19 #[rV r As n cs, .int .i64 (1 + pa), .string (keyOf xb), .string ((⟨#[118]⟩ : ByteArray) ++ itoaS m)] W (OpOut (R', ec) W) from fun W hb => by
          rw [HY.out, ← hm9]
          exact lockFn_op r As n cs (1 + pa) (keyOf xb) (vS m) W (HIN1.out.upto hb) (by simp only [maxLen]; omega) (by have := vS_size (i := m) (by omega); simp only [maxLen]; omega))
        obtain ⟨it, hitd⟩ : ∃ it, it = itoaS m := ⟨_, rfl⟩
        obtain ⟨ky, hkyd⟩ : ∃ ky, ky = keyOf xb := ⟨_, rfl⟩
        rw [← hitd] at HIT hit HLK
        rw [← hkyd] at HKY hky HLK
        have hit2 : ¬ (9223372036854775807 < 1 + it.size) := by omega
        clear hitd hkyd hm9 hmm
        go_wp2_with fail
        refine wp_region_held_drew (S := fun W => (W.cell? ⟨w.heap.size + 1, 0, none⟩ = some (.string r.key) ∧ W.cell? ⟨w.heap.size + 1, 1, none⟩ = some (.int .i64 r.ls) ∧ W.cell? ⟨w.heap.size + 1, 2, none⟩ = some (.string r.lp) ∧ W.cell? ⟨w.heap.size + 1, 3, none⟩ = some (.string r.val) ∧ W.cell? ⟨w.heap.size + 1, 4, none⟩ = some (.slice As n cs)) ∧ W.cell? ⟨wr.heap.size, 2, none⟩ = some (.int .i64 xb) ∧ W.cell? ⟨wr.heap.size, 3, none⟩ = some (.int .i64 xc)) (by kernel_rfl) ?_ (fun hHeld => ?_)
        · exact ⟨⟨c0, c1, c2, c3, c4⟩, r2, r3⟩
        (refine wpAnyH_take (i := 0) (oi := ?_) (v := ?_) ?_ (by kernel_rfl) ?_ ?_ ?_ ?_ (by assumption) ?_; rotate_left 2; (simp only [List.getElem?_toArray, List.getElem?_cons_zero]; rfl); kernel_rfl; kernel_rfl; exact fun _ _ _ h => h; (refine Or.inl ⟨by rfl, ?_⟩; intro w hSw; (try dsimp only at hSw); go_simp; (first | done | with_reducible rfl)); (try simp only [Act.put, List.setIfInBounds_toArray, List.set_cons_zero, List.set_cons_succ]))
        (first | (refine wpAnyH_take (i := 1) (oi := ?_) (v := ?_) ?_ (by kernel_rfl) ?_ ?_ ?_ ?_ (by assumption) ?_; rotate_left 2; (simp only [List.getElem?_toArray, List.getElem?_cons_zero, List.getElem?_cons_succ]; rfl); kernel_rfl; kernel_rfl; exact fun _ _ _ h => h; (refine Or.inl ⟨by rfl, ?_⟩; intro w hSw; (try dsimp only at hSw); go_simp; (first | done | with_reducible rfl)); (try simp only [Act.put, List.setIfInBounds_toArray, List.set_cons_zero, List.set_cons_succ])) | (refine wpAnyH_take (i := 1) (oi := ?_) (v := undef) ?_ (by kernel_rfl) ?_ ?_ ?_ ?_ (by assumption) ?_; rotate_left 1; (simp only [List.getElem?_toArray, List.getElem?_cons_zero, List.getElem?_cons_succ]; rfl); kernel_rfl; kernel_rfl; exact fun _ _ _ h => h; exact Or.inr ⟨by rfl, rfl⟩; (try simp only [Act.put, List.setIfInBounds_toArray, List.set_cons_zero, List.set_cons_succ])))
        (first | (refine wpAnyH_take (i := 2) (oi := ?_) (v := ?_) ?_ (by kernel_rfl) ?_ ?_ ?_ ?_ (by assumption) ?_; rotate_left 2; (simp only [List.getElem?_toArray, List.getElem?_cons_zero, List.getElem?_cons_succ]; rfl); kernel_rfl; kernel_rfl; exact fun _ _ _ h => h; (refine Or.inl ⟨by rfl, ?_⟩; intro w hSw; (try dsimp only at hSw); go_simp; (first | done | with_reducible rfl)); (try simp only [Act.put, List.setIfInBounds_toArray, List.set_cons_zero, List.set_cons_succ])) | (refine wpAnyH_take (i := 2) (oi := ?_) (v := undef) ?_ (by kernel_rfl) ?_ ?_ ?_ ?_ (by assumption) ?_; rotate_left 1; (simp only [List.getElem?_toArray, List.getElem?_cons_zero, List.getElem?_cons_succ]; rfl); kernel_rfl; kernel_rfl; exact fun _ _ _ h => h; exact Or.inr ⟨by rfl, rfl⟩; (try simp only [Act.put, List.setIfInBounds_toArray, List.set_cons_zero, List.set_cons_succ])))
        (first | (refine wpAnyH_take (i := 3) (oi := ?_) (v := ?_) ?_ (by kernel_rfl) ?_ ?_ ?_ ?_ (by assumption) ?_; rotate_left 2; (simp only [List.getElem?_toArray, List.getElem?_cons_zero, List.getElem?_cons_succ]; rfl); kernel_rfl; kernel_rfl; exact fun _ _ _ h => h; (refine Or.inl ⟨by rfl, ?_⟩; intro w hSw; (try dsimp only at hSw); go_simp; (first | done | with_reducible rfl)); (try simp only [Act.put, List.setIfInBounds_toArray, List.set_cons_zero, List.set_cons_succ])) | (refine wpAnyH_take (i := 3) (oi := ?_) (v := undef) ?_ (by kernel_rfl) ?_ ?_ ?_ ?_ (by assumption) ?_; rotate_left 1; (simp only [List.getElem?_toArray, List.getElem?_cons_zero, List.getElem?_cons_succ]; rfl); kernel_rfl; kernel_rfl; exact fun _ _ _ h => h; exact Or.inr ⟨by rfl, rfl⟩; (try simp only [Act.put, List.setIfInBounds_toArray, List.set_cons_zero, List.set_cons_succ])))
        (first | (refine wpAnyH_take (i := 5) (oi := ?_) (v := ?_) ?_ (by kernel_rfl) ?_ ?_ ?_ ?_ (by assumption) ?_; rotate_left 2; (simp only [List.getElem?_toArray, List.getElem?_cons_zero, List.getElem?_cons_succ]; rfl); kernel_rfl; kernel_rfl; exact fun _ _ _ h => h; (refine Or.inl ⟨by rfl, ?_⟩; intro w hSw; (try dsimp only at hSw); go_simp; (first | done | with_reducible rfl)); (try simp only [Act.put, List.setIfInBounds_toArray, List.set_cons_zero, List.set_cons_succ])) | (refine wpAnyH_take (i := 5) (oi := ?_) (v := undef) ?_ (by kernel_rfl) ?_ ?_ ?_ ?_ (by assumption) ?_; rotate_left 1; (simp only [List.getElem?_toArray, List.getElem?_cons_zero, List.getElem?_cons_succ]; rfl); kernel_rfl; kernel_rfl; exact fun _ _ _ h => h; exact Or.inr ⟨by rfl, rfl⟩; (try simp only [Act.put, List.setIfInBounds_toArray, List.set_cons_zero, List.set_cons_succ])))
        (first | (refine wpAnyH_take (i := 6) (oi := ?_) (v := ?_) ?_ (by kernel_rfl) ?_ ?_ ?_ ?_ (by assumption) ?_; rotate_left 2; (simp only [List.getElem?_toArray, List.getElem?_cons_zero, List.getElem?_cons_succ]; rfl); kernel_rfl; kernel_rfl; exact fun _ _ _ h => h; (refine Or.inl ⟨by rfl, ?_⟩; intro w hSw; (try dsimp only at hSw); go_simp; (first | done | with_reducible rfl)); (try simp only [Act.put, List.setIfInBounds_toArray, List.set_cons_zero, List.set_cons_succ])) | (refine wpAnyH_take (i := 6) (oi := ?_) (v := undef) ?_ (by kernel_rfl) ?_ ?_ ?_ ?_ (by assumption) ?_; rotate_left 1; (simp only [List.getElem?_toArray, List.getElem?_cons_zero, List.getElem?_cons_succ]; rfl); kernel_rfl; kernel_rfl; exact fun _ _ _ h => h; exact Or.inr ⟨by rfl, rfl⟩; (try simp only [Act.put, List.setIfInBounds_toArray, List.set_cons_zero, List.set_cons_succ])))
        (refine wpAnyH_ready (rs := [4]) (by kernel_rfl) (by simp) ?_; refine AllReadyH.cons (o := ?_) ?_ (fun K hK => ?_) AllReadyH.nil; rotate_left 1; (simp only [List.getElem?_toArray, List.getElem?_cons_zero, List.getElem?_cons_succ]; rfl); go_simp)
        refine (HKY.out _).mono ?_
        rintro e w2 ⟨rfl, hb2⟩
        have HB2 := Lib.hid (show Below W1.heap.size W1 w2 from below_next (below_drew (Below.refl _ _)) hb2)
        clear hb2
        clear hHeld
        (refine hK.out _ _ ?_ (fun hHeld => ?_); exact HSK.out _ (HMO.out _ HB2.out); clear hK K)
        (refine wpAnyH_ready (rs := [7]) (by kernel_rfl) (by simp) ?_; refine AllReadyH.cons (o := ?_) ?_ (fun K hK => ?_) AllReadyH.nil; rotate_left 1; (simp only [List.getElem?_toArray, List.getElem?_cons_zero, List.getElem?_cons_succ]; rfl); go_simp)
        refine (HP9.out _).mono ?_
        rintro e w' ⟨rfl, hw⟩
        rw [hw]
        clear hw w'
        clear hHeld
        (refine hK.out _ _ ?_ (fun hHeld => ?_); exact HSK.out _ (HMO.out _ HB2.out); clear hK K)
        (refine wpAnyH_ready (rs := [8]) (by kernel_rfl) (by simp) ?_; refine AllReadyH.cons (o := ?_) ?_ (fun K hK => ?_) AllReadyH.nil; rotate_left 1; (simp only [List.getElem?_toArray, List.getElem?_cons_zero, List.getElem?_cons_succ]; rfl); go_simp)
        refine (HIT.out _).mono ?_
        rintro e w' ⟨rfl, hw⟩
        rw [hw]
        clear hw w'
        clear hHeld
        (refine hK.out _ _ ?_ (fun hHeld => ?_); exact HSK.out _ (HMO.out _ HB2.out); clear hK K)
        (first | (refine wpAnyH_take (i := 9) (oi := ?_) (v := ?_) ?_ (by kernel_rfl) ?_ ?_ ?_ ?_ (by assumption) ?_; rotate_left 2; (simp only [List.getElem?_toArray, List.getElem?_cons_zero, List.getElem?_cons_succ]; rfl); kernel_rfl; kernel_rfl; exact fun _ _ _ h => h; (refine Or.inl ⟨by rfl, ?_⟩; intro w hSw; (try dsimp only at hSw); go_simp; (first | done | with_reducible rfl)); (try simp only [Act.put, List.setIfInBounds_toArray, List.set_cons_zero, List.set_cons_succ])) | (refine wpAnyH_take (i := 9) (oi := ?_) (v := undef) ?_ (by kernel_rfl) ?_ ?_ ?_ ?_ (by assumption) ?_; rotate_left 1; (simp only [List.getElem?_toArray, List.getElem?_cons_zero, List.getElem?_cons_succ]; rfl); kernel_rfl; kernel_rfl; exact fun _ _ _ h => h; exact Or.inr ⟨by rfl, rfl⟩; (try simp only [Act.put, List.setIfInBounds_toArray, List.set_cons_zero, List.set_cons_succ])))
        (refine wpAnyH_ready (rs := [10]) (by kernel_rfl) (by simp) ?_; refine AllReadyH.cons (o := ?_) ?_ (fun K hK => ?_) AllReadyH.nil; rotate_left 1; (simp only [List.getElem?_toArray, List.getElem?_cons_zero, List.getElem?_cons_succ]; rfl); go_simp)
        refine (HLK.out _ HB2.out).mono ?_
        rintro e w3 ⟨A', c', rfl, hrec, hnc, hb3⟩
        have HB3 := Lib.hid (show Below W1.heap.size W1 w3 from below_next HB2.out hb3)
        have hN := HN.out.upto HB3.out (by omega)
        have HN3 := Lib.hid hN
        have z0 := hN.k
        have z1 := hN.s
        have z2 := hN.p
        have z3 := hN.v
        have z4 := hN.l
        have u0 := hN.f 0
        have u1 := hN.f 1
        have u2 := hN.f 2
        have u3 := hN.f 3
        have u4 := hN.f 4
        have HRC := Lib.hid hrec
        have HNA := Lib.hid (show NewAt (wr.heap.size + 2) A' from fun ad h => Nat.le_trans (by have := (show Below W1.heap.size W1 _ from HB2.out).size; omega) (hnc.1 ad h))
        have hle := hnc.2
        clear hrec hnc hb3 hN
        clear hHeld
        (refine hK.out _ _ ?_ (fun hHeld => ?_); exact HSK.out _ (HMO.out _ HB3.out); clear hK K)
        (first | (refine wpAnyH_take (i := 11) (oi := ?_) (v := ?_) ?_ (by kernel_rfl) ?_ ?_ ?_ ?_ (by assumption) ?_; rotate_left 2; (simp only [List.getElem?_toArray, List.getElem?_cons_zero, List.getElem?_cons_succ]; rfl); kernel_rfl; kernel_rfl; exact fun _ _ _ h => h; (refine Or.inl ⟨by rfl, ?_⟩; intro w hSw; (try dsimp only at hSw); go_simp; (first | done | with_reducible rfl)); (try simp only [Act.put, List.setIfInBounds_toArray, List.set_cons_zero, List.set_cons_succ])) | (refine wpAnyH_take (i := 11) (oi := ?_) (v := undef) ?_ (by kernel_rfl) ?_ ?_ ?_ ?_ (by assumption) ?_; rotate_left 1; (simp only [List.getElem?_toArray, List.getElem?_cons_zero, List.getElem?_cons_succ]; rfl); kernel_rfl; kernel_rfl; exact fun _ _ _ h => h; exact Or.inr ⟨by rfl, rfl⟩; (try simp only [Act.put, List.setIfInBounds_toArray, List.set_cons_zero, List.set_cons_succ])))
        (first | (refine wpAnyH_take (i := 12) (oi := ?_) (v := ?_) ?_ (by kernel_rfl) ?_ ?_ ?_ ?_ (by assumption) ?_; rotate_left 2; (simp only [List.getElem?_toArray, List.getElem?_cons_zero, List.getElem?_cons_succ]; rfl); kernel_rfl; kernel_rfl; exact fun _ _ _ h => h; (refine Or.inl ⟨by rfl, ?_⟩; intro w hSw; (try dsimp only at hSw); go_simp; (first | done | with_reducible rfl)); (try simp only [Act.put, List.setIfInBounds_toArray, List.set_cons_zero, List.set_cons_succ])) | (refine wpAnyH_take (i := 12) (oi := ?_) (v := undef) ?_ (by kernel_rfl) ?_ ?_ ?_ ?_ (by assumption) ?_; rotate_left 1; (simp only [List.getElem?_toArray, List.getElem?_cons_zero, List.getElem?_cons_succ]; rfl); kernel_rfl; kernel_rfl; exact fun _ _ _ h => h; exact Or.inr ⟨by rfl, rfl⟩; (try simp only [Act.put, List.setIfInBounds_toArray, List.set_cons_zero, List.set_cons_succ])))
        (first | (refine wpAnyH_take (i := 13) (oi := ?_) (v := ?_) ?_ (by kernel_rfl) ?_ ?_ ?_ ?_ (by assumption) ?_; rotate_left 2; (simp only [List.getElem?_toArray, List.getElem?_cons_zero, List.getElem?_cons_succ]; rfl); kernel_rfl; kernel_rfl; exact fun _ _ _ h => h; (refine Or.inl ⟨by rfl, ?_⟩; intro w hSw; (try dsimp only at hSw); go_simp; (first | done | with_reducible rfl)); (try simp only [Act.put, List.setIfInBounds_toArray, List.set_cons_zero, List.set_cons_succ])) | (refine wpAnyH_take (i := 13) (oi := ?_) (v := undef) ?_ (by kernel_rfl) ?_ ?_ ?_ ?_ (by assumption) ?_; rotate_left 1; (simp only [List.getElem?_toArray, List.getElem?_cons_zero, List.getElem?_cons_succ]; rfl); kernel_rfl; kernel_rfl; exact fun _ _ _ h => h; exact Or.inr ⟨by rfl, rfl⟩; (try simp only [Act.put, List.setIfInBounds_toArray, List.set_cons_zero, List.set_cons_succ])))
        (refine wpAnyH_ready (rs := [14]) (by kernel_rfl) (by simp) ?_; refine AllReadyH.cons (o := ?_) ?_ (fun K hK => ?_) AllReadyH.nil; rotate_left 1; (simp only [List.getElem?_toArray, List.getElem?_cons_zero, List.getElem?_cons_succ]; rfl); go_simp)
        clear hHeld
        (refine hK.out _ _ ?_ (fun hHeld => ?_); exact HSK.out _ (below_set5 (HMO.out _ HB3.out) (Nat.le_refl _) _ _ _ _ _ _); clear hK K)
        (first | (refine wpAnyH_take (i := 15) (oi := ?_) (v := ?_) ?_ (by kernel_rfl) ?_ ?_ ?_ ?_ (by assumption) ?_; rotate_left 2; (simp only [List.getElem?_toArray, List.getElem?_cons_zero, List.getElem?_cons_succ]; rfl); kernel_rfl; kernel_rfl; exact fun _ _ _ h => h; (refine Or.inl ⟨by rfl, ?_⟩; intro w hSw; (try dsimp only at hSw); go_simp; (first | done | with_reducible rfl)); (try simp only [Act.put, List.setIfInBounds_toArray, List.set_cons_zero, List.set_cons_succ])) | (refine wpAnyH_take (i := 15) (oi := ?_) (v := undef) ?_ (by kernel_rfl) ?_ ?_ ?_ ?_ (by assumption) ?_; rotate_left 1; (simp only [List.getElem?_toArray, List.getElem?_cons_zero, List.getElem?_cons_succ]; rfl); kernel_rfl; kernel_rfl; exact fun _ _ _ h => h; exact Or.inr ⟨by rfl, rfl⟩; (try simp only [Act.put, List.setIfInBounds_toArray, List.set_cons_zero, List.set_cons_succ])))
        refine wpAnyH_done (by kernel_rfl) ?_ _
        clear hHeld
        obtain ⟨wc, hwc⟩ : ∃ wc, wc = ((((w3.setCell ⟨wr.heap.size + 1, 0, none⟩ (.string R'.key)).setCell ⟨wr.heap.size + 1, 1, none⟩ (.int .i64 R'.ls)).setCell ⟨wr.heap.size + 1, 2, none⟩ (.string R'.lp)).setCell ⟨wr.heap.size + 1, 3, none⟩ (.string R'.val)).setCell ⟨wr.heap.size + 1, 4, none⟩ (.slice A' R'.recs.length c') := ⟨_, rfl⟩
        have hbn : RowBox wc (wr.heap.size + 1) R' A' R'.recs.length c' := by rw [hwc]; exact HN3.out.set R' A' _ c'
        have hrec : RecsAt wc wc.heap.size A' R'.recs := by rw [hwc]; exact recs_set5 HRC.out HNA.out (by omega) _ _ _ _ _
        have hnw := HNA.out
        have hbc : Below (wr.heap.size + 1) W1 wc := by rw [hwc]; exact below_set5 (HMO.out _ HB3.out) (Nat.le_refl _) 0 _ _ _ _ _
        rw [← hwc]
        clear hwc HRC HNA z0 z1 z2 z3 z4 u0 u1 u2 u3 u4 c0 c1 c2 c3 c4 r0 r1 r2 r3
        have HRC := Lib.hid hrec
        have HBC := Lib.hid hbc
        have hrb := HWB.out.upto hbc (by omega)
        have HRB := Lib.hid hrb
        have HZB := Lib.hid (HWZ.out.upto hbc (by omega))
        have n0 := hbn.k
        have n1 := hbn.s
        have n2 := hbn.p
        have n3 := hbn.v
        have n4 := hbn.l
        have m0 := hrb.k
        have m1 := hrb.s
        have m2 := hrb.p
        have m3 := hrb.v
        have m4 := hrb.l
        have f0 := hrb.f 0
        have f1 := hrb.f 1
        have f2 := hrb.f 2
        have f3 := hrb.f 3
        have f4 := hrb.f 4
        have HNA := Lib.hid (show NewAt (w.heap.size + 2) A' from fun ad h => Nat.le_trans (by omega) (hnw ad h))
        have HBW := Lib.hid (show Below w.heap.size w wc from HB.out.trans ((HB1.out.mono (by omega)).trans (hbc.mono (by omega))))
        clear hrb hbn hrec hnw hbc
        by_cases e0 : ec = 0
        · have d0 : (ec == 0) = true := by simpa using e0
          have HNK := Lib.hid (show rowsM l (k + 1) = R' by rw [HSUC.out, HNX.out, if_pos e0])
          have HK1 := Lib.hid (rowsM_keep l (k + 1))
          rw [HNK.out] at HK1
          clear e0
          go_wp2
          go_roundw
          case rel => exact ⟨k + 1, A', c', by omega, by go_num, by rw [HNK.out]; exact HRB.out.set R' A' _ c', HZB.out.other (by omega) _ _ _ _ _, by rw [HNK.out]; exact ⟨⟨rfl, recs_set5 HRC.out HNA.out (by omega) _ _ _ _ _, HK1.out.sz.k, HK1.out.sz.p, HK1.out.sz.v⟩, hle⟩, HNA.out, below_set5 HBW.out (by omega) _ _ _ _ _ _⟩
          case measure => simp [intOf]; omega
        · have d0 : (ec == 0) = false := by simpa using e0
          have HNK := Lib.hid (show rowsM l (k + 1) = r by rw [HSUC.out, HNX.out, if_neg e0])
          have HIC := Lib.hid (show OpIn wc r As n cs from ⟨⟨HIN1.out.i.n, (HIN.out.i.l.below ((HB1.out).trans (HBC.out.mono (by omega)))).more (by have := HBC.out.size; omega), HIN1.out.i.k, HIN1.out.i.p, HIN1.out.i.v⟩, HIN1.out.c⟩)
          clear e0
          go_wp2
          go_roundw
          case rel => exact ⟨k + 1, As, cs, by omega, by go_num, by rw [HNK.out, ← HNE.out]; exact HRB.out, HZB.out, by rw [HNK.out, ← HNE.out]; exact HIC.out, HNW.out, HBW.out⟩
          case measure => simp [intOf]; omega
      · by_cases hl : r.ls = 0
        · have dl : (r.ls != 0) = false := by simpa using hl
          have HY := Lib.hid (show (R', ec) = commitOp (1 + pa) (1 + pa + 1 + pickM xb 10) r by rw [HOP.out, if_neg (by decide), if_pos (by decide), if_pos hl])
          clear hl
          have HP10 := Lib.hid (fun W => picked_any xb 10 W ok2 (by omega) (by omega))
          have HCM := Lib.hid (show ∀ W, Below W1.heap.size W1 W → Calls Tryd.prog 23 #[rV r As n cs, .int .i64 (1 + pa), .int .i64 (1 + pa + 1 + pickM xb 10)] W (OpOut (R', ec) W) from fun W hb => by
            rw [HY.out]
            exact commitFn_op r As n cs (1 + pa) (1 + pa + 1 + pickM xb 10) W (HIN1.out.upto hb))
          obtain ⟨pb, hpb⟩ : ∃ pb, pb = pickM xb 10 := ⟨_, rfl⟩
          rw [← hpb] at HP10 HCM bb
          have s2 : IntKind.i64.wrap (1 + pa + 1) = 1 + pa + 1 := IntWalk.i64_in _ (by omega)
          have s3 : IntKind.i64.wrap (1 + pa + 1 + pb) = 1 + pa + 1 + pb := IntWalk.i64_in _ (by omega)
          clear hpb
          go_wp2_with fail
          refine wp_region_held_drew (S := fun W => (W.cell? ⟨w.heap.size + 1, 0, none⟩ = some (.string r.key) ∧ W.cell? ⟨w.heap.size + 1, 1, none⟩ = some (.int .i64 r.ls) ∧ W.cell? ⟨w.heap.size + 1, 2, none⟩ = some (.string r.lp) ∧ W.cell? ⟨w.heap.size + 1, 3, none⟩ = some (.string r.val) ∧ W.cell? ⟨w.heap.size + 1, 4, none⟩ = some (.slice As n cs)) ∧ W.cell? ⟨wr.heap.size, 2, none⟩ = some (.int .i64 xb) ∧ W.cell? ⟨wr.heap.size, 3, none⟩ = some (.int .i64 xc)) (by kernel_rfl) ?_ (fun hHeld => ?_)
          · exact ⟨⟨c0, c1, c2, c3, c4⟩, r2, r3⟩
          (refine wpAnyH_take (i := 0) (oi := ?_) (v := ?_) ?_ (by kernel_rfl) ?_ ?_ ?_ ?_ (by assumption) ?_; rotate_left 2; (simp only [List.getElem?_toArray, List.getElem?_cons_zero]; rfl); kernel_rfl; kernel_rfl; exact fun _ _ _ h => h; (refine Or.inl ⟨by rfl, ?_⟩; intro w hSw; (try dsimp only at hSw); go_simp; (first | done | with_reducible rfl)); (try simp only [Act.put, List.setIfInBounds_toArray, List.set_cons_zero, List.set_cons_succ]))
          (first | (refine wpAnyH_take (i := 1) (oi := ?_) (v := ?_) ?_ (by kernel_rfl) ?_ ?_ ?_ ?_ (by assumption) ?_; rotate_left 2; (simp only [List.getElem?_toArray, List.getElem?_cons_zero, List.getElem?_cons_succ]; rfl); kernel_rfl; kernel_rfl; exact fun _ _ _ h => h; (refine Or.inl ⟨by rfl, ?_⟩; intro w hSw; (try dsimp only at hSw); go_simp; (first | done | with_reducible rfl)); (try simp only [Act.put, List.setIfInBounds_toArray, List.set_cons_zero, List.set_cons_succ])) | (refine wpAnyH_take (i := 1) (oi := ?_) (v := undef) ?_ (by kernel_rfl) ?_ ?_ ?_ ?_ (by assumption) ?_; rotate_left 1; (simp only [List.getElem?_toArray, List.getElem?_cons_zero, List.getElem?_cons_succ]; rfl); kernel_rfl; kernel_rfl; exact fun _ _ _ h => h; exact Or.inr ⟨by rfl, rfl⟩; (try simp only [Act.put, List.setIfInBounds_toArray, List.set_cons_zero, List.set_cons_succ])))
          (first | (refine wpAnyH_take (i := 2) (oi := ?_) (v := ?_) ?_ (by kernel_rfl) ?_ ?_ ?_ ?_ (by assumption) ?_; rotate_left 2; (simp only [List.getElem?_toArray, List.getElem?_cons_zero, List.getElem?_cons_succ]; rfl); kernel_rfl; kernel_rfl; exact fun _ _ _ h => h; (refine Or.inl ⟨by rfl, ?_⟩; intro w hSw; (try dsimp only at hSw); go_simp; (first | done | with_reducible rfl)); (try simp only [Act.put, List.setIfInBounds_toArray, List.set_cons_zero, List.set_cons_succ])) | (refine wpAnyH_take (i := 2) (oi := ?_) (v := undef) ?_ (by kernel_rfl) ?_ ?_ ?_ ?_ (by assumption) ?_; rotate_left 1; (simp only [List.getElem?_toArray, List.getElem?_cons_zero, List.getElem?_cons_succ]; rfl); kernel_rfl; kernel_rfl; exact fun _ _ _ h => h; exact Or.inr ⟨by rfl, rfl⟩; (try simp only [Act.put, List.setIfInBounds_toArray, List.set_cons_zero, List.set_cons_succ])))
          (first | (refine wpAnyH_take (i := 3) (oi := ?_) (v := ?_) ?_ (by kernel_rfl) ?_ ?_ ?_ ?_ (by assumption) ?_; rotate_left 2; (simp only [List.getElem?_toArray, List.getElem?_cons_zero, List.getElem?_cons_succ]; rfl); kernel_rfl; kernel_rfl; exact fun _ _ _ h => h; (refine Or.inl ⟨by rfl, ?_⟩; intro w hSw; (try dsimp only at hSw); go_simp; (first | done | with_reducible rfl)); (try simp only [Act.put, List.setIfInBounds_toArray, List.set_cons_zero, List.set_cons_succ])) | (refine wpAnyH_take (i := 3) (oi := ?_) (v := undef) ?_ (by kernel_rfl) ?_ ?_ ?_ ?_ (by assumption) ?_; rotate_left 1; (simp only [List.getElem?_toArray, List.getElem?_cons_zero, List.getElem?_cons_succ]; rfl); kernel_rfl; kernel_rfl; exact fun _ _ _ h => h; exact Or.inr ⟨by rfl, rfl⟩; (try simp only [Act.put, List.setIfInBounds_toArray, List.set_cons_zero, List.set_cons_succ])))
          (first | (refine wpAnyH_take (i := 4) (oi := ?_) (v := ?_) ?_ (by kernel_rfl) ?_ ?_ ?_ ?_ (by assumption) ?_; rotate_left 2; (simp only [List.getElem?_toArray, List.getElem?_cons_zero, List.getElem?_cons_succ]; rfl); kernel_rfl; kernel_rfl; exact fun _ _ _ h => h; (refine Or.inl ⟨by rfl, ?_⟩; intro w hSw; (try dsimp only at hSw); go_simp; (first | done | with_reducible rfl)); (try simp only [Act.put, List.setIfInBounds_toArray, List.set_cons_zero, List.set_cons_succ])) | (refine wpAnyH_take (i := 4) (oi := ?_) (v := undef) ?_ (by kernel_rfl) ?_ ?_ ?_ ?_ (by assumption) ?_; rotate_left 1; (simp only [List.getElem?_toArray, List.getElem?_cons_zero, List.getElem?_cons_succ]; rfl); kernel_rfl; kernel_rfl; exact fun _ _ _ h => h; exact Or.inr ⟨by rfl, rfl⟩; (try simp only [Act.put, List.setIfInBounds_toArray, List.set_cons_zero, List.set_cons_succ])))
          (first | (refine wpAnyH_take (i := 5) (oi := ?_) (v := ?_) ?_ (by kernel_rfl) ?_ ?_ ?_ ?_ (by assumption) ?_; rotate_left 2; (simp only [List.getElem?_toArray, List.getElem?_cons_zero, List.getElem?_cons_succ]; rfl); kernel_rfl; kernel_rfl; exact fun _ _ _ h => h; (refine Or.inl ⟨by rfl, ?_⟩; intro w hSw; (try dsimp only at hSw); go_simp; (first | done | with_reducible rfl)); (try simp only [Act.put, List.setIfInBounds_toArray, List.set_cons_zero, List.set_cons_succ])) | (refine wpAnyH_take (i := 5) (oi := ?_) (v := undef) ?_ (by kernel_rfl) ?_ ?_ ?_ ?_ (by assumption) ?_; rotate_left 1; (simp only [List.getElem?_toArray, List.getElem?_cons_zero, List.getElem?_cons_succ]; rfl); kernel_rfl; kernel_rfl; exact fun _ _ _ h => h; exact Or.inr ⟨by rfl, rfl⟩; (try simp only [Act.put, List.setIfInBounds_toArray, List.set_cons_zero, List.set_cons_succ])))
          (refine wpAnyH_ready (rs := [6]) (by kernel_rfl) (by simp) ?_; refine AllReadyH.cons (o := ?_) ?_ (fun K hK => ?_) AllReadyH.nil; rotate_left 1; (simp only [List.getElem?_toArray, List.getElem?_cons_zero, List.getElem?_cons_succ]; rfl); go_simp)
          refine (HP10.out _).mono ?_
          rintro e w' ⟨rfl, hw⟩
          rw [hw]
          clear hw w'
          clear hHeld
          (refine hK.out _ _ ?_ (fun hHeld => ?_); exact HSK.out _ (HMO.out _ (below_drew (Below.refl _ _))); clear hK K)
          (first | (refine wpAnyH_take (i := 7) (oi := ?_) (v := ?_) ?_ (by kernel_rfl) ?_ ?_ ?_ ?_ (by assumption) ?_; rotate_left 2; (simp only [List.getElem?_toArray, List.getElem?_cons_zero, List.getElem?_cons_succ]; rfl); kernel_rfl; kernel_rfl; exact fun _ _ _ h => h; (refine Or.inl ⟨by rfl, ?_⟩; intro w hSw; (try dsimp only at hSw); go_simp; (first | done | with_reducible rfl)); (try simp only [Act.put, List.setIfInBounds_toArray, List.set_cons_zero, List.set_cons_succ])) | (refine wpAnyH_take (i := 7) (oi := ?_) (v := undef) ?_ (by kernel_rfl) ?_ ?_ ?_ ?_ (by assumption) ?_; rotate_left 1; (simp only [List.getElem?_toArray, List.getElem?_cons_zero, List.getElem?_cons_succ]; rfl); kernel_rfl; kernel_rfl; exact fun _ _ _ h => h; exact Or.inr ⟨by rfl, rfl⟩; (try simp only [Act.put, List.setIfInBounds_toArray, List.set_cons_zero, List.set_cons_succ])))
          (refine wpAnyH_ready (rs := [8]) (by kernel_rfl) (by simp) ?_; refine AllReadyH.cons (o := ?_) ?_ (fun K hK => ?_) AllReadyH.nil; rotate_left 1; (simp only [List.getElem?_toArray, List.getElem?_cons_zero, List.getElem?_cons_succ]; rfl); go_simp)
          refine (HCM.out _ (below_drew (Below.refl _ _))).mono ?_
          rintro e w3 ⟨A', c', rfl, hrec, hnc, hb3⟩
          have HB3 := Lib.hid (show Below W1.heap.size W1 w3 from below_next (below_drew (Below.refl _ _)) hb3)
          have hN := HN.out.upto HB3.out (by omega)
          have HN3 := Lib.hid hN
          have z0 := hN.k
          have z1 := hN.s
          have z2 := hN.p
          have z3 := hN.v
          have z4 := hN.l
          have u0 := hN.f 0
          have u1 := hN.f 1
          have u2 := hN.f 2
          have u3 := hN.f 3
          have u4 := hN.f 4
          have HRC := Lib.hid hrec
          have HNA := Lib.hid (show NewAt (wr.heap.size + 2) A' from fun ad h => Nat.le_trans (by have := (show Below W1.heap.size W1 _ from (below_drew (Below.refl _ _))).size; omega) (hnc.1 ad h))
          have hle := hnc.2
          clear hrec hnc hb3 hN
          clear hHeld
          (refine hK.out _ _ ?_ (fun hHeld => ?_); exact HSK.out _ (HMO.out _ HB3.out); clear hK K)
          (first | (refine wpAnyH_take (i := 9) (oi := ?_) (v := ?_) ?_ (by kernel_rfl) ?_ ?_ ?_ ?_ (by assumption) ?_; rotate_left 2; (simp only [List.getElem?_toArray, List.getElem?_cons_zero, List.getElem?_cons_succ]; rfl); kernel_rfl; kernel_rfl; exact fun _ _ _ h => h; (refine Or.inl ⟨by rfl, ?_⟩; intro w hSw; (try dsimp only at hSw); go_simp; (first | done | with_reducible rfl)); (try simp only [Act.put, List.setIfInBounds_toArray, List.set_cons_zero, List.set_cons_succ])) | (refine wpAnyH_take (i := 9) (oi := ?_) (v := undef) ?_ (by kernel_rfl) ?_ ?_ ?_ ?_ (by assumption) ?_; rotate_left 1; (simp only [List.getElem?_toArray, List.getElem?_cons_zero, List.getElem?_cons_succ]; rfl); kernel_rfl; kernel_rfl; exact fun _ _ _ h => h; exact Or.inr ⟨by rfl, rfl⟩; (try simp only [Act.put, List.setIfInBounds_toArray, List.set_cons_zero, List.set_cons_succ])))
          (first | (refine wpAnyH_take (i := 10) (oi := ?_) (v := ?_) ?_ (by kernel_rfl) ?_ ?_ ?_ ?_ (by assumption) ?_; rotate_left 2; (simp only [List.getElem?_toArray, List.getElem?_cons_zero, List.getElem?_cons_succ]; rfl); kernel_rfl; kernel_rfl; exact fun _ _ _ h => h; (refine Or.inl ⟨by rfl, ?_⟩; intro w hSw; (try dsimp only at hSw); go_simp; (first | done | with_reducible rfl)); (try simp only [Act.put, List.setIfInBounds_toArray, List.set_cons_zero, List.set_cons_succ])) | (refine wpAnyH_take (i := 10) (oi := ?_) (v := undef) ?_ (by kernel_rfl) ?_ ?_ ?_ ?_ (by assumption) ?_; rotate_left 1; (simp only [List.getElem?_toArray, List.getElem?_cons_zero, List.getElem?_cons_succ]; rfl); kernel_rfl; kernel_rfl; exact fun _ _ _ h => h; exact Or.inr ⟨by rfl, rfl⟩; (try simp only [Act.put, List.setIfInBounds_toArray, List.set_cons_zero, List.set_cons_succ])))
          (first | (refine wpAnyH_take (i := 11) (oi := ?_) (v := ?_) ?_ (by kernel_rfl) ?_ ?_ ?_ ?_ (by assumption) ?_; rotate_left 2; (simp only [List.getElem?_toArray, List.getElem?_cons_zero, List.getElem?_cons_succ]; rfl); kernel_rfl; kernel_rfl; exact fun _ _ _ h => h; (refine Or.inl ⟨by rfl, ?_⟩; intro w hSw; (try dsimp only at hSw); go_simp; (first | done | with_reducible rfl)); (try simp only [Act.put, List.setIfInBounds_toArray, List.set_cons_zero, List.set_cons_succ])) | (refine wpAnyH_take (i := 11) (oi := ?_) (v := undef) ?_ (by kernel_rfl) ?_ ?_ ?_ ?_ (by assumption) ?_; rotate_left 1; (simp only [List.getElem?_toArray, List.getElem?_cons_zero, List.getElem?_cons_succ]; rfl); kernel_rfl; kernel_rfl; exact fun _ _ _ h => h; exact Or.inr ⟨by rfl, rfl⟩; (try simp only [Act.put, List.setIfInBounds_toArray, List.set_cons_zero, List.set_cons_succ])))
          (refine wpAnyH_ready (rs := [12]) (by kernel_rfl) (by simp) ?_; refine AllReadyH.cons (o := ?_) ?_ (fun K hK => ?_) AllReadyH.nil; rotate_left 1; (simp only [List.getElem?_toArray, List.getElem?_cons_zero, List.getElem?_cons_succ]; rfl); go_simp)
          clear hHeld
          (refine hK.out _ _ ?_ (fun hHeld => ?_); exact HSK.out _ (below_set5 (HMO.out _ HB3.out) (Nat.le_refl _) _ _ _ _ _ _); clear hK K)
          (first | (refine wpAnyH_take (i := 13) (oi := ?_) (v := ?_) ?_ (by kernel_rfl) ?_ ?_ ?_ ?_ (by assumption) ?_; rotate_left 2; (simp only [List.getElem?_toArray, List.getElem?_cons_zero, List.getElem?_cons_succ]; rfl); kernel_rfl; kernel_rfl; exact fun _ _ _ h => h; (refine Or.inl ⟨by rfl, ?_⟩; intro w hSw; (try dsimp only at hSw); go_simp; (first | done | with_reducible rfl)); (try simp only [Act.put, List.setIfInBounds_toArray, List.set_cons_zero, List.set_cons_succ])) | (refine wpAnyH_take (i := 13) (oi := ?_) (v := undef) ?_ (by kernel_rfl) ?_ ?_ ?_ ?_ (by assumption) ?_; rotate_left 1; (simp only [List.getElem?_toArray, List.getElem?_cons_zero, List.getElem?_cons_succ]; rfl); kernel_rfl; kernel_rfl; exact fun _ _ _ h => h; exact Or.inr ⟨by rfl, rfl⟩; (try simp only [Act.put, List.setIfInBounds_toArray, List.set_cons_zero, List.set_cons_succ])))
          refine wpAnyH_done (by kernel_rfl) ?_ _
          clear hHeld
          obtain ⟨wc, hwc⟩ : ∃ wc, wc = ((((w3.setCell ⟨wr.heap.size + 1, 0, none⟩ (.string R'.key)).setCell ⟨wr.heap.size + 1, 1, none⟩ (.int .i64 R'.ls)).setCell ⟨wr.heap.size + 1, 2, none⟩ (.string R'.lp)).setCell ⟨wr.heap.size + 1, 3, none⟩ (.string R'.val)).setCell ⟨wr.heap.size + 1, 4, none⟩ (.slice A' R'.recs.length c') := ⟨_, rfl⟩
          have hbn : RowBox wc (wr.heap.size + 1) R' A' R'.recs.length c' := by rw [hwc]; exact HN3.out.set R' A' _ c'
          have hrec : RecsAt wc wc.heap.size A' R'.recs := by rw [hwc]; exact recs_set5 HRC.out HNA.out (by omega) _ _ _ _ _
          have hnw := HNA.out
          have hbc : Below (wr.heap.size + 1) W1 wc := by rw [hwc]; exact below_set5 (HMO.out _ HB3.out) (Nat.le_refl _) 0 _ _ _ _ _
          rw [← hwc]
          clear hwc HRC HNA z0 z1 z2 z3 z4 u0 u1 u2 u3 u4 c0 c1 c2 c3 c4 r0 r1 r2 r3
          have HRC := Lib.hid hrec
          have HBC := Lib.hid hbc
          have hrb := HWB.out.upto hbc (by omega)
          have HRB := Lib.hid hrb
          have HZB := Lib.hid (HWZ.out.upto hbc (by omega))
          have n0 := hbn.k
          have n1 := hbn.s
          have n2 := hbn.p
          have n3 := hbn.v
          have n4 := hbn.l
          have m0 := hrb.k
          have m1 := hrb.s
          have m2 := hrb.p
          have m3 := hrb.v
          have m4 := hrb.l
          have f0 := hrb.f 0
          have f1 := hrb.f 1
          have f2 := hrb.f 2
          have f3 := hrb.f 3
          have f4 := hrb.f 4
          have HNA := Lib.hid (show NewAt (w.heap.size + 2) A' from fun ad h => Nat.le_trans (by omega) (hnw ad h))
          have HBW := Lib.hid (show Below w.heap.size w wc from HB.out.trans ((HB1.out.mono (by omega)).trans (hbc.mono (by omega))))
          clear hrb hbn hrec hnw hbc
          by_cases e0 : ec = 0
          · have d0 : (ec == 0) = true := by simpa using e0
            have HNK := Lib.hid (show rowsM l (k + 1) = R' by rw [HSUC.out, HNX.out, if_pos e0])
            have HK1 := Lib.hid (rowsM_keep l (k + 1))
            rw [HNK.out] at HK1
            clear e0
            go_wp2
            go_roundw
            case rel => exact ⟨k + 1, A', c', by omega, by go_num, by rw [HNK.out]; exact HRB.out.set R' A' _ c', HZB.out.other (by omega) _ _ _ _ _, by rw [HNK.out]; exact ⟨⟨rfl, recs_set5 HRC.out HNA.out (by omega) _ _ _ _ _, HK1.out.sz.k, HK1.out.sz.p, HK1.out.sz.v⟩, hle⟩, HNA.out, below_set5 HBW.out (by omega) _ _ _ _ _ _⟩
            case measure => simp [intOf]; omega
          · have d0 : (ec == 0) = false := by simpa using e0
            have HNK := Lib.hid (show rowsM l (k + 1) = r by rw [HSUC.out, HNX.out, if_neg e0])
            have HIC := Lib.hid (show OpIn wc r As n cs from ⟨⟨HIN1.out.i.n, (HIN.out.i.l.below ((HB1.out).trans (HBC.out.mono (by omega)))).more (by have := HBC.out.size; omega), HIN1.out.i.k, HIN1.out.i.p, HIN1.out.i.v⟩, HIN1.out.c⟩)
            clear e0
            go_wp2
            go_roundw
            case rel => exact ⟨k + 1, As, cs, by omega, by go_num, by rw [HNK.out, ← HNE.out]; exact HRB.out, HZB.out, by rw [HNK.out, ← HNE.out]; exact HIC.out, HNW.out, HBW.out⟩
            case measure => simp [intOf]; omega
        · have dl : (r.ls != 0) = true := by simpa using hl
          have HY := Lib.hid (show (R', ec) = commitOp r.ls (r.ls + 1 + pickM xb 10) r by rw [HOP.out, if_neg (by decide), if_pos (by decide), if_neg hl])
          clear hl
          have HP10 := Lib.hid (fun W => picked_any xb 10 W ok2 (by omega) (by omega))
          have HCM := Lib.hid (show ∀ W, Below W1.heap.size W1 W → Calls Tryd.prog 23 #[rV r As n cs, .int .i64 (r.ls), .int .i64 (r.ls + 1 + pickM xb 10)] W (OpOut (R', ec) W) from fun W hb => by
            rw [HY.out]
            exact commitFn_op r As n cs (r.ls) (r.ls + 1 + pickM xb 10) W (HIN1.out.upto hb))
          obtain ⟨pb, hpb⟩ : ∃ pb, pb = pickM xb 10 := ⟨_, rfl⟩
          rw [← hpb] at HP10 HCM bb
          have s2 : IntKind.i64.wrap (r.ls + 1) = r.ls + 1 := IntWalk.i64_in _ (by omega)
          have s3 : IntKind.i64.wrap (r.ls + 1 + pb) = r.ls + 1 + pb := IntWalk.i64_in _ (by omega)
          clear hpb
          go_wp2_with fail
          refine wp_region_held_drew (S := fun W => (W.cell? ⟨w.heap.size + 1, 0, none⟩ = some (.string r.key) ∧ W.cell? ⟨w.heap.size + 1, 1, none⟩ = some (.int .i64 r.ls) ∧ W.cell? ⟨w.heap.size + 1, 2, none⟩ = some (.string r.lp) ∧ W.cell? ⟨w.heap.size + 1, 3, none⟩ = some (.string r.val) ∧ W.cell? ⟨w.heap.size + 1, 4, none⟩ = some (.slice As n cs)) ∧ W.cell? ⟨wr.heap.size, 2, none⟩ = some (.int .i64 xb) ∧ W.cell? ⟨wr.heap.size, 3, none⟩ = some (.int .i64 xc)) (by kernel_rfl) ?_ (fun hHeld => ?_)
          · exact ⟨⟨c0, c1, c2, c3, c4⟩, r2, r3⟩
          (refine wpAnyH_take (i := 0) (oi := ?_) (v := ?_) ?_ (by kernel_rfl) ?_ ?_ ?_ ?_ (by assumption) ?_; rotate_left 2; (simp only [List.getElem?_toArray, List.getElem?_cons_zero]; rfl); kernel_rfl; kernel_rfl; exact fun _ _ _ h => h; (refine Or.inl ⟨by rfl, ?_⟩; intro w hSw; (try dsimp only at hSw); go_simp; (first | done | with_reducible rfl)); (try simp only [Act.put, List.setIfInBounds_toArray, List.set_cons_zero, List.set_cons_succ]))
          (first | (refine wpAnyH_take (i := 1) (oi := ?_) (v := ?_) ?_ (by kernel_rfl) ?_ ?_ ?_ ?_ (by assumption) ?_; rotate_left 2; (simp only [List.getElem?_toArray, List.getElem?_cons_zero, List.getElem?_cons_succ]; rfl); kernel_rfl; kernel_rfl; exact fun _ _ _ h => h; (refine Or.inl ⟨by rfl, ?_⟩; intro w hSw; (try dsimp only at hSw); go_simp; (first | done | with_reducible rfl)); (try simp only [Act.put, List.setIfInBounds_toArray, List.set_cons_zero, List.set_cons_succ])) | (refine wpAnyH_take (i := 1) (oi := ?_) (v := undef) ?_ (by kernel_rfl) ?_ ?_ ?_ ?_ (by assumption) ?_; rotate_left 1; (simp only [List.getElem?_toArray, List.getElem?_cons_zero, List.getElem?_cons_succ]; rfl); kernel_rfl; kernel_rfl; exact fun _ _ _ h => h; exact Or.inr ⟨by rfl, rfl⟩; (try simp only [Act.put, List.setIfInBounds_toArray, List.set_cons_zero, List.set_cons_succ])))
          (first | (refine wpAnyH_take (i := 2) (oi := ?_) (v := ?_) ?_ (by kernel_rfl) ?_ ?_ ?_ ?_ (by assumption) ?_; rotate_left 2; (simp only [List.getElem?_toArray, List.getElem?_cons_zero, List.getElem?_cons_succ]; rfl); kernel_rfl; kernel_rfl; exact fun _ _ _ h => h; (refine Or.inl ⟨by rfl, ?_⟩; intro w hSw; (try dsimp only at hSw); go_simp; (first | done | with_reducible rfl)); (try simp only [Act.put, List.setIfInBounds_toArray, List.set_cons_zero, List.set_cons_succ])) | (refine wpAnyH_take (i := 2) (oi := ?_) (v := undef) ?_ (by kernel_rfl) ?_ ?_ ?_ ?_ (by assumption) ?_; rotate_left 1; (simp only [List.getElem?_toArray, List.getElem?_cons_zero, List.getElem?_cons_succ]; rfl); kernel_rfl; kernel_rfl; exact fun _ _ _ h => h; exact Or.inr ⟨by rfl, rfl⟩; (try simp only [Act.put, List.setIfInBounds_toArray, List.set_cons_zero, List.set_cons_succ])))
          (first | (refine wpAnyH_take (i := 3) (oi := ?_) (v := ?_) ?_ (by kernel_rfl) ?_ ?_ ?_ ?_ (by assumption) ?_; rotate_left 2; (simp only [List.getElem?_toArray, List.getElem?_cons_zero, List.getElem?_cons_succ]; rfl); kernel_rfl; kernel_rfl; exact fun _ _ _ h => h; (refine Or.inl ⟨by rfl, ?_⟩; intro w hSw; (try dsimp only at hSw); go_simp; (first | done | with_reducible rfl)); (try simp only [Act.put, List.setIfInBounds_toArray, List.set_cons_zero, List.set_cons_succ])) | (refine wpAnyH_take (i := 3) (oi := ?_) (v := undef) ?_ (by kernel_rfl) ?_ ?_ ?_ ?_ (by assumption) ?_; rotate_left 1; (simp only [List.getElem?_toArray, List.getElem?_cons_zero, List.getElem?_cons_succ]; rfl); kernel_rfl; kernel_rfl; exact fun _ _ _ h => h; exact Or.inr ⟨by rfl, rfl⟩; (try simp only [Act.put, List.setIfInBounds_toArray, List.set_cons_zero, List.set_cons_succ])))
          (first | (refine wpAnyH_take (i := 4) (oi := ?_) (v := ?_) ?_ (by kernel_rfl) ?_ ?_ ?_ ?_ (by assumption) ?_; rotate_left 2; (simp only [List.getElem?_toArray, List.getElem?_cons_zero, List.getElem?_cons_succ]; rfl); kernel_rfl; kernel_rfl; exact fun _ _ _ h => h; (refine Or.inl ⟨by rfl, ?_⟩; intro w hSw; (try dsimp only at hSw); go_simp; (first | done | with_reducible rfl)); (try simp only [Act.put, List.setIfInBounds_toArray, List.set_cons_zero, List.set_cons_succ])) | (refine wpAnyH_take (i := 4) (oi := ?_) (v := undef) ?_ (by kernel_rfl) ?_ ?_ ?_ ?_ (by assumption) ?_; rotate_left 1; (simp only [List.getElem?_toArray, List.getElem?_cons_zero, List.getElem?_cons_succ]; rfl); kernel_rfl; kernel_rfl; exact fun _ _ _ h => h; exact Or.inr ⟨by rfl, rfl⟩; (try simp only [Act.put, List.setIfInBounds_toArray, List.set_cons_zero, List.set_cons_succ])))
          (first | (refine wpAnyH_take (i := 5) (oi := ?_) (v := ?_) ?_ (by kernel_rfl) ?_ ?_ ?_ ?_ (by assumption) ?_; rotate_left 2; (simp only [List.getElem?_toArray, List.getElem?_cons_zero, List.getElem?_cons_succ]; rfl); kernel_rfl; kernel_rfl; exact fun _ _ _ h => h; (refine Or.inl ⟨by rfl, ?_⟩; intro w hSw; (try dsimp only at hSw); go_simp; (first | done | with_reducible rfl)); (try simp only [Act.put, List.setIfInBounds_toArray, List.set_cons_zero, List.set_cons_succ])) | (refine wpAnyH_take (i := 5) (oi := ?_) (v := undef) ?_ (by kernel_rfl) ?_ ?_ ?_ ?_ (by assumption) ?_; rotate_left 1; (simp only [List.getElem?_toArray, List.getElem?_cons_zero, List.getElem?_cons_succ]; rfl); kernel_rfl; kernel_rfl; exact fun _ _ _ h => h; exact Or.inr ⟨by rfl, rfl⟩; (try simp only [Act.put, List.setIfInBounds_toArray, List.set_cons_zero, List.set_cons_succ])))
          (refine wpAnyH_ready (rs := [6]) (by kernel_rfl) (by simp) ?_; refine AllReadyH.cons (o := ?_) ?_ (fun K hK => ?_) AllReadyH.nil; rotate_left 1; (simp only [List.getElem?_toArray, List.getElem?_cons_zero, List.getElem?_cons_succ]; rfl); go_simp)
          refine (HP10.out _).mono ?_
          rintro e w' ⟨rfl, hw⟩
          rw [hw]
          clear hw w'
          clear hHeld
          (refine hK.out _ _ ?_ (fun hHeld => ?_); exact HSK.out _ (HMO.out _ (below_drew (Below.refl _ _))); clear hK K)
          (first | (refine wpAnyH_take (i := 7) (oi := ?_) (v := ?_) ?_ (by kernel_rfl) ?_ ?_ ?_ ?_ (by assumption) ?_; rotate_left 2; (simp only [List.getElem?_toArray, List.getElem?_cons_zero, List.getElem?_cons_succ]; rfl); kernel_rfl; kernel_rfl; exact fun _ _ _ h => h; (refine Or.inl ⟨by rfl, ?_⟩; intro w hSw; (try dsimp only at hSw); go_simp; (first | done | with_reducible rfl)); (try simp only [Act.put, List.setIfInBounds_toArray, List.set_cons_zero, List.set_cons_succ])) | (refine wpAnyH_take (i := 7) (oi := ?_) (v := undef) ?_ (by kernel_rfl) ?_ ?_ ?_ ?_ (by assumption) ?_; rotate_left 1; (simp only [List.getElem?_toArray, List.getElem?_cons_zero, List.getElem?_cons_succ]; rfl); kernel_rfl; kernel_rfl; exact fun _ _ _ h => h; exact Or.inr ⟨by rfl, rfl⟩; (try simp only [Act.put, List.setIfInBounds_toArray, List.set_cons_zero, List.set_cons_succ])))
          (refine wpAnyH_ready (rs := [8]) (by kernel_rfl) (by simp) ?_; refine AllReadyH.cons (o := ?_) ?_ (fun K hK => ?_) AllReadyH.nil; rotate_left 1; (simp only [List.getElem?_toArray, List.getElem?_cons_zero, List.getElem?_cons_succ]; rfl); go_simp)
          refine (HCM.out _ (below_drew (Below.refl _ _))).mono ?_
          rintro e w3 ⟨A', c', rfl, hrec, hnc, hb3⟩
          have HB3 := Lib.hid (show Below W1.heap.size W1 w3 from below_next (below_drew (Below.refl _ _)) hb3)
          have hN := HN.out.upto HB3.out (by omega)
          have HN3 := Lib.hid hN
          have z0 := hN.k
          have z1 := hN.s
          have z2 := hN.p
          have z3 := hN.v
          have z4 := hN.l
          have u0 := hN.f 0
          have u1 := hN.f 1
          have u2 := hN.f 2
          have u3 := hN.f 3
          have u4 := hN.f 4
          have HRC := Lib.hid hrec
          have HNA := Lib.hid (show NewAt (wr.heap.size + 2) A' from fun ad h => Nat.le_trans (by have := (show Below W1.heap.size W1 _ from (below_drew (Below.refl _ _))).size; omega) (hnc.1 ad h))
          have hle := hnc.2
          clear hrec hnc hb3 hN
          clear hHeld
          (refine hK.out _ _ ?_ (fun hHeld => ?_); exact HSK.out _ (HMO.out _ HB3.out); clear hK K)
          (first | (refine wpAnyH_take (i := 9) (oi := ?_) (v := ?_) ?_ (by kernel_rfl) ?_ ?_ ?_ ?_ (by assumption) ?_; rotate_left 2; (simp only [List.getElem?_toArray, List.getElem?_cons_zero, List.getElem?_cons_succ]; rfl); kernel_rfl; kernel_rfl; exact fun _ _ _ h => h; (refine Or.inl ⟨by rfl, ?_⟩; intro w hSw; (try dsimp only at hSw); go_simp; (first | done | with_reducible rfl)); (try simp only [Act.put, List.setIfInBounds_toArray, List.set_cons_zero, List.set_cons_succ])) | (refine wpAnyH_take (i := 9) (oi := ?_) (v := undef) ?_ (by kernel_rfl) ?_ ?_ ?_ ?_ (by assumption) ?_; rotate_left 1; (simp only [List.getElem?_toArray, List.getElem?_cons_zero, List.getElem?_cons_succ]; rfl); kernel_rfl; kernel_rfl; exact fun _ _ _ h => h; exact Or.inr ⟨by rfl, rfl⟩; (try simp only [Act.put, List.setIfInBounds_toArray, List.set_cons_zero, List.set_cons_succ])))
          (first | (refine wpAnyH_take (i := 10) (oi := ?_) (v := ?_) ?_ (by kernel_rfl) ?_ ?_ ?_ ?_ (by assumption) ?_; rotate_left 2; (simp only [List.getElem?_toArray, List.getElem?_cons_zero, List.getElem?_cons_succ]; rfl); kernel_rfl; kernel_rfl; exact fun _ _ _ h => h; (refine Or.inl ⟨by rfl, ?_⟩; intro w hSw; (try dsimp only at hSw); go_simp; (first | done | with_reducible rfl)); (try simp only [Act.put, List.setIfInBounds_toArray, List.set_cons_zero, List.set_cons_succ])) | (refine wpAnyH_take (i := 10) (oi := ?_) (v := undef) ?_ (by kernel_rfl) ?_ ?_ ?_ ?_ (by assumption) ?_; rotate_left 1; (simp only [List.getElem?_toArray, List.getElem?_cons_zero, List.getElem?_cons_succ]; rfl); kernel_rfl; kernel_rfl; exact fun _ _ _ h => h; exact Or.inr ⟨by rfl, rfl⟩; (try simp only [Act.put, List.setIfInBounds_toArray, List.set_cons_zero, List.set_cons_succ])))
          (first | (refine wpAnyH_take (i := 11) (oi := ?_) (v := ?_) ?_ (by kernel_rfl) ?_ ?_ ?_ ?_ (by assumption) ?_; rotate_left 2; (simp only [List.getElem?_toArray, List.getElem?_cons_zero, List.getElem?_cons_succ]; rfl); kernel_rfl; kernel_rfl; exact fun _ _ _ h => h; (refine Or.inl ⟨by rfl, ?_⟩; intro w hSw; (try dsimp only at hSw); go_simp; (first | done | with_reducible rfl)); (try simp only [Act.put, List.setIfInBounds_toArray, List.set_cons_zero, List.set_cons_succ])) | (refine wpAnyH_take (i := 11) (oi := ?_) (v := undef) ?_ (by kernel_rfl) ?_ ?_ ?_ ?_ (by assumption) ?_; rotate_left 1; (simp only [List.getElem?_toArray, List.getElem?_cons_zero, List.getElem?_cons_succ]; rfl); kernel_rfl; kernel_rfl; exact fun _ _ _ h => h; exact Or.inr ⟨by rfl, rfl⟩; (try simp only [Act.put, List.setIfInBounds_toArray, List.set_cons_zero, List.set_cons_succ])))
          (refine wpAnyH_ready (rs := [12]) (by kernel_rfl) (by simp) ?_; refine AllReadyH.cons (o := ?_) ?_ (fun K hK => ?_) AllReadyH.nil; rotate_left 1; (simp only [List.getElem?_toArray, List.getElem?_cons_zero, List.getElem?_cons_succ]; rfl); go_simp)
          clear hHeld
          (refine hK.out _ _ ?_ (fun hHeld => ?_); exact HSK.out _ (below_set5 (HMO.out _ HB3.out) (Nat.le_refl _) _ _ _ _ _ _); clear hK K)
          (first | (refine wpAnyH_take (i := 13) (oi := ?_) (v := ?_) ?_ (by kernel_rfl) ?_ ?_ ?_ ?_ (by assumption) ?_; rotate_left 2; (simp only [List.getElem?_toArray, List.getElem?_cons_zero, List.getElem?_cons_succ]; rfl); kernel_rfl; kernel_rfl; exact fun _ _ _ h => h; (refine Or.inl ⟨by rfl, ?_⟩; intro w hSw; (try dsimp only at hSw); go_simp; (first | done | with_reducible rfl)); (try simp only [Act.put, List.setIfInBounds_toArray, List.set_cons_zero, List.set_cons_succ])) | (refine wpAnyH_take (i := 13) (oi := ?_) (v := undef) ?_ (by kernel_rfl) ?_ ?_ ?_ ?_ (by assumption) ?_; rotate_left 1; (simp only [List.getElem?_toArray, List.getElem?_cons_zero, List.getElem?_cons_succ]; rfl); kernel_rfl; kernel_rfl; exact fun _ _ _ h => h; exact Or.inr ⟨by rfl, rfl⟩; (try simp only [Act.put, List.setIfInBounds_toArray, List.set_cons_zero, List.set_cons_succ])))
          refine wpAnyH_done (by kernel_rfl) ?_ _
          clear hHeld
          obtain ⟨wc, hwc⟩ : ∃ wc, wc = ((((w3.setCell ⟨wr.heap.size + 1, 0, none⟩ (.string R'.key)).setCell ⟨wr.heap.size + 1, 1, none⟩ (.int .i64 R'.ls)).setCell ⟨wr.heap.size + 1, 2, none⟩ (.string R'.lp)).setCell ⟨wr.heap.size + 1, 3, none⟩ (.string R'.val)).setCell ⟨wr.heap.size + 1, 4, none⟩ (.slice A' R'.recs.length c') := ⟨_, rfl⟩
          have hbn : RowBox wc (wr.heap.size + 1) R' A' R'.recs.length c' := by rw [hwc]; exact HN3.out.set R' A' _ c'
          have hrec : RecsAt wc wc.heap.size A' R'.recs := by rw [hwc]; exact recs_set5 HRC.out HNA.out (by omega) _ _ _ _ _
          have hnw := HNA.out
          have hbc : Below (wr.heap.size + 1) W1 wc := by rw [hwc]; exact below_set5 (HMO.out _ HB3.out) (Nat.le_refl _) 0 _ _ _ _ _
          rw [← hwc]
          clear hwc HRC HNA z0 z1 z2 z3 z4 u0 u1 u2 u3 u4 c0 c1 c2 c3 c4 r0 r1 r2 r3
          have HRC := Lib.hid hrec
          have HBC := Lib.hid hbc
          have hrb := HWB.out.upto hbc (by omega)
          have HRB := Lib.hid hrb
          have HZB := Lib.hid (HWZ.out.upto hbc (by omega))
          have n0 := hbn.k
          have n1 := hbn.s
          have n2 := hbn.p
          have n3 := hbn.v
          have n4 := hbn.l
          have m0 := hrb.k
          have m1 := hrb.s
          have m2 := hrb.p
          have m3 := hrb.v
          have m4 := hrb.l
          have f0 := hrb.f 0
          have f1 := hrb.f 1
          have f2 := hrb.f 2
          have f3 := hrb.f 3
          have f4 := hrb.f 4
          have HNA := Lib.hid (show NewAt (w.heap.size + 2) A' from fun ad h => Nat.le_trans (by omega) (hnw ad h))
          have HBW := Lib.hid (show Below w.heap.size w wc from HB.out.trans ((HB1.out.mono (by omega)).trans (hbc.mono (by omega))))
          clear hrb hbn hrec hnw hbc
          by_cases e0 : ec = 0
          · have d0 : (ec == 0) = true := by simpa using e0
            have HNK := Lib.hid (show rowsM l (k + 1) = R' by rw [HSUC.out, HNX.out, if_pos e0])
            have HK1 := Lib.hid (rowsM_keep l (k + 1))
            rw [HNK.out] at HK1
            clear e0
            go_wp2
            go_roundw
            case rel => exact ⟨k + 1, A', c', by omega, by go_num, by rw [HNK.out]; exact HRB.out.set R' A' _ c', HZB.out.other (by omega) _ _ _ _ _, by rw [HNK.out]; exact ⟨⟨rfl, recs_set5 HRC.out HNA.out (by omega) _ _ _ _ _, HK1.out.sz.k, HK1.out.sz.p, HK1.out.sz.v⟩, hle⟩, HNA.out, below_set5 HBW.out (by omega) _ _ _ _ _ _⟩
            case measure => simp [intOf]; omega
          · have d0 : (ec == 0) = false := by simpa using e0
            have HNK := Lib.hid (show rowsM l (k + 1) = r by rw [HSUC.out, HNX.out, if_neg e0])
            have HIC := Lib.hid (show OpIn wc r As n cs from ⟨⟨HIN1.out.i.n, (HIN.out.i.l.below ((HB1.out).trans (HBC.out.mono (by omega)))).more (by have := HBC.out.size; omega), HIN1.out.i.k, HIN1.out.i.p, HIN1.out.i.v⟩, HIN1.out.c⟩)
            clear e0
            go_wp2
            go_roundw
            case rel => exact ⟨k + 1, As, cs, by omega, by go_num, by rw [HNK.out, ← HNE.out]; exact HRB.out, HZB.out, by rw [HNK.out, ← HNE.out]; exact HIC.out, HNW.out, HBW.out⟩
            case measure => simp [intOf]; omega
      · by_cases hl : r.ls = 0
        · have dl : (r.ls != 0) = false := by simpa using hl
          have HY := Lib.hid (show (R', ec) = commitOp (1 + pa) (1 + pa + 1 + pickM xb 10) r by rw [HOP.out, if_neg (by decide), if_pos (by decide), if_pos hl])
          clear hl
          have HP10 := Lib.hid (fun W => picked_any xb 10 W ok2 (by omega) (by omega))
          have HCM := Lib.hid (show ∀ W, Below W1.heap.size W1 W → Calls Tryd.prog 23 #[rV r As n cs, .int .i64 (1 + pa), .int .i64 (1 + pa + 1 + pickM xb 10)] W (OpOut (R', ec) W) from fun W hb => by
            rw [HY.out]
            exact commitFn_op r As n cs (1 + pa) (1 + pa + 1 + pickM xb 10) W (HIN1.out.upto hb))
          obtain ⟨pb, hpb⟩ : ∃ pb, pb = pickM xb 10 := ⟨_, rfl⟩
          rw [← hpb] at HP10 HCM bb
          have s2 : IntKind.i64.wrap (1 + pa + 1) = 1 + pa + 1 := IntWalk.i64_in _ (by omega)
          have s3 : IntKind.i64.wrap (1 + pa + 1 + pb) = 1 + pa + 1 + pb := IntWalk.i64_in _ (by omega)
          clear hpb
          go_wp2_with fail
          refine wp_region_held_drew (S := fun W => (W.cell? ⟨w.heap.size + 1, 0, none⟩ = some (.string r.key) ∧ W.cell? ⟨w.heap.size + 1, 1, none⟩ = some (.int .i64 r.ls) ∧ W.cell? ⟨w.heap.size + 1, 2, none⟩ = some (.string r.lp) ∧ W.cell? ⟨w.heap.size + 1, 3, none⟩ = some (.string r.val) ∧ W.cell? ⟨w.heap.size + 1, 4, none⟩ = some (.slice As n cs)) ∧ W.cell? ⟨wr.heap.size, 2, none⟩ = some (.int .i64 xb) ∧ W.cell? ⟨wr.heap.size, 3, none⟩ = some (.int .i64 xc)) (by kernel_rfl) ?_ (fun hHeld => ?_)
          · exact ⟨⟨c0, c1, c2, c3, c4⟩, r2, r3⟩
          (refine wpAnyH_take (i := 0) (oi := ?_) (v := ?_) ?_ (by kernel_rfl) ?_ ?_ ?_ ?_ (by assumption) ?_; rotate_left 2; (simp only [List.getElem?_toArray, List.getElem?_cons_zero]; rfl); kernel_rfl; kernel_rfl; exact fun _ _ _ h => h; (refine Or.inl ⟨by rfl, ?_⟩; intro w hSw; (try dsimp only at hSw); go_simp; (first | done | with_reducible rfl)); (try simp only [Act.put, List.setIfInBounds_toArray, List.set_cons_zero, List.set_cons_succ]))
          (first | (refine wpAnyH_take (i := 1) (oi := ?_) (v := ?_) ?_ (by kernel_rfl) ?_ ?_ ?_ ?_ (by assumption) ?_; rotate_left 2; (simp only [List.getElem?_toArray, List.getElem?_cons_zero, List.getElem?_cons_succ]; rfl); kernel_rfl; kernel_rfl; exact fun _ _ _ h => h; (refine Or.inl ⟨by rfl, ?_⟩; intro w hSw; (try dsimp only at hSw); go_simp; (first | done | with_reducible rfl)); (try simp only [Act.put, List.setIfInBounds_toArray, List.set_cons_zero, List.set_cons_succ])) | (refine wpAnyH_take (i := 1) (oi := ?_) (v := undef) ?_ (by kernel_rfl) ?_ ?_ ?_ ?_ (by assumption) ?_; rotate_left 1; (simp only [List.getElem?_toArray, List.getElem?_cons_zero, List.getElem?_cons_succ]; rfl); kernel_rfl; kernel_rfl; exact fun _ _ _ h => h; exact Or.inr ⟨by rfl, rfl⟩; (try simp only [Act.put, List.setIfInBounds_toArray, List.set_cons_zero, List.set_cons_succ])))
          (first | (refine wpAnyH_take (i := 2) (oi := ?_) (v := ?_) ?_ (by kernel_rfl) ?_ ?_ ?_ ?_ (by assumption) ?_; rotate_left 2; (simp only [List.getElem?_toArray, List.getElem?_cons_zero, List.getElem?_cons_succ]; rfl); kernel_rfl; kernel_rfl; exact fun _ _ _ h => h; (refine Or.inl ⟨by rfl, ?_⟩; intro w hSw; (try dsimp only at hSw); go_simp; (first | done | with_reducible rfl)); (try simp only [Act.put, List.setIfInBounds_toArray, List.set_cons_zero, List.set_cons_succ])) | (refine wpAnyH_take (i := 2) (oi := ?_) (v := undef) ?_ (by kernel_rfl) ?_ ?_ ?_ ?_ (by assumption) ?_; rotate_left 1; (simp only [List.getElem?_toArray, List.getElem?_cons_zero, List.getElem?_cons_succ]; rfl); kernel_rfl; kernel_rfl; exact fun _ _ _ h => h; exact Or.inr ⟨by rfl, rfl⟩; (try simp only [Act.put, List.setIfInBounds_toArray, List.set_cons_zero, List.set_cons_succ])))
          (first | (refine wpAnyH_take (i := 3) (oi := ?_) (v := ?_) ?_ (by kernel_rfl) ?_ ?_ ?_ ?_ (by assumption) ?_; rotate_left 2; (simp only [List.getElem?_toArray, List.getElem?_cons_zero, List.getElem?_cons_succ]; rfl); kernel_rfl; kernel_rfl; exact fun _ _ _ h => h; (refine Or.inl ⟨by rfl, ?_⟩; intro w hSw; (try dsimp only at hSw); go_simp; (first | done | with_reducible rfl)); (try simp only [Act.put, List.setIfInBounds_toArray, List.set_cons_zero, List.set_cons_succ])) | (refine wpAnyH_take (i := 3) (oi := ?_) (v := undef) ?_ (by kernel_rfl) ?_ ?_ ?_ ?_ (by assumption) ?_; rotate_left 1; (simp only [List.getElem?_toArray, List.getElem?_cons_zero, List.getElem?_cons_succ]; rfl); kernel_rfl; kernel_rfl; exact fun _ _ _ h => h; exact Or.inr ⟨by rfl, rfl⟩; (try simp only [Act.put, List.setIfInBounds_toArray, List.set_cons_zero, List.set_cons_succ])))
          (first | (refine wpAnyH_take (i := 4) (oi := ?_) (v := ?_) ?_ (by kernel_rfl) ?_ ?_ ?_ ?_ (by assumption) ?_; rotate_left 2; (simp only [List.getElem?_toArray, List.getElem?_cons_zero, List.getElem?_cons_succ]; rfl); kernel_rfl; kernel_rfl; exact fun _ _ _ h => h; (refine Or.inl ⟨by rfl, ?_⟩; intro w hSw; (try dsimp only at hSw); go_simp; (first | done | with_reducible rfl)); (try simp only [Act.put, List.setIfInBounds_toArray, List.set_cons_zero, List.set_cons_succ])) | (refine wpAnyH_take (i := 4) (oi := ?_) (v := undef) ?_ (by kernel_rfl) ?_ ?_ ?_ ?_ (by assumption) ?_; rotate_left 1; (simp only [List.getElem?_toArray, List.getElem?_cons_zero, List.getElem?_cons_succ]; rfl); kernel_rfl; kernel_rfl; exact fun _ _ _ h => h; exact Or.inr ⟨by rfl, rfl⟩; (try simp only [Act.put, List.setIfInBounds_toArray, List.set_cons_zero, List.set_cons_succ])))
          (first | (refine wpAnyH_take (i := 5) (oi := ?_) (v := ?_) ?_ (by kernel_rfl) ?_ ?_ ?_ ?_ (by assumption) ?_; rotate_left 2; (simp only [List.getElem?_toArray, List.getElem?_cons_zero, List.getElem?_cons_succ]; rfl); kernel_rfl; kernel_rfl; exact fun _ _ _ h => h; (refine Or.inl ⟨by rfl, ?_⟩; intro w hSw; (try dsimp only at hSw); go_simp; (first | done | with_reducible rfl)); (try simp only [Act.put, List.setIfInBounds_toArray, List.set_cons_zero, List.set_cons_succ])) | (refine wpAnyH_take (i := 5) (oi := ?_) (v := undef) ?_ (by kernel_rfl) ?_ ?_ ?_ ?_ (by assumption) ?_; rotate_left 1; (simp only [List.getElem?_toArray, List.getElem?_cons_zero, List.getElem?_cons_succ]; rfl); kernel_rfl; kernel_rfl; exact fun _ _ _ h => h; exact Or.inr ⟨by rfl, rfl⟩; (try simp only [Act.put, List.setIfInBounds_toArray, List.set_cons_zero, List.set_cons_succ])))
          (refine wpAnyH_ready (rs := [6]) (by kernel_rfl) (by simp) ?_; refine AllReadyH.cons (o := ?_) ?_ (fun K hK => ?_) AllReadyH.nil; rotate_left 1; (simp only [List.getElem?_toArray, List.getElem?_cons_zero, List.getElem?_cons_succ]; rfl); go_simp)
          refine (HP10.out _).mono ?_
          rintro e w' ⟨rfl, hw⟩
          rw [hw]
          clear hw w'
          clear hHeld
          (refine hK.out _ _ ?_ (fun hHeld => ?_); exact HSK.out _ (HMO.out _ (below_drew (Below.refl _ _))); clear hK K)
          (first | (refine wpAnyH_take (i := 7) (oi := ?_) (v := ?_) ?_ (by kernel_rfl) ?_ ?_ ?_ ?_ (by assumption) ?_; rotate_left 2; (simp only [List.getElem?_toArray, List.getElem?_cons_zero, List.getElem?_cons_succ]; rfl); kernel_rfl; kernel_rfl; exact fun _ _ _ h => h; (refine Or.inl ⟨by rfl, ?_⟩; intro w hSw; (try dsimp only at hSw); go_simp; (first | done | with_reducible rfl)); (try simp only [Act.put, List.setIfInBounds_toArray, List.set_cons_zero, List.set_cons_succ])) | (refine wpAnyH_take (i := 7) (oi := ?_) (v := undef) ?_ (by kernel_rfl) ?_ ?_ ?_ ?_ (by assumption) ?_; rotate_left 1; (simp only [List.getElem?_toArray, List.getElem?_cons_zero, List.getElem?_cons_succ]; rfl); kernel_rfl; kernel_rfl; exact fun _ _ _ h => h; exact Or.inr ⟨by rfl, rfl⟩; (try simp only [Act.put, List.setIfInBounds_toArray, List.set_cons_zero, List.set_cons_succ])))
          (refine wpAnyH_ready (rs := [8]) (by kernel_rfl) (by simp) ?_; refine AllReadyH.cons (o := ?_) ?_ (fun K hK => ?_) AllReadyH.nil; rotate_left 1; (simp only [List.getElem?_toArray, List.getElem?_cons_zero, List.getElem?_cons_succ]; rfl); go_simp)
          refine (HCM.out _ (below_drew (Below.refl _ _))).mono ?_
          rintro e w3 ⟨A', c', rfl, hrec, hnc, hb3⟩
          have HB3 := Lib.hid (show Below W1.heap.size W1 w3 from below_next (below_drew (Below.refl _ _)) hb3)
          have hN := HN.out.upto HB3.out (by omega)
          have HN3 := Lib.hid hN
          have z0 := hN.k
          have z1 := hN.s
          have z2 := hN.p
          have z3 := hN.v
          have z4 := hN.l
          have u0 := hN.f 0
          have u1 := hN.f 1
          have u2 := hN.f 2
          have u3 := hN.f 3
          have u4 := hN.f 4
          have HRC := Lib.hid hrec
          have HNA := Lib.hid (show NewAt (wr.heap.size + 2) A' from fun ad h => Nat.le_trans (by have := (show Below W1.heap.size W1 _ from (below_drew (Below.refl _ _))).size; omega) (hnc.1 ad h))
          have hle := hnc.2
          clear hrec hnc hb3 hN
          clear hHeld
          (refine hK.out _ _ ?_ (fun hHeld => ?_); exact HSK.out _ (HMO.out _ HB3.out); clear hK K)
          (first | (refine wpAnyH_take (i := 9) (oi := ?_) (v := ?_) ?_ (by kernel_rfl) ?_ ?_ ?_ ?_ (by assumption) ?_; rotate_left 2; (simp only [List.getElem?_toArray, List.getElem?_cons_zero, List.getElem?_cons_succ]; rfl); kernel_rfl; kernel_rfl; exact fun _ _ _ h => h; (refine Or.inl ⟨by rfl, ?_⟩; intro w hSw; (try dsimp only at hSw); go_simp; (first | done | with_reducible rfl)); (try simp only [Act.put, List.setIfInBounds_toArray, List.set_cons_zero, List.set_cons_succ])) | (refine wpAnyH_take (i := 9) (oi := ?_) (v := undef) ?_ (by kernel_rfl) ?_ ?_ ?_ ?_ (by assumption) ?_; rotate_left 1; (simp only [List.getElem?_toArray, List.getElem?_cons_zero, List.getElem?_cons_succ]; rfl); kernel_rfl; kernel_rfl; exact fun _ _ _ h => h; exact Or.inr ⟨by rfl, rfl⟩; (try simp only [Act.put, List.setIfInBounds_toArray, List.set_cons_zero, List.set_cons_succ])))
          (first | (refine wpAnyH_take (i := 10) (oi := ?_) (v := ?_) ?_ (by kernel_rfl) ?_ ?_ ?_ ?_ (by assumption) ?_; rotate_left 2; (simp only [List.getElem?_toArray, List.getElem?_cons_zero, List.getElem?_cons_succ]; rfl); kernel_rfl; kernel_rfl; exact fun _ _ _ h => h; (refine Or.inl ⟨by rfl, ?_⟩; intro w hSw; (try dsimp only at hSw); go_simp; (first | done | with_reducible rfl)); (try simp only [Act.put, List.setIfInBounds_toArray, List.set_cons_zero, List.set_cons_succ])) | (refine wpAnyH_take (i := 10) (oi := ?_) (v := undef) ?_ (by kernel_rfl) ?_ ?_ ?_ ?_ (by assumption) ?_; rotate_left 1; (simp only [List.getElem?_toArray, List.getElem?_cons_zero, List.getElem?_cons_succ]; rfl); kernel_rfl; kernel_rfl; exact fun _ _ _ h => h; exact Or.inr ⟨by rfl, rfl⟩; (try simp only [Act.put, List.setIfInBounds_toArray, List.set_cons_zero, List.set_cons_succ])))
          (first | (refine wpAnyH_take (i := 11) (oi := ?_) (v := ?_) ?_ (by kernel_rfl) ?_ ?_ ?_ ?_ (by assumption) ?_; rotate_left 2; (simp only [List.getElem?_toArray, List.getElem?_cons_zero, List.getElem?_cons_succ]; rfl); kernel_rfl; kernel_rfl; exact fun _ _ _ h => h; (refine Or.inl ⟨by rfl, ?_⟩; intro w hSw; (try dsimp only at hSw); go_simp; (first | done | with_reducible rfl)); (try simp only [Act.put, List.setIfInBounds_toArray, List.set_cons_zero, List.set_cons_succ])) | (refine wpAnyH_take (i := 11) (oi := ?_) (v := undef) ?_ (by kernel_rfl) ?_ ?_ ?_ ?_ (by assumption) ?_; rotate_left 1; (simp only [List.getElem?_toArray, List.getElem?_cons_zero, List.getElem?_cons_succ]; rfl); kernel_rfl; kernel_rfl; exact fun _ _ _ h => h; exact Or.inr ⟨by rfl, rfl⟩; (try simp only [Act.put, List.setIfInBounds_toArray, List.set_cons_zero, List.set_cons_succ])))
          (refine wpAnyH_ready (rs := [12]) (by kernel_rfl) (by simp) ?_; refine AllReadyH.cons (o := ?_) ?_ (fun K hK => ?_) AllReadyH.nil; rotate_left 1; (simp only [List.getElem?_toArray, List.getElem?_cons_zero, List.getElem?_cons_succ]; rfl); go_simp)
          clear hHeld
          (refine hK.out _ _ ?_ (fun hHeld => ?_); exact HSK.out _ (below_set5 (HMO.out _ HB3.out) (Nat.le_refl _) _ _ _ _ _ _); clear hK K)
          (first | (refine wpAnyH_take (i := 13) (oi := ?_) (v := ?_) ?_ (by kernel_rfl) ?_ ?_ ?_ ?_ (by assumption) ?_; rotate_left 2; (simp only [List.getElem?_toArray, List.getElem?_cons_zero, List.getElem?_cons_succ]; rfl); kernel_rfl; kernel_rfl; exact fun _ _ _ h => h; (refine Or.inl ⟨by rfl, ?_⟩; intro w hSw; (try dsimp only at hSw); go_simp; (first | done | with_reducible rfl)); (try simp only [Act.put, List.setIfInBounds_toArray, List.set_cons_zero, List.set_cons_succ])) | (refine wpAnyH_take (i := 13) (oi := ?_) (v := undef) ?_ (by kernel_rfl) ?_ ?_ ?_ ?_ (by assumption) ?_; rotate_left 1; (simp only [List.getElem?_toArray, List.getElem?_cons_zero, List.getElem?_cons_succ]; rfl); kernel_rfl; kernel_rfl; exact fun _ _ _ h => h; exact Or.inr ⟨by rfl, rfl⟩; (try simp only [Act.put, List.setIfInBounds_toArray, List.set_cons_zero, List.set_cons_succ])))
          refine wpAnyH_done (by kernel_rfl) ?_ _
          clear hHeld
          obtain ⟨wc, hwc⟩ : ∃ wc, wc = ((((w3.setCell ⟨wr.heap.size + 1, 0, none⟩ (.string R'.key)).setCell ⟨wr.heap.size + 1, 1, none⟩ (.int .i64 R'.ls)).setCell ⟨wr.heap.size + 1, 2, none⟩ (.string R'.lp)).setCell ⟨wr.heap.size + 1, 3, none⟩ (.string R'.val)).setCell ⟨wr.heap.size + 1, 4, none⟩ (.slice A' R'.recs.length c') := ⟨_, rfl⟩
          have hbn : RowBox wc (wr.heap.size + 1) R' A' R'.recs.length c' := by rw [hwc]; exact HN3.out.set R' A' _ c'
          have hrec : RecsAt wc wc.heap.size A' R'.recs := by rw [hwc]; exact recs_set5 HRC.out HNA.out (by omega) _ _ _ _ _
          have hnw := HNA.out
          have hbc : Below (wr.heap.size + 1) W1 wc := by rw [hwc]; exact below_set5 (HMO.out _ HB3.out) (Nat.le_refl _) 0 _ _ _ _ _
          rw [← hwc]
          clear hwc HRC HNA z0 z1 z2 z3 z4 u0 u1 u2 u3 u4 c0 c1 c2 c3 c4 r0 r1 r2 r3
          have HRC := Lib.hid hrec
          have HBC := Lib.hid hbc
          have hrb := HWB.out.upto hbc (by omega)
          have HRB := Lib.hid hrb
          have HZB := Lib.hid (HWZ.out.upto hbc (by omega))
          have n0 := hbn.k
          have n1 := hbn.s
          have n2 := hbn.p
          have n3 := hbn.v
          have n4 := hbn.l
          have m0 := hrb.k
          have m1 := hrb.s
          have m2 := hrb.p
          have m3 := hrb.v
          have m4 := hrb.l
          have f0 := hrb.f 0
          have f1 := hrb.f 1
          have f2 := hrb.f 2
          have f3 := hrb.f 3
          have f4 := hrb.f 4
          have HNA := Lib.hid (show NewAt (w.heap.size + 2) A' from fun ad h => Nat.le_trans (by omega) (hnw ad h))
          have HBW := Lib.hid (show Below w.heap.size w wc from HB.out.trans ((HB1.out.mono (by omega)).trans (hbc.mono (by omega))))
          clear hrb hbn hrec hnw hbc
          by_cases e0 : ec = 0
          · have d0 : (ec == 0) = true := by simpa using e0
            have HNK := Lib.hid (show rowsM l (k + 1) = R' by rw [HSUC.out, HNX.out, if_pos e0])
            have HK1 := Lib.hid (rowsM_keep l (k + 1))
            rw [HNK.out] at HK1
            clear e0
            go_wp2
            go_roundw
            case rel => exact ⟨k + 1, A', c', by omega, by go_num, by rw [HNK.out]; exact HRB.out.set R' A' _ c', HZB.out.other (by omega) _ _ _ _ _, by rw [HNK.out]; exact ⟨⟨rfl, recs_set5 HRC.out HNA.out (by omega) _ _ _ _ _, HK1.out.sz.k, HK1.out.sz.p, HK1.out.sz.v⟩, hle⟩, HNA.out, below_set5 HBW.out (by omega) _ _ _ _ _ _⟩
            case measure => simp [intOf]; omega
          · have d0 : (ec == 0) = false := by simpa using e0
            have HNK := Lib.hid (show rowsM l (k + 1) = r by rw [HSUC.out, HNX.out, if_neg e0])
            have HIC := Lib.hid (show OpIn wc r As n cs from ⟨⟨HIN1.out.i.n, (HIN.out.i.l.below ((HB1.out).trans (HBC.out.mono (by omega)))).more (by have := HBC.out.size; omega), HIN1.out.i.k, HIN1.out.i.p, HIN1.out.i.v⟩, HIN1.out.c⟩)
            clear e0
            go_wp2
            go_roundw
            case rel => exact ⟨k + 1, As, cs, by omega, by go_num, by rw [HNK.out, ← HNE.out]; exact HRB.out, HZB.out, by rw [HNK.out, ← HNE.out]; exact HIC.out, HNW.out, HBW.out⟩
            case measure => simp [intOf]; omega
        · have dl : (r.ls != 0) = true := by simpa using hl
          have HY := Lib.hid (show (R', ec) = commitOp r.ls (r.ls + 1 + pickM xb 10) r by rw [HOP.out, if_neg (by decide), if_pos (by decide), if_neg hl])
          clear hl
          have HP10 := Lib.hid (fun W => picked_any xb 10 W ok2 (by omega) (by omega))
          have HCM := Lib.hid (show ∀ W, Below W1.heap.size W1 W → Calls Tryd.prog 23 #[rV r As n cs, .int .i64 (r.ls), .int .i64 (r.ls + 1 + pickM xb 10)] W (OpOut (R', ec) W) from fun W hb => by
            rw [HY.out]
            exact commitFn_op r As n cs (r.ls) (r.ls + 1 + pickM xb 10) W (HIN1.out.upto hb))
          obtain ⟨pb, hpb⟩ : ∃ pb, pb = pickM xb 10 := ⟨_, rfl⟩
          rw [← hpb] at HP10 HCM bb
          have s2 : IntKind.i64.wrap (r.ls + 1) = r.ls + 1 := IntWalk.i64_in _ (by omega)
          have s3 : IntKind.i64.wrap (r.ls + 1 + pb) = r.ls + 1 + pb := IntWalk.i64_in _ (by omega)
          clear hpb
          go_wp2_with fail
          refine wp_region_held_drew (S := fun W => (W.cell? ⟨w.heap.size + 1, 0, none⟩ = some (.string r.key) ∧ W.cell? ⟨w.heap.size + 1, 1, none⟩ = some (.int .i64 r.ls) ∧ W.cell? ⟨w.heap.size + 1, 2, none⟩ = some (.string r.lp) ∧ W.cell? ⟨w.heap.size + 1, 3, none⟩ = some (.string r.val) ∧ W.cell? ⟨w.heap.size + 1, 4, none⟩ = some (.slice As n cs)) ∧ W.cell? ⟨wr.heap.size, 2, none⟩ = some (.int .i64 xb) ∧ W.cell? ⟨wr.heap.size, 3, none⟩ = some (.int .i64 xc)) (by kernel_rfl) ?_ (fun hHeld => ?_)
          · exact ⟨⟨c0, c1, c2, c3, c4⟩, r2, r3⟩
          (refine wpAnyH_take (i := 0) (oi := ?_) (v := ?_) ?_ (by kernel_rfl) ?_ ?_ ?_ ?_ (by assumption) ?_; rotate_left 2; (simp only [List.getElem?_toArray, List.getElem?_cons_zero]; rfl); kernel_rfl; kernel_rfl; exact fun _ _ _ h => h; (refine Or.inl ⟨by rfl, ?_⟩; intro w hSw; (try dsimp only at hSw); go_simp; (first | done | with_reducible rfl)); (try simp only [Act.put, List.setIfInBounds_toArray, List.set_cons_zero, List.set_cons_succ]))
          (first | (refine wpAnyH_take (i := 1) (oi := ?_) (v := ?_) ?_ (by kernel_rfl) ?_ ?_ ?_ ?_ (by assumption) ?_; rotate_left 2; (simp only [List.getElem?_toArray, List.getElem?_cons_zero, List.getElem?_cons_succ]; rfl); kernel_rfl; kernel_rfl; exact fun _ _ _ h => h; (refine Or.inl ⟨by rfl, ?_⟩; intro w hSw; (try dsimp only at hSw); go_simp; (first | done | with_reducible rfl)); (try simp only [Act.put, List.setIfInBounds_toArray, List.set_cons_zero, List.set_cons_succ])) | (refine wpAnyH_take (i := 1) (oi := ?_) (v := undef) ?_ (by kernel_rfl) ?_ ?_ ?_ ?_ (by assumption) ?_; rotate_left 1; (simp only [List.getElem?_toArray, List.getElem?_cons_zero, List.getElem?_cons_succ]; rfl); kernel_rfl; kernel_rfl; exact fun _ _ _ h => h; exact Or.inr ⟨by rfl, rfl⟩; (try simp only [Act.put, List.setIfInBounds_toArray, List.set_cons_zero, List.set_cons_succ])))
          (first | (refine wpAnyH_take (i := 2) (oi := ?_) (v := ?_) ?_ (by kernel_rfl) ?_ ?_ ?_ ?_ (by assumption) ?_; rotate_left 2; (simp only [List.getElem?_toArray, List.getElem?_cons_zero, List.getElem?_cons_succ]; rfl); kernel_rfl; kernel_rfl; exact fun _ _ _ h => h; (refine Or.inl ⟨by rfl, ?_⟩; intro w hSw; (try dsimp only at hSw); go_simp; (first | done | with_reducible rfl)); (try simp only [Act.put, List.setIfInBounds_toArray, List.set_cons_zero, List.set_cons_succ])) | (refine wpAnyH_take (i := 2) (oi := ?_) (v := undef) ?_ (by kernel_rfl) ?_ ?_ ?_ ?_ (by assumption) ?_; rotate_left 1; (simp only [List.getElem?_toArray, List.getElem?_cons_zero, List.getElem?_cons_succ]; rfl); kernel_rfl; kernel_rfl; exact fun _ _ _ h => h; exact Or.inr ⟨by rfl, rfl⟩; (try simp only [Act.put, List.setIfInBounds_toArray, List.set_cons_zero, List.set_cons_succ])))
          (first | (refine wpAnyH_take (i := 3) (oi := ?_) (v := ?_) ?_ (by kernel_rfl) ?_ ?_ ?_ ?_ (by assumption) ?_; rotate_left 2; (simp only [List.getElem?_toArray, List.getElem?_cons_zero, List.getElem?_cons_succ]; rfl); kernel_rfl; kernel_rfl; exact fun _ _ _ h => h; (refine Or.inl ⟨by rfl, ?_⟩; intro w hSw; (try dsimp only at hSw); go_simp; (first | done | with_reducible rfl)); (try simp only [Act.put, List.setIfInBounds_toArray, List.set_cons_zero, List.set_cons_succ])) | (refine wpAnyH_take (i := 3) (oi := ?_) (v := undef) ?_ (by kernel_rfl) ?_ ?_ ?_ ?_ (by assumption) ?_; rotate_left 1; (simp only [List.getElem?_toArray, List.getElem?_cons_zero, List.getElem?_cons_succ]; rfl); kernel_rfl; kernel_rfl; exact fun _ _ _ h => h; exact Or.inr ⟨by rfl, rfl⟩; (try simp only [Act.put, List.setIfInBounds_toArray, List.set_cons_zero, List.set_cons_succ])))
          (first | (refine wpAnyH_take (i := 4) (oi := ?_) (v := ?_) ?_ (by kernel_rfl) ?_ ?_ ?_ ?_ (by assumption) ?_; rotate_left 2; (simp only [List.getElem?_toArray, List.getElem?_cons_zero, List.getElem?_cons_succ]; rfl); kernel_rfl; kernel_rfl; exact fun _ _ _ h => h; (refine Or.inl ⟨by rfl, ?_⟩; intro w hSw; (try dsimp only at hSw); go_simp; (first | done | with_reducible rfl)); (try simp only [Act.put, List.setIfInBounds_toArray, List.set_cons_zero, List.set_cons_succ])) | (refine wpAnyH_take (i := 4) (oi := ?_) (v := undef) ?_ (by kernel_rfl) ?_ ?_ ?_ ?_ (by assumption) ?_; rotate_left 1; (simp only [List.getElem?_toArray, List.getElem?_cons_zero, List.getElem?_cons_succ]; rfl); kernel_rfl; kernel_rfl; exact fun _ _ _ h => h; exact Or.inr ⟨by rfl, rfl⟩; (try simp only [Act.put, List.setIfInBounds_toArray, List.set_cons_zero, List.set_cons_succ])))
          (first | (refine wpAnyH_take (i := 5) (oi := ?_) (v := ?_) ?_ (by kernel_rfl) ?_ ?_ ?_ ?_ (by assumption) ?_; rotate_left 2; (simp only [List.getElem?_toArray, List.getElem?_cons_zero, List.getElem?_cons_succ]; rfl); kernel_rfl; kernel_rfl; exact fun _ _ _ h => h; (refine Or.inl ⟨by rfl, ?_⟩; intro w hSw; (try dsimp only at hSw); go_simp; (first | done | with_reducible rfl)); (try simp only [Act.put, List.setIfInBounds_toArray, List.set_cons_zero, List.set_cons_succ])) | (refine wpAnyH_take (i := 5) (oi := ?_) (v := undef) ?_ (by kernel_rfl) ?_ ?_ ?_ ?_ (by assumption) ?_; rotate_left 1; (simp only [List.getElem?_toArray, List.getElem?_cons_zero, List.getElem?_cons_succ]; rfl); kernel_rfl; kernel_rfl; exact fun _ _ _ h => h; exact Or.inr ⟨by rfl, rfl⟩; (try simp only [Act.put, List.setIfInBounds_toArray, List.set_cons_zero, List.set_cons_succ])))
          (refine wpAnyH_ready (rs := [6]) (by kernel_rfl) (by simp) ?_; refine AllReadyH.cons (o := ?_) ?_ (fun K hK => ?_) AllReadyH.nil; rotate_left 1; (simp only [List.getElem?_toArray, List.getElem?_cons_zero, List.getElem?_cons_succ]; rfl); go_simp)
          refine (HP10.out _).mono ?_
          rintro e w' ⟨rfl, hw⟩
          rw [hw]
          clear hw w'
          clear hHeld
          (refine hK.out _ _ ?_ (fun hHeld => ?_); exact HSK.out _ (HMO.out _ (below_drew (Below.refl _ _))); clear hK K)
          (first | (refine wpAnyH_take (i := 7) (oi := ?_) (v := ?_) ?_ (by kernel_rfl) ?_ ?_ ?_ ?_ (by assumption) ?_; rotate_left 2; (simp only [List.getElem?_toArray, List.getElem?_cons_zero, List.getElem?_cons_succ]; rfl); kernel_rfl; kernel_rfl; exact fun _ _ _ h => h; (refine Or.inl ⟨by rfl, ?_⟩; intro w hSw; (try dsimp only at hSw); go_simp; (first | done | with_reducible rfl)); (try simp only [Act.put, List.setIfInBounds_toArray, List.set_cons_zero, List.set_cons_succ])) | (refine wpAnyH_take (i := 7) (oi := ?_) (v := undef) ?_ (by kernel_rfl) ?_ ?_ ?_ ?_ (by assumption) ?_; rotate_left 1; (simp only [List.getElem?_toArray, List.getElem?_cons_zero, List.getElem?_cons_succ]; rfl); kernel_rfl; kernel_rfl; exact fun _ _ _ h => h; exact Or.inr ⟨by rfl, rfl⟩; (try simp only [Act.put, List.setIfInBounds_toArray, List.set_cons_zero, List.set_cons_succ])))
          (refine wpAnyH_ready (rs := [8]) (by kernel_rfl) (by simp) ?_; refine AllReadyH.cons (o := ?_) ?_ (fun K hK => ?_) AllReadyH.nil; rotate_left 1; (simp only [List.getElem?_toArray, List.getElem?_cons_zero, List.getElem?_cons_succ]; rfl); go_simp)
          refine (HCM.out _ (below_drew (Below.refl _ _))).mono ?_
          rintro e w3 ⟨A', c', rfl, hrec, hnc, hb3⟩
          have HB3 := Lib.hid (show Below W1.heap.size W1 w3 from below_next (below_drew (Below.refl _ _)) hb3)
          have hN := HN.out.upto HB3.out (by omega)
          have HN3 := Lib.hid hN
          have z0 := hN.k
          have z1 := hN.s
          have z2 := hN.p
          have z3 := hN.v
          have z4 := hN.l
          have u0 := hN.f 0
          have u1 := hN.f 1
          have u2 := hN.f 2
          have u3 := hN.f 3
          have u4 := hN.f 4
          have HRC := Lib.hid hrec
          have HNA := Lib.hid (show NewAt (wr.heap.size + 2) A' from fun ad h => Nat.le_trans (by have := (show Below W1.heap.size W1 _ from (below_drew (Below.refl _ _))).size; omega) (hnc.1 ad h))
          have hle := hnc.2
          clear hrec hnc hb3 hN
          clear hHeld
          (refine hK.out _ _ ?_ (fun hHeld => ?_); exact HSK.out _ (HMO.out _ HB3.out); clear hK K)
          (first | (refine wpAnyH_take (i := 9) (oi := ?_) (v := ?_) ?_ (by kernel_rfl) ?_ ?_ ?_ ?_ (by assumption) ?_; rotate_left 2; (simp only [List.getElem?_toArray, List.getElem?_cons_zero, List.getElem?_cons_succ]; rfl); kernel_rfl; kernel_rfl; exact fun _ _ _ h => h; (refine Or.inl ⟨by rfl, ?_⟩; intro w hSw; (try dsimp only at hSw); go_simp; (first | done | with_reducible rfl)); (try simp only [Act.put, List.setIfInBounds_toArray, List.set_cons_zero, List.set_cons_succ])) | (refine wpAnyH_take (i := 9) (oi := ?_) (v := undef) ?_ (by kernel_rfl) ?_ ?_ ?_ ?_ (by assumption) ?_; rotate_left 1; (simp only [List.getElem?_toArray, List.getElem?_cons_zero, List.getElem?_cons_succ]; rfl); kernel_rfl; kernel_rfl; exact fun _ _ _ h => h; exact Or.inr ⟨by rfl, rfl⟩; (try simp only [Act.put, List.setIfInBounds_toArray, List.set_cons_zero, List.set_cons_succ])))
          (first | (refine wpAnyH_take (i := 10) (oi := ?_) (v := ?_) ?_ (by kernel_rfl) ?_ ?_ ?_ ?_ (by assumption) ?_; rotate_left 2; (simp only [List.getElem?_toArray, List.getElem?_cons_zero, List.getElem?_cons_succ]; rfl); kernel_rfl; kernel_rfl; exact fun _ _ _ h => h; (refine Or.inl ⟨by rfl, ?_⟩; intro w hSw; (try dsimp only at hSw); go_simp; (first | done | with_reducible rfl)); (try simp only [Act.put, List.setIfInBounds_toArray, List.set_cons_zero, List.set_cons_succ])) | (refine wpAnyH_take (i := 10) (oi := ?_) (v := undef) ?_ (by kernel_rfl) ?_ ?_ ?_ ?_ (by assumption) ?_; rotate_left 1; (simp only [List.getElem?_toArray, List.getElem?_cons_zero, List.getElem?_cons_succ]; rfl); kernel_rfl; kernel_rfl; exact fun _ _ _ h => h; exact Or.inr ⟨by rfl, rfl⟩; (try simp only [Act.put, List.setIfInBounds_toArray, List.set_cons_zero, List.set_cons_succ])))
          (first | (refine wpAnyH_take (i := 11) (oi := ?_) (v := ?_) ?_ (by kernel_rfl) ?_ ?_ ?_ ?_ (by assumption) ?_; rotate_left 2; (simp only [List.getElem?_toArray, List.getElem?_cons_zero, List.getElem?_cons_succ]; rfl); kernel_rfl; kernel_rfl; exact fun _ _ _ h => h; (refine Or.inl ⟨by rfl, ?_⟩; intro w hSw; (try dsimp only at hSw); go_simp; (first | done | with_reducible rfl)); (try simp only [Act.put, List.setIfInBounds_toArray, List.set_cons_zero, List.set_cons_succ])) | (refine wpAnyH_take (i := 11) (oi := ?_) (v := undef) ?_ (by kernel_rfl) ?_ ?_ ?_ ?_ (by assumption) ?_; rotate_left 1; (simp only [List.getElem?_toArray, List.getElem?_cons_zero, List.getElem?_cons_succ]; rfl); kernel_rfl; kernel_rfl; exact fun _ _ _ h => h; exact Or.inr ⟨by rfl, rfl⟩; (try simp only [Act.put, List.setIfInBounds_toArray, List.set_cons_zero, List.set_cons_succ])))
          (refine wpAnyH_ready (rs := [12]) (by kernel_rfl) (by simp) ?_; refine AllReadyH.cons (o := ?_) ?_ (fun K hK => ?_) AllReadyH.nil; rotate_left 1; (simp only [List.getElem?_toArray, List.getElem?_cons_zero, List.getElem?_cons_succ]; rfl); go_simp)
          clear hHeld
          (refine hK.out _ _ ?_ (fun hHeld => ?_); exact HSK.out _ (below_set5 (HMO.out _ HB3.out) (Nat.le_refl _) _ _ _ _ _ _); clear hK K)
          (first | (refine wpAnyH_take (i := 13) (oi := ?_) (v := ?_) ?_ (by kernel_rfl) ?_ ?_ ?_ ?_ (by assumption) ?_; rotate_left 2; (simp only [List.getElem?_toArray, List.getElem?_cons_zero, List.getElem?_cons_succ]; rfl); kernel_rfl; kernel_rfl; exact fun _ _ _ h => h; (refine Or.inl ⟨by rfl, ?_⟩; intro w hSw; (try dsimp only at hSw); go_simp; (first | done | with_reducible rfl)); (try simp only [Act.put, List.setIfInBounds_toArray, List.set_cons_zero, List.set_cons_succ])) | (refine wpAnyH_take (i := 13) (oi := ?_) (v := undef) ?_ (by kernel_rfl) ?_ ?_ ?_ ?_ (by assumption) ?_; rotate_left 1; (simp only [List.getElem?_toArray, List.getElem?_cons_zero, List.getElem?_cons_succ]; rfl); kernel_rfl; kernel_rfl; exact fun _ _ _ h => h; exact Or.inr ⟨by rfl, rfl⟩; (try simp only [Act.put, List.setIfInBounds_toArray, List.set_cons_zero, List.set_cons_succ])))
          refine wpAnyH_done (by kernel_rfl) ?_ _
          clear hHeld
          obtain ⟨wc, hwc⟩ : ∃ wc, wc = ((((w3.setCell ⟨wr.heap.size + 1, 0, none⟩ (.string R'.key)).setCell ⟨wr.heap.size + 1, 1, none⟩ (.int .i64 R'.ls)).setCell ⟨wr.heap.size + 1, 2, none⟩ (.string R'.lp)).setCell ⟨wr.heap.size + 1, 3, none⟩ (.string R'.val)).setCell ⟨wr.heap.size + 1, 4, none⟩ (.slice A' R'.recs.length c') := ⟨_, rfl⟩
          have hbn : RowBox wc (wr.heap.size + 1) R' A' R'.recs.length c' := by rw [hwc]; exact HN3.out.set R' A' _ c'
          have hrec : RecsAt wc wc.heap.size A' R'.recs := by rw [hwc]; exact recs_set5 HRC.out HNA.out (by omega) _ _ _ _ _
          have hnw := HNA.out
          have hbc : Below (wr.heap.size + 1) W1 wc := by rw [hwc]; exact below_set5 (HMO.out _ HB3.out) (Nat.le_refl _) 0 _ _ _ _ _
          rw [← hwc]
          clear hwc HRC HNA z0 z1 z2 z3 z4 u0 u1 u2 u3 u4 c0 c1 c2 c3 c4 r0 r1 r2 r3
          have HRC := Lib.hid hrec
          have HBC := Lib.hid hbc
          have hrb := HWB.out.upto hbc (by omega)
          have HRB := Lib.hid hrb
          have HZB := Lib.hid (HWZ.out.upto hbc (by omega))
          have n0 := hbn.k
          have n1 := hbn.s
          have n2 := hbn.p
          have n3 := hbn.v
          have n4 := hbn.l
          have m0 := hrb.k
          have m1 := hrb.s
          have m2 := hrb.p
          have m3 := hrb.v
          have m4 := hrb.l
          have f0 := hrb.f 0
          have f1 := hrb.f 1
          have f2 := hrb.f 2
          have f3 := hrb.f 3
          have f4 := hrb.f 4
          have HNA := Lib.hid (show NewAt (w.heap.size + 2) A' from fun ad h => Nat.le_trans (by omega) (hnw ad h))
          have HBW := Lib.hid (show Below w.heap.size w wc from HB.out.trans ((HB1.out.mono (by omega)).trans (hbc.mono (by omega))))
          clear hrb hbn hrec hnw hbc
          by_cases e0 : ec = 0
          · have d0 : (ec == 0) = true := by simpa using e0
            have HNK := Lib.hid (show rowsM l (k + 1) = R' by rw [HSUC.out, HNX.out, if_pos e0])
            have HK1 := Lib.hid (rowsM_keep l (k + 1))
            rw [HNK.out] at HK1
            clear e0
            go_wp2
            go_roundw
            case rel => exact ⟨k + 1, A', c', by omega, by go_num, by rw [HNK.out]; exact HRB.out.set R' A' _ c', HZB.out.other (by omega) _ _ _ _ _, by rw [HNK.out]; exact ⟨⟨rfl, recs_set5 HRC.out HNA.out (by omega) _ _ _ _ _, HK1.out.sz.k, HK1.out.sz.p, HK1.out.sz.v⟩, hle⟩, HNA.out, below_set5 HBW.out (by omega) _ _ _ _ _ _⟩
            case measure => simp [intOf]; omega
          · have d0 : (ec == 0) = false := by simpa using e0
            have HNK := Lib.hid (show rowsM l (k + 1) = r by rw [HSUC.out, HNX.out, if_neg e0])
            have HIC := Lib.hid (show OpIn wc r As n cs from ⟨⟨HIN1.out.i.n, (HIN.out.i.l.below ((HB1.out).trans (HBC.out.mono (by omega)))).more (by have := HBC.out.size; omega), HIN1.out.i.k, HIN1.out.i.p, HIN1.out.i.v⟩, HIN1.out.c⟩)
            clear e0
            go_wp2
            go_roundw
            case rel => exact ⟨k + 1, As, cs, by omega, by go_num, by rw [HNK.out, ← HNE.out]; exact HRB.out, HZB.out, by rw [HNK.out, ← HNE.out]; exact HIC.out, HNW.out, HBW.out⟩
            case measure => simp [intOf]; omega
      · have HY := Lib.hid (show (R', ec) = undoOp (1 + pa) r by rw [HOP.out, if_neg (by decide), if_neg (by decide)])
        have HUN := Lib.hid (show Calls Tryd.prog 24 #[rV r As n cs, .int .i64 (1 + pa)] W1 (OpOut (R', ec) W1) by rw [HY.out]; exact undoFn_op r As n cs (1 + pa) W1 HIN1.out)
        go_wp2_with fail
        refine HUN.out.mono ?_
        rintro e w3 ⟨A', c', rfl, hrec, hnc, hb3⟩
        have HB3 := Lib.hid (show Below W1.heap.size W1 w3 from below_next (Below.refl _ _) hb3)
        have hN := HN.out.upto HB3.out (by omega)
        have HN3 := Lib.hid hN
        have z0 := hN.k
        have z1 := hN.s
        have z2 := hN.p
        have z3 := hN.v
        have z4 := hN.l
        have u0 := hN.f 0
        have u1 := hN.f 1
        have u2 := hN.f 2
        have u3 := hN.f 3
        have u4 := hN.f 4
        have HRC := Lib.hid hrec
        have HNA := Lib.hid (show NewAt (wr.heap.size + 2) A' from fun ad h => Nat.le_trans (by have := (show Below W1.heap.size W1 _ from (Below.refl _ _)).size; omega) (hnc.1 ad h))
        have hle := hnc.2
        clear hrec hnc hb3 hN
        go_upto_region 19 with fail
        obtain ⟨wc, hwc⟩ : ∃ wc, wc = ((((w3.setCell ⟨wr.heap.size + 1, 0, none⟩ (.string R'.key)).setCell ⟨wr.heap.size + 1, 1, none⟩ (.int .i64 R'.ls)).setCell ⟨wr.heap.size + 1, 2, none⟩ (.string R'.lp)).setCell ⟨wr.heap.size + 1, 3, none⟩ (.string R'.val)).setCell ⟨wr.heap.size + 1, 4, none⟩ (.slice A' R'.recs.length c') := ⟨_, rfl⟩
        have hbn : RowBox wc (wr.heap.size + 1) R' A' R'.recs.length c' := by rw [hwc]; exact HN3.out.set R' A' _ c'
        have hrec : RecsAt wc wc.heap.size A' R'.recs := by rw [hwc]; exact recs_set5 HRC.out HNA.out (by omega) _ _ _ _ _
        have hnw := HNA.out
        have hbc : Below (wr.heap.size + 1) W1 wc := by rw [hwc]; exact below_set5 (HMO.out _ HB3.out) (Nat.le_refl _) 0 _ _ _ _ _
        rw [← hwc]
        clear hwc HRC HNA z0 z1 z2 z3 z4 u0 u1 u2 u3 u4 c0 c1 c2 c3 c4 r0 r1 r2 r3
        have HRC := Lib.hid hrec
        have HBC := Lib.hid hbc
        have hrb := HWB.out.upto hbc (by omega)
        have HRB := Lib.hid hrb
        have HZB := Lib.hid (HWZ.out.upto hbc (by omega))
        have n0 := hbn.k
        have n1 := hbn.s
        have n2 := hbn.p
        have n3 := hbn.v
        have n4 := hbn.l
        have m0 := hrb.k
        have m1 := hrb.s
        have m2 := hrb.p
        have m3 := hrb.v
        have m4 := hrb.l
        have f0 := hrb.f 0
        have f1 := hrb.f 1
        have f2 := hrb.f 2
        have f3 := hrb.f 3
        have f4 := hrb.f 4
        have HNA := Lib.hid (show NewAt (w.heap.size + 2) A' from fun ad h => Nat.le_trans (by omega) (hnw ad h))
        have HBW := Lib.hid (show Below w.heap.size w wc from HB.out.trans ((HB1.out.mono (by omega)).trans (hbc.mono (by omega))))
        clear hrb hbn hrec hnw hbc
        by_cases e0 : ec = 0
        · have d0 : (ec == 0) = true := by simpa using e0
          have HNK := Lib.hid (show rowsM l (k + 1) = R' by rw [HSUC.out, HNX.out, if_pos e0])
          have HK1 := Lib.hid (rowsM_keep l (k + 1))
          rw [HNK.out] at HK1
          clear e0
          go_wp2
          go_roundw
          case rel => exact ⟨k + 1, A', c', by omega, by go_num, by rw [HNK.out]; exact HRB.out.set R' A' _ c', HZB.out.other (by omega) _ _ _ _ _, by rw [HNK.out]; exact ⟨⟨rfl, recs_set5 HRC.out HNA.out (by omega) _ _ _ _ _, HK1.out.sz.k, HK1.out.sz.p, HK1.out.sz.v⟩, hle⟩, HNA.out, below_set5 HBW.out (by omega) _ _ _ _ _ _⟩
          case measure => simp [intOf]; omega
        · have d0 : (ec == 0) = false := by simpa using e0
          have HNK := Lib.hid (show rowsM l (k + 1) = r by rw [HSUC.out, HNX.out, if_neg e0])
          have HIC := Lib.hid (show OpIn wc r As n cs from ⟨⟨HIN1.out.i.n, (HIN.out.i.l.below ((HB1.out).trans (HBC.out.mono (by omega)))).more (by have := HBC.out.size; omega), HIN1.out.i.k, HIN1.out.i.p, HIN1.out.i.v⟩, HIN1.out.c⟩)
          clear e0
          go_wp2
          go_roundw
          case rel => exact ⟨k + 1, As, cs, by omega, by go_num, by rw [HNK.out, ← HNE.out]; exact HRB.out, HZB.out, by rw [HNK.out, ← HNE.out]; exact HIC.out, HNW.out, HBW.out⟩
          case measure => simp [intOf]; omega
    · have hke : k = min l.length 40 := by omega
      have y0 := hbx.k
      have y1 := hbx.s
      have y2 := hbx.p
      have y3 := hbx.v
      have y4 := hbx.l
      have z0 := hbz.k
      have z1 := hbz.s
      have z2 := hbz.p
      have z3 := hbz.v
      have z4 := hbz.l
      have u0 := hbz.f 0
      have u1 := hbz.f 1
      have u2 := hbz.f 2
      have u3 := hbz.f 3
      have u4 := hbz.f 4
      have HKE := Lib.hid hke
      have HFI := Lib.hid (show ∀ v0 v1 v2 v3 v4, OpIn (set5 wr w.heap.size 0 v0 v1 v2 v3 v4) (rowsM l k) As (rowsM l k).recs.length cs ∧ Below w.heap.size w (set5 wr w.heap.size 0 v0 v1 v2 v3 v4) from fun v0 v1 v2 v3 v4 => ⟨⟨⟨hin.i.n, recs_set5 hin.i.l hnew (by omega) _ _ _ _ _, hin.i.k, hin.i.p, hin.i.v⟩, hin.c⟩, below_set5 hb (Nat.le_refl _) _ _ _ _ _ _⟩)
      obtain ⟨r, hr⟩ : ∃ r, r = rowsM l k := ⟨_, rfl⟩
      rw [← hr] at HFI y0 y1 y2 y3 y4
      have HRE := Lib.hid hr
      clear hbx hbz hin hnew hb hke hr hkeep
      by_cases hq : k < l.length
      · have j2 : decide ((k : Int) < (l.length : Int)) = true := decide_eq_true (by omega)
        have j3 : decide ((k : Int) < 40) = false := decide_eq_false (by omega)
        go_wp2
        obtain ⟨V, hV⟩ : ∃ V, V = ((((wr.setCell ⟨w.heap.size, 0, none⟩ (.string r.key)).setCell ⟨w.heap.size, 1, none⟩ (.int .i64 r.ls)).setCell ⟨w.heap.size, 2, none⟩ (.string r.lp)).setCell ⟨w.heap.size, 3, none⟩ (.string r.val)).setCell ⟨w.heap.size, 4, none⟩ (.slice As r.recs.length cs) := ⟨_, rfl⟩
        have hvb : RowBox V w.heap.size r As r.recs.length cs := by rw [hV]; exact HBZ.out.set r As _ cs
        have v0 := hvb.k
        have v1 := hvb.s
        have v2 := hvb.p
        have v3 := hvb.v
        have v4 := hvb.l
        have hfi : OpIn V r As r.recs.length cs ∧ Below w.heap.size w V := by rw [hV]; exact HFI.out _ _ _ _ _
        rw [← hV]
        clear hV
        refine bodyPost_ret (v := rV r As r.recs.length cs) (by simp [results, Tryd.results15, go_sem, v0, v1, v2, v3, v4]) rfl ?_
        rw [← HKE.out, ← HRE.out]
        exact ⟨As, cs, rfl, hfi.1, hfi.2⟩
      · have j2 : decide ((k : Int) < (l.length : Int)) = false := decide_eq_false (by omega)
        go_wp2
        obtain ⟨V, hV⟩ : ∃ V, V = ((((wr.setCell ⟨w.heap.size, 0, none⟩ (.string r.key)).setCell ⟨w.heap.size, 1, none⟩ (.int .i64 r.ls)).setCell ⟨w.heap.size, 2, none⟩ (.string r.lp)).setCell ⟨w.heap.size, 3, none⟩ (.string r.val)).setCell ⟨w.heap.size, 4, none⟩ (.slice As r.recs.length cs) := ⟨_, rfl⟩
        have hvb : RowBox V w.heap.size r As r.recs.length cs := by rw [hV]; exact HBZ.out.set r As _ cs
        have v0 := hvb.k
        have v1 := hvb.s
        have v2 := hvb.p
        have v3 := hvb.v
        have v4 := hvb.l
        have hfi : OpIn V r As r.recs.length cs ∧ Below w.heap.size w V := by rw [hV]; exact HFI.out _ _ _ _ _
        rw [← hV]
        clear hV
        refine bodyPost_ret (v := rV r As r.recs.length cs) (by simp [results, Tryd.results15, go_sem, v0, v1, v2, v3, v4]) rfl ?_
        rw [← HKE.out, ← HRE.out]
        exact ⟨As, cs, rfl, hfi.1, hfi.2⟩
end Go.Proofs.YtambkjnhfejfaabDoor
