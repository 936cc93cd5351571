/-
  Contracts of functions of the program and words for memory, several texts in one: KRaw, KRowPure. Conditions: those stated with each.
-/
import Derived.Test.YtambkjnhfejfaabDoorG01
import Derived.Test.YtambkjnhfejfaabDoorG13
import Derived.Test.YtambkjnhfejfaabDoorG24
import Derived.Test.YtambkjnhfejfaabDoorG29
import Derived.Deep.DeepCutAuto
namespace Go.Proofs.YtambkjnhfejfaabDoor
open Go.ChangeShapes Go.WideShapes Go.ChangeAt Go.RowKit Go.Deep

/-- Some numbers. -/
structure RawM where
  kind : Int
  a : Int
  b : Int
  c : Int
instance : Inhabited RawM := ⟨⟨0, 0, 0, 0⟩⟩
structure RawAt (w : World) (b o : Nat) (r : RawM) : Prop where
  k : w.cell? ⟨b, o, none⟩ = some (.int .i64 r.kind)
  a : w.cell? ⟨b, o + 1, none⟩ = some (.int .i64 r.a)
  bb : w.cell? ⟨b, o + 2, none⟩ = some (.int .i64 r.b)
  c : w.cell? ⟨b, o + 3, none⟩ = some (.int .i64 r.c)
  ok : i64 r.kind ∧ i64 r.a ∧ i64 r.b ∧ i64 r.c
abbrev RawsAt (w : World) (P : Nat → Prop) (A : Option Addr) (l : List RawM) : Prop := SeqAt P 4 4398046511104 (RawAt w) A l
theorem RawAt.keep {w w' : World} {b o : Nat} {x : RawM} (h : RawAt w b o x) (hk : ∀ k, w'.cell? ⟨b, k, none⟩ = w.cell? ⟨b, k, none⟩) : RawAt w' b o x := ⟨(hk _).trans h.k, (hk _).trans h.a, (hk _).trans h.bb, (hk _).trans h.c, h.ok⟩
theorem SeqAt.raws {w w' : World} {P P' : Nat → Prop} {A : Option Addr} {l : List RawM} (h : RawsAt w P A l) (hP : ∀ b, P b → P' b) (hk : ∀ b k, P b → w'.cell? ⟨b, k, none⟩ = w.cell? ⟨b, k, none⟩) : RawsAt w' P' A l :=
  SeqAt.mono h hP fun b _ _ _ hb hx => hx.keep fun k => hk b k hb
/-- The value of a write that the i-th act makes. -/
def vS (i : Nat) : ByteArray := (⟨#[118]⟩ : ByteArray) ++ itoaS i
def actOf (clients : Int) (i : Nat) (r : RawM) : ActM :=
  if pickM r.kind 30 < 5 then actB 1 (pickM r.c clients)
  else if pickM r.kind 30 < 9 then ⟨2, pickM r.c clients, keyOf r.a, ⟨#[]⟩⟩
  else if pickM r.kind 30 < 15 then ⟨3, pickM r.c clients, keyOf r.a, vS i⟩
  else if pickM r.kind 30 < 27 then actB 4 (pickM r.c clients)
  else if pickM r.kind 30 = 27 then actB 5 (pickM r.c clients)
  else ⟨6, pickM r.c clients, keyOf r.a, ⟨#[]⟩⟩
/-- The first k acts. -/
def actsM (clients : Int) (l : List RawM) (k : Nat) : List ActM := (List.range k).map fun i => actOf clients i (l.getD i default)
theorem actsM_succ (clients : Int) (l : List RawM) (k : Nat) : actsM clients l (k + 1) = actsM clients l k ++ [actOf clients k (l.getD k default)] := by
  rw [actsM, actsM, List.range_succ, List.map_append]; rfl
theorem actsM_len (clients : Int) (l : List RawM) (k : Nat) : (actsM clients l k).length = k := by simp [actsM]
theorem vS_size {i : Nat} (h : i < 100) : (vS i).size ≤ 3 := by
  have h1 := itoa_size i h
  have h2 : (⟨#[118]⟩ : ByteArray).size = 1 := rfl
  simp only [vS, ByteArray.size_append]
  omega
theorem actOf_ok {clients : Int} {i : Nat} (h : i < 100) (r : RawM) : ActOk (actOf clients i r) := by
  have h1 := keys4_size _ (keyOf_mem r.a)
  have h2 := vS_size h
  have e : (⟨#[]⟩ : ByteArray).size = 0 := rfl
  have hk : (keyOf r.a).size ≤ maxLen := by simp only [maxLen]; omega
  have hv : (vS i).size ≤ maxLen := by simp only [maxLen]; omega
  have hz : (⟨#[]⟩ : ByteArray).size ≤ maxLen := by rw [e]; exact Nat.zero_le _
  unfold actOf
  repeat' split
  all_goals first | exact ⟨hz, hz⟩ | exact ⟨hk, hz⟩ | exact ⟨hk, hv⟩
theorem actsM_ok {clients : Int} {l : List RawM} {k : Nat} (h : k ≤ 100) : ∀ a ∈ actsM clients l k, ActOk a := by
  intro a ha
  obtain ⟨i, hi, rfl⟩ := List.mem_map.1 ha
  exact actOf_ok (by have := List.mem_range.1 hi; omega) _

theorem cells_raw : Tryd.prog.cellsOf 89 = 4 := by kernel_rfl
theorem bytes_raw : Tryd.prog.bytesOf 89 = 32 := by kernel_rfl
theorem cells_rawsS : Tryd.prog.cellsOf 22 = 1 := by kernel_rfl
section
variable {H : Type} {enc : TypeId × Value → H} {W : World}
set_option maxRecDepth 100000 in
theorem open_rawAt {n b o : Nat} {cs : List Value} {x : DataW H × List MemPlace} (hc : W.cells? 0 ⟨b, o, none⟩ 4 = some cs) (h : DataW.trod enc Tryd.prog W 0 (fun _ => true) true n 89 cs = some x) : ∃ r : RawM, RawAt W b o r := by
  obtain ⟨_, hcl, hat⟩ := World.cells?_some hc
  obtain ⟨ys, n', _, hx, hlen, hyl, hg⟩ := DataW.trod_struct Tryd.underlying89 h
  match cs, hcl with
  | [v0, v1, v2, v3], _ =>
    have f0 : DataW.trod enc Tryd.prog W 0 (fun _ => true) true n' 3 (([v0, v1, v2, v3].drop 0).take (Tryd.prog.cellsOf 3)) = ys[0]? := hg 0 _ rfl
    have f1 : DataW.trod enc Tryd.prog W 0 (fun _ => true) true n' 3 (([v0, v1, v2, v3].drop 1).take (Tryd.prog.cellsOf 3)) = ys[1]? := hg 1 _ rfl
    have f2 : DataW.trod enc Tryd.prog W 0 (fun _ => true) true n' 3 (([v0, v1, v2, v3].drop 2).take (Tryd.prog.cellsOf 3)) = ys[2]? := hg 2 _ rfl
    have f3 : DataW.trod enc Tryd.prog W 0 (fun _ => true) true n' 3 (([v0, v1, v2, v3].drop 3).take (Tryd.prog.cellsOf 3)) = ys[3]? := hg 3 _ rfl
    rw [cells_int] at f0 f1 f2 f3
    match ys, hyl with
    | [y0, y1, y2, y3], _ =>
      simp only [List.drop_zero, List.take_succ_cons, List.take_zero, List.drop_succ_cons, List.getElem?_cons_zero, List.getElem?_cons_succ] at f0 f1 f2 f3
      obtain ⟨p, e0, _, w0⟩ := DataW.trod_int Tryd.underlying3 f0
      obtain ⟨s, e1, _, w1⟩ := DataW.trod_int Tryd.underlying3 f1
      obtain ⟨m, e2, _, w2⟩ := DataW.trod_int Tryd.underlying3 f2
      obtain ⟨a, e3, _, w3⟩ := DataW.trod_int Tryd.underlying3 f3
      simp only [List.cons.injEq, and_true] at e0 e1 e2 e3
      subst e0 e1 e2 e3
      exact ⟨⟨p, s, m, a⟩, by simpa [Addr.add] using hat 0 (by omega), by simpa [Addr.add] using hat 1 (by omega), by simpa [Addr.add] using hat 2 (by omega), by simpa [Addr.add] using hat 3 (by omega), i64_of_wf w0, i64_of_wf w1, i64_of_wf w2, i64_of_wf w3⟩
set_option maxRecDepth 100000 in
/-- A slice of raw numbers that came in. -/
theorem open_raws {r0 : Reach} {base : Nat} {v : Value} {d : DataW H} {p : List MemPlace} (hv : Value.okWide Tryd.prog W r0 base 22 v) (h : DataW.Trod enc Tryd.prog W 0 (fun _ => true) true 22 v d p)
    (hz : ∀ k ∈ d.weights Tryd.prog 22, k ≤ reachBytes) : ∃ (l : List RawM) (A : Option Addr) (c : Nat), v = .slice A l.length c ∧ RawsAt W (· < W.heap.size) A l := by
  obtain ⟨fuel, hf⟩ := h
  obtain ⟨A, n, c, rfl⟩ := okWide_slice Tryd.underlying22 hv
  obtain ⟨l, hl, hr, hcap⟩ := open_seq (E := RawAt W) (sz := 4) (by_ := 32) (mx := 4398046511104) Tryd.underlying22 cells_raw (by omega) bytes_raw (fun n h => by unfold reachBytes at h; omega) hf hz (fun b o n' cs y hc ht _ => open_rawAt hc ht)
  exact ⟨l, A, c, by rw [hl], hr⟩
end
end Go.Proofs.YtambkjnhfejfaabDoor

namespace Go.Proofs.YtambkjnhfejfaabDoor
open Go.RowKit

def rowKey : ByteArray := ⟨#[114, 111, 119]⟩
/-- The Start that is committed. -/
def rowSt (x : RawM) (r : RowM) : Int := if r.ls = 0 then 1 + pickM x.a 30 else r.ls
def rowOp (x : RawM) (r : RowM) : RowM × Int :=
  if pickM x.kind 5 < 2 then lockOp (1 + pickM x.a 30) (keyOf x.b) (vS (pickM x.c 9).toNat) r
  else if pickM x.kind 5 < 4 then commitOp (rowSt x r) (rowSt x r + 1 + pickM x.b 10) r
  else undoOp (1 + pickM x.a 30) r
def rowNext (x : RawM) (r : RowM) : RowM := if (rowOp x r).2 = 0 then (rowOp x r).1 else r
/-- The row behind the first k of the numbers. -/
def rowsM (l : List RawM) : Nat → RowM
  | 0 => freshRow rowKey
  | k + 1 => rowNext (l.getD k default) (rowsM l k)

/-- What the row keeps. -/
structure RowKeep (k : Nat) (r : RowM) : Prop where
  ok : r.ok = true
  key : r.key = rowKey
  sz : RowOk r
  ls : 0 ≤ r.ls ∧ r.ls ≤ 30
  recs : ∀ y ∈ r.recs, y.s ≤ 30 ∧ y.c ≤ 41
  len : r.recs.length ≤ k
theorem lock_fst {st : Int} {pk pv : ByteArray} {r : RowM} (e : (lockOp st pk pv r).2 = 0) : lockE r.key r.ls r.lp r.val r.recs st pk pv = 0 ∧ (lockOp st pk pv r).1 = ⟨r.key, st, pk, pv, r.recs⟩ := by
  unfold lockOp at e ⊢
  by_cases h : lockE r.key r.ls r.lp r.val r.recs st pk pv = 0
  · rw [if_pos h]; exact ⟨h, rfl⟩
  · rw [if_neg h] at e; exact absurd e h
theorem commit_fst {st cm : Int} {r : RowM} (e : (commitOp st cm r).2 = 0) : commitE r.key r.ls r.lp r.val r.recs st cm = 0 ∧ (commitOp st cm r).1 = ⟨r.key, 0, emptyS, emptyS, endRec r.recs ⟨st, cm, r.val⟩⟩ := by
  unfold commitOp at e ⊢
  by_cases h : commitE r.key r.ls r.lp r.val r.recs st cm = 0
  · rw [if_pos h]; exact ⟨h, rfl⟩
  · rw [if_neg h] at e; exact absurd e h
theorem undo_fst {st : Int} {r : RowM} (e : (undoOp st r).2 = 0) : undoE r.key r.ls r.lp r.val r.recs st = 0 ∧ (undoOp st r).1 = undoneR st r := by
  unfold undoOp at e ⊢
  by_cases h : undoE r.key r.ls r.lp r.val r.recs st = 0
  · rw [if_pos h]; exact ⟨h, rfl⟩
  · rw [if_neg h] at e; exact absurd e h
theorem vS9 (n : Int) : (vS (pickM n 9).toNat).size ≤ 3 := vS_size (by have := pick_bd n (show (0 : Int) < 9 by decide); omega)
theorem end_keep {l : List RecM} {s c : Int} {v : ByteArray} {k : Nat} (h : ∀ y ∈ l, y.s ≤ 30 ∧ y.c ≤ 41) (hl : l.length ≤ k) (hs : s ≤ 30) (hc : c ≤ 41) : (∀ y ∈ endRec l ⟨s, c, v⟩, y.s ≤ 30 ∧ y.c ≤ 41) ∧ (endRec l ⟨s, c, v⟩).length ≤ k + 1 := by
  refine ⟨fun y hy => ?_, Nat.le_trans (endRec_len l _) (by omega)⟩
  rcases mem_endRec.1 hy with rfl | ⟨hy, _⟩
  · exact ⟨hs, hc⟩
  · exact h y hy
theorem rowSt_bd {x : RawM} {r : RowM} (h : 0 ≤ r.ls ∧ r.ls ≤ 30) : 1 ≤ rowSt x r ∧ rowSt x r ≤ 30 := by
  have := pick_bd x.a (show (0 : Int) < 30 by decide)
  unfold rowSt
  split <;> omega
theorem rowNext_keep {k : Nat} {r : RowM} (x : RawM) (h : RowKeep k r) : RowKeep (k + 1) (rowNext x r) := by
  unfold rowNext
  split
  · rename_i e
    have ha := pick_bd x.a (show (0 : Int) < 30 by decide)
    have hb := pick_bd x.b (show (0 : Int) < 10 by decide)
    have hs := rowSt_bd (x := x) h.ls
    unfold rowOp at e ⊢
    by_cases h2 : pickM x.kind 5 < 2
    · rw [if_pos h2] at e ⊢
      have hg := lockOp_good _ _ _ r h.ok e
      have hk := keys4_size _ (keyOf_mem x.b)
      have hv := vS9 x.c
      have ho := lockOp_ok h.sz (show i64 (1 + pickM x.a 30) by unfold i64; omega) (show (keyOf x.b).size ≤ maxLen by simp only [maxLen]; omega) (show (vS (pickM x.c 9).toNat).size ≤ maxLen by simp only [maxLen]; omega) e
      have hf := (lock_fst e).2
      refine ⟨hg.1, hg.2.trans h.key, ho, ?_, ?_, ?_⟩
      · rw [hf]; exact ⟨by show (0 : Int) ≤ 1 + _; omega, by show 1 + pickM x.a 30 ≤ 30; omega⟩
      · rw [hf]; exact h.recs
      · rw [hf]; exact Nat.le_succ_of_le h.len
    · rw [if_neg h2] at e ⊢
      by_cases h4 : pickM x.kind 5 < 4
      · rw [if_pos h4] at e ⊢
        have hg := commitOp_good _ _ r h.ok e
        have ho := commitOp_ok h.sz e
        have hf := (commit_fst e).2
        have hr := end_keep (v := r.val) h.recs h.len hs.2 (show rowSt x r + 1 + pickM x.b 10 ≤ 41 by omega)
        refine ⟨hg.1, hg.2.trans h.key, ho, ?_, ?_, ?_⟩
        · rw [hf]; exact ⟨Int.le_refl 0, by show (0 : Int) ≤ 30; omega⟩
        · rw [hf]; exact hr.1
        · rw [hf]; exact hr.2
      · rw [if_neg h4] at e ⊢
        have hg := undoOp_good _ r h.ok e
        have ho := undoOp_ok h.sz e
        have hf := (undo_fst e).2
        have hr := end_keep (v := emptyS) h.recs h.len (show 1 + pickM x.a 30 ≤ 30 by omega) (show (0 : Int) ≤ 41 by omega)
        refine ⟨hg.1, hg.2.trans h.key, ho, ?_, ?_, ?_⟩
        · rw [hf]; unfold undoneR
          split
          · exact h.ls
          · split
            · exact ⟨Int.le_refl 0, by show (0 : Int) ≤ 30; omega⟩
            · exact h.ls
        · rw [hf]; unfold undoneR
          split
          · exact h.recs
          · split
            · exact hr.1
            · exact hr.1
        · rw [hf]; unfold undoneR
          split
          · exact Nat.le_succ_of_le h.len
          · split
            · exact hr.2
            · exact hr.2
  · exact ⟨h.ok, h.key, h.sz, h.ls, h.recs, Nat.le_succ_of_le h.len⟩
theorem rowsM_keep (l : List RawM) : ∀ k, RowKeep k (rowsM l k)
  | 0 => ⟨fresh_valid (by decide +kernel), rfl, fresh_ok (by decide), ⟨Int.le_refl 0, by show (0 : Int) ≤ 30; omega⟩, fun _ h => (by cases h), Nat.le_refl 0⟩
  | k + 1 => rowNext_keep _ (rowsM_keep l k)
end Go.Proofs.YtambkjnhfejfaabDoor
