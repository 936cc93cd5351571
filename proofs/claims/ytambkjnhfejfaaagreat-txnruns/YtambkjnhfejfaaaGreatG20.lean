/-
  Contracts of functions of the program and words for memory, several texts in one: UndoAll, TOps, RMem, RRow, TOpFn, TChange0. Conditions: those stated with each.
-/
import Derived.Test.YtambkjnhfejfaaaGreatG14
import Derived.Test.YtambkjnhfejfaaaGreatG19
namespace Go.Proofs.YtambkjnhfejfaaaGreat
open Go.RowKit
set_option linter.unusedVariables false
structure UGone (key : ByteArray) (ls : Int) (lp val : ByteArray) (l : List RecM) (st : Int) : Prop where
 t : rowB key ls lp val l = true
 t2 : inB st 1 1099511627776 = true
 t4 : stOf ls st l = 3
structure UHeld (key : ByteArray) (ls : Int) (lp val : ByteArray) (l : List RecM) (st : Int) : Prop where
 t : rowB key ls lp val l = true
 t2 : inB st 1 1099511627776 = true
 t6 : ls = st
structure UNew (key : ByteArray) (ls : Int) (lp val : ByteArray) (l : List RecM) (st : Int) : Prop where
 t : rowB key ls lp val l = true
 t2 : inB st 1 1099511627776 = true
 t3 : stOf ls st l = 0
 t6 : ¬ ls = st
 t7 : ¬ roomOf ls ≤ (l.length : Int)
theorem undo_cases {key : ByteArray} {ls : Int} {lp val : ByteArray} {l : List RecM} {st : Int} (h : undoE key ls lp val l st = 0) : UGone key ls lp val l st ∨ UHeld key ls lp val l st ∨ UNew key ls lp val l st := by
 unfold undoE at h
 split at h
 ·omega
 rename_i t
 split at h
 ·omega
 rename_i t2
 have t' : rowB key ls lp val l = true := by simpa using t
 have t2' : inB st 1 1099511627776 = true := by simpa using t2
 split at h
 ·omega
 rename_i t3
 split at h
 ·rename_i t4; exact .inl ⟨t', t2', t4⟩
 rename_i t4
 split at h
 ·rename_i t5; exact .inr (.inl ⟨t', t2', t5⟩)
 rename_i t5
 split at h
 ·omega
 rename_i t6
 refine .inr (.inr ⟨t', t2', ?_, t5, t6⟩)
 rcases stOf_cases ls st l with h | h | h | h
 ·exact h
 ·exact absurd (stOf_one.1 h) t5
 ·exact absurd h t3
 ·exact absurd h t4
section
variable (key lp val : ByteArray) (ls : Int) (A : Option Addr) (n c : Nat) (l : List RecM) (st : Int) (w : World)
theorem undoFn_gone (hi : RowIn w key lp val A n l) (hcap : n ≤ c) (h : UGone key ls lp val l st) : Calls Tryz.prog 87 #[rowV key ls lp val A n c, .int .i64 st] w (RowOut2 key ls lp val l 0 w) :=
 undo_gone key lp val ls A n c l st w hi h.t h.t2 (by rw [h.t4]; rfl) (by rw [h.t4]; rfl)
theorem undoRef_gone (hi : RowIn w key lp val A n l) (hcap : n ≤ c) (h : UGone key ls lp val l st) : Calls Tryz.prog 62 #[rowV key ls lp val A n c, .int .i64 st] w (RowOut2 key ls lp val l 0 w) :=
 undone_gone key lp val ls A n c l st w hi h.t h.t2 (by rw [h.t4]; rfl) (by rw [h.t4]; rfl)
theorem undoFn_held (hi : RowIn w key lp val A n l) (hcap : n ≤ c) (h : UHeld key ls lp val l st) : Calls Tryz.prog 87 #[rowV key ls lp val A n c, .int .i64 st] w (RowOut2 key 0 ⟨#[]⟩ ⟨#[]⟩ (endRec l ⟨st, 0, ⟨#[]⟩⟩) 0 w) := by
 have h1 : 1 ≤ st := (inB_true.1 h.t2).1
 have hf := lock_free h.t (by have := h.t6; omega)
 have h6 : stOf ls st l = 1 := stOf_one.2 h.t6
 rw [h.t6] at hf
 rw [← ins_eq_end (recs_ok h.t) ⟨st, 0, ⟨#[]⟩⟩ hf.1]
 exact undo_held key lp val ls A n c l st w hi h.t h.t2 (by rw [h6]; rfl) (by rw [h6]; rfl) (by rw [h6]; rfl) hcap (by have := hi.n; omega)
theorem undoRef_held (hi : RowIn w key lp val A n l) (hcap : n ≤ c) (h : UHeld key ls lp val l st) : Calls Tryz.prog 62 #[rowV key ls lp val A n c, .int .i64 st] w (RowOut2 key 0 ⟨#[]⟩ ⟨#[]⟩ (endRec l ⟨st, 0, ⟨#[]⟩⟩) 0 w) := by
 have h1 : 1 ≤ st := (inB_true.1 h.t2).1
 have hf := lock_free h.t (by have := h.t6; omega)
 have h6 : stOf ls st l = 1 := stOf_one.2 h.t6
 exact undone_held key lp val ls A n c l st w hi h.t h.t2 (by rw [h6]; rfl) (by rw [h6]; rfl) (by rw [h6]; rfl) h.t6 (by have := hi.n; omega)
theorem undoFn_new (hi : RowIn w key lp val A n l) (hcap : n ≤ c) (h : UNew key ls lp val l st) : Calls Tryz.prog 87 #[rowV key ls lp val A n c, .int .i64 st] w (RowOut2 key ls lp val (endRec l ⟨st, 0, ⟨#[]⟩⟩) 0 w) := by
 have hl := row_len h.t
 rw [← ins_eq_end (recs_ok h.t) ⟨st, 0, ⟨#[]⟩⟩ ((stOf_zero h.t6).1 h.t3)]
 exact undo_new key lp val ls A n c l st w hi h.t h.t2 (by rw [h.t3]; rfl) (by rw [h.t3]; rfl) (by rw [h.t3]; rfl) (decide_eq_false h.t7) hcap (by have := hi.n; omega)
theorem undoRef_new (hi : RowIn w key lp val A n l) (hcap : n ≤ c) (h : UNew key ls lp val l st) : Calls Tryz.prog 62 #[rowV key ls lp val A n c, .int .i64 st] w (RowOut2 key ls lp val (endRec l ⟨st, 0, ⟨#[]⟩⟩) 0 w) := by
 have hl := row_len h.t
 exact undone_new key lp val ls A n c l st w hi h.t h.t2 (by rw [h.t3]; rfl) (by rw [h.t3]; rfl) (by rw [h.t3]; rfl) (decide_eq_false h.t7) (by simpa using h.t6) (by have := hi.n; omega)
end
end Go.Proofs.YtambkjnhfejfaaaGreat
namespace Go.Proofs.YtambkjnhfejfaaaGreat
open Go.RowKit
def OpOut (x : RowM × Int) (w : World) (e : Ending) (w' : World) : Prop := RowOut2 x.1.key x.1.ls x.1.lp x.1.val x.1.recs x.2 w e w'
structure OpIn (w : World) (r : RowM) (A : Option Addr) (n c : Nat) : Prop where
 i : RowIn w r.key r.lp r.val A n r.recs
 c : n ≤ c
theorem OpIn.upto {w W : World} {r : RowM} {A : Option Addr} {n c : Nat} (h : OpIn w r A n c) (hb : Below w.heap.size w W) : OpIn W r A n c := ⟨h.i.upto hb, h.c⟩
abbrev rV (r : RowM) (A : Option Addr) (n c : Nat) : Value := rowV r.key r.ls r.lp r.val A n c
section
variable (r : RowM) (A : Option Addr) (n c : Nat) (st cm : Int) (pk pv : ByteArray) (w : World)
theorem lockFn_op (h : OpIn w r A n c) (hp : pk.size ≤ maxLen) (hv : pv.size ≤ maxLen) : Calls Tryz.prog 81 #[rV r A n c, .int .i64 st, .string pk, .string pv] w (OpOut (lockOp st pk pv r) w) := by
 by_cases e : lockE r.key r.ls r.lp r.val r.recs st pk pv = 0
 ·rw [lockOp, if_pos e]; exact lockFor_ok r.key r.lp r.val r.ls A n c r.recs st pk pv w h.i hp hv e
 ·rw [lockOp, if_neg e]; exact lockFor_err r.key r.lp r.val r.ls A n c r.recs st pk pv w h.i hp hv e
theorem commitFn_op (h : OpIn w r A n c) : Calls Tryz.prog 85 #[rV r A n c, .int .i64 st, .int .i64 cm] w (OpOut (commitOp st cm r) w) := by
 by_cases e : commitE r.key r.ls r.lp r.val r.recs st cm = 0
 ·rw [commitOp, if_pos e]; exact commitFn_ok r.key r.lp r.val r.ls A n c r.recs st cm w h.i h.c e
 ·rw [commitOp, if_neg e]; exact commitFn_err r.key r.lp r.val r.ls A n c r.recs st cm w h.i e
theorem undoFn_op (h : OpIn w r A n c) : Calls Tryz.prog 87 #[rV r A n c, .int .i64 st] w (OpOut (undoOp st r) w) := by
 by_cases e : undoE r.key r.ls r.lp r.val r.recs st = 0
 ·rw [undoOp, if_pos e]
  rcases undo_cases e with hg | hg | hg
  ·rw [undoneR, if_pos hg.t4]; exact undoFn_gone r.key r.lp r.val r.ls A n c r.recs st w h.i h.c hg
  ·have h1 : stOf r.ls st r.recs = 1 := stOf_one.2 hg.t6
   rw [undoneR, if_neg (by rw [h1]; decide), if_pos h1]; exact undoFn_held r.key r.lp r.val r.ls A n c r.recs st w h.i h.c hg
  ·rw [undoneR, if_neg (by rw [hg.t3]; decide), if_neg (by rw [hg.t3]; decide)]; exact undoFn_new r.key r.lp r.val r.ls A n c r.recs st w h.i h.c hg
 ·rw [undoOp, if_neg e]; exact undoFn_err r.key r.lp r.val r.ls A n c r.recs st w h.i e
end
end Go.Proofs.YtambkjnhfejfaaaGreat
namespace Go.Proofs.YtambkjnhfejfaaaGreat
open Go.RowKit
set_option linter.unusedVariables false
section
variable {α : Type} {C : Cells α}
set_option maxRecDepth 100000 in
theorem app_seq2 {t e ty : TypeId} {i0 : TypeInfo} {z : Value} {bytes mx : Nat} (hu : Tryz.prog.underlying t = some (.slice e)) (hi0 : Tryz.prog.info? e = some i0) (hz0 : i0.zero = some z) (hz1 : i0.size = C.sz) (hz2 : i0.bytes = bytes) (hz3 : z.cells.size = C.sz)
 (W : World) (base m c : Nat) (v : Value) (l0 : List α) (A : Option Addr) (l : List α) (P : Nat → Prop) (hown : C.Owns W base e v l0) (hm : m = l.length) (hl : SeqAt P C.sz mx (C.At W) A l)
 (hbd : l0.length + l.length ≤ 100000) (hby : bytes ≤ 1000) (hbase : base ≤ W.heap.size) :
 ∃ v' w', (Builtin.append_ #[t, t] ty #[v, .slice A m c]).run Tryz.prog W = .ok v' w' ∧ ∃ A' c', v' = .slice A' (l0 ++ l).length c' ∧ C.Owns w' base e (.slice A' (l0 ++ l).length c') (l0 ++ l) ∧ W.grownBy w' v.ownBlock ∧ ((Value.slice A' (l0 ++ l).length c').ownBlock = v.ownBlock ∨ (Value.slice A' (l0 ++ l).length c').ownBlock = some W.heap.size) := by
 subst hm
 have key : ∃ v' w', (Builtin.append_ #[t, t] ty #[v, .slice A l.length c]).run Tryz.prog W = .ok v' w' ∧ C.Owns w' base e v' (l0 ++ l) ∧ W.grownBy w' v.ownBlock ∧ (v'.ownBlock = v.ownBlock ∨ v'.ownBlock = some W.heap.size) := by
  cases A with
  | none =>
   have h0 : l = [] := by
    rcases Nat.eq_zero_or_pos l.length with h0 | h0
    ·exact List.eq_nil_of_length_eq_zero h0
    ·obtain ⟨b, o, h, _⟩ := hl.2 h0; cases h
   subst h0
   refine ⟨v, W, ?_, by simpa using hown, World.grownBy.refl W _, .inl rfl⟩
   rcases hown.2 with ⟨rfl, h0⟩ | ⟨g, cap, cur, rfl, _, _, hnc, _⟩
   ·simp [Builtin.append_, run_underlying hu, sizeOf, typeInfo, hi0, Builtin.lenOf, Builtin.firstCells]
   ·simp [Builtin.append_, run_underlying hu, sizeOf, typeInfo, hi0, Builtin.lenOf, Builtin.firstCells, hnc, storeCells]
  | some a =>
   have hsrc : ∀ j u, (C.all l)[j]? = some u → W.cell? (a.add j) = some u := by
    intro j u hj
    have hjl := (List.getElem?_eq_some_iff.1 hj).1
    rw [C.all_length] at hjl
    have hl0 : 0 < l.length := by
     rcases Nat.eq_zero_or_pos l.length with h0 | h0
     ·rw [h0, Nat.zero_mul] at hjl; omega
     ·exact h0
    obtain ⟨b, o, hA, _, _⟩ := hl.2 hl0
    injection hA with hA
    subst hA
    exact Cells.src hl j u hj
   have hnb : (l0.length + l.length) * bytes ≤ 100000 * 1000 := Nat.mul_le_mul hbd hby
   obtain ⟨v', w', h1, h2, h3, _, h5⟩ := run_append_own_at (P := Tryz.prog) W base t ty e i0 _ C.sz bytes hu hi0 hz0 hz1 hz2 hz3 C.pos v l0.length (C.all l0) hown a l.length c (C.all l)
    (C.all_length l) hsrc (C.all_one l) (by simp only [maxLen]; omega) (by omega) hbase
   refine ⟨v', w', h1, ?_, h3, h5⟩
   unfold Cells.Owns
   rw [List.length_append, C.all_append]
   exact h2
 obtain ⟨v', w', h1, h2, h3, h4⟩ := key
 obtain ⟨A', c', hv, _⟩ := h2.at_ (mx := 100000) (by simpa using hbd)
 subst hv
 exact ⟨_, w', h1, A', c', rfl, h2, h3, h4⟩
theorem app_1 {t e ty : TypeId} {i0 : TypeInfo} {z : Value} {bytes : Nat} (hu : Tryz.prog.underlying t = some (.slice e)) (hi0 : Tryz.prog.info? e = some i0) (hz0 : i0.zero = some z) (hz1 : i0.size = C.sz) (hz2 : i0.bytes = bytes) (hz3 : z.cells.size = C.sz) (hby : bytes ≤ 1000)
 (W : World) (base c n : Nat) (A : Option Addr) (l : List α) (a : α) (cs : Array Value) (hcs : cs = (C.cs a).toArray) (hn : n = l.length) (hown : C.Owns W base e (.slice A n c) l) (hbd : l.length ≤ 1000) (hbase : base ≤ W.heap.size) :
 ∃ v' w', (Builtin.append_ #[t, t] ty #[.slice A n c, .slice (some ⟨W.heap.size, 0, none⟩) 1 1]).run Tryz.prog (W.alloc (.cells cs e)) = .ok v' w' ∧ ∃ A' c', v' = .slice A' (n + 1) c' ∧ C.Owns w' base e (.slice A' (n + 1) c') (l ++ [a]) ∧
  (∀ b, b < W.heap.size → (Value.slice A n c).ownBlock ≠ some b → w'.heap[b]? = W.heap[b]?) ∧ W.heap.size ≤ w'.heap.size ∧ (∀ w0, Below base w0 W → Below base w0 w') ∧ ((Value.slice A' (n + 1) c').ownBlock = (Value.slice A n c).ownBlock ∨ (Value.slice A' (n + 1) c').ownBlock = some (W.heap.size + 1)) := by
 subst hcs hn
 obtain ⟨v', w', h1, A', c', h2, h3, h4, h5⟩ := app_seq2 (C := C) (ty := ty) hu hi0 hz0 hz1 hz2 hz3 (W.alloc (.cells (C.cs a).toArray e)) base 1 1 (.slice A l.length c) l _ [a] _ (hown.kept (below_alloc (Below.refl _ _) _)) rfl (one_seq (C := C) (e := e) W a) (by simp; omega) hby (by simp; omega)
 have e1 : (l ++ [a]).length = l.length + 1 := by simp
 rw [e1] at h2 h3 h5
 have hlt := World.ownsRow.lt hown
 refine ⟨v', w', h1, A', c', h2, h3, fun b hb hne => ?_, by have := h4.size; simp at this; omega, fun w0 hw0 => ?_, by simpa using h5⟩
 ·rw [h4.block b (by simp; omega) (fun e => hne e.symm)]
  exact (below_alloc (Below.refl _ _) _).block b hb
 ·exact Below.grown (hw0.alloc hbase _) h4 (by simp; omega) (fun k hk => (hlt k hk).1)
end
abbrev RowX := RowM × Option Addr × Nat
def rowCells : Cells RowX := ⟨fun x => [.string x.1.key, .int .i64 x.1.ls, .string x.1.lp, .string x.1.val, .slice x.2.1 x.1.recs.length x.2.2], 5, fun _ => rfl, fun a v hv => by
 simp only [List.mem_cons, List.not_mem_nil, or_false] at hv
 rcases hv with rfl | rfl | rfl | rfl | rfl <;> rfl, by decide⟩
abbrev OwnsRows (w : World) (base : Nat) (v : Value) (l : List RowX) : Prop := rowCells.Owns w base 45 v l
structure RowHas (w : World) (P : Nat → Prop) (x : RowX) : Prop where
 c : x.1.recs.length ≤ x.2.2
 r : RecsIn w P x.2.1 x.1.recs
 ok : RowOk x.1
theorem RowHas.mono {w w' : World} {P P' : Nat → Prop} {x : RowX} (h : RowHas w P x) (hP : ∀ b, P b → P' b) (hk : ∀ b k, P b → w'.cell? ⟨b, k, none⟩ = w.cell? ⟨b, k, none⟩) : RowHas w' P' x := ⟨h.c, h.r.mono hP hk, h.ok⟩
theorem OwnsRows.rows {w : World} {base : Nat} {v : Value} {l : List RowX} {P : Nat → Prop} (h : OwnsRows w base v l) (hlen : l.length ≤ 1000) (hh : ∀ x ∈ l, RowHas w P x) (hP : ∀ b, base ≤ b → b < w.heap.size → v.ownBlock = some b → P b) :
 ∃ A c, v = .slice A l.length c ∧ l.length ≤ c ∧ RowsAt w P A (l.map Prod.fst) := by
 obtain ⟨A, c, hv, hc, hs⟩ := h.at_ (mx := 1759218604441) (by omega)
 refine ⟨A, c, hv, hc, by simpa using hs.1, fun h0 => ?_⟩
 obtain ⟨b, o, hA, hb, hx⟩ := hs.2 (by simpa using h0)
 refine ⟨b, o, hA, hP b hb.1 hb.2 (by rw [hv, hA]; rfl), fun i r hr => ?_⟩
 rw [List.getElem?_map] at hr
 obtain ⟨x, hxx, rfl⟩ := Option.map_eq_some_iff.1 hr
 have hat := hx i x hxx
 have hx' := hh x (List.mem_of_getElem? hxx)
 exact ⟨hat 0 _ rfl, hat 1 _ rfl, hat 2 _ rfl, hat 3 _ rfl, ⟨x.2.1, x.2.2, hat 4 _ rfl, hx'.c, hx'.r⟩, hx'.ok⟩
theorem app_row {ty : TypeId} (W : World) (base c n : Nat) (A : Option Addr) (l : List RowX) (x : RowX) (hn : n = l.length) (hown : OwnsRows W base (.slice A n c) l) (hbd : l.length ≤ 1000) (hbase : base ≤ W.heap.size) :
 ∃ v' w', (Builtin.append_ #[22, 22] ty #[.slice A n c, .slice (some ⟨W.heap.size, 0, none⟩) 1 1]).run Tryz.prog (W.alloc (.cells #[.string x.1.key, .int .i64 x.1.ls, .string x.1.lp, .string x.1.val, .slice x.2.1 x.1.recs.length x.2.2] 45)) = .ok v' w' ∧ ∃ A' c', v' = .slice A' (n + 1) c' ∧ OwnsRows w' base (.slice A' (n + 1) c') (l ++ [x]) ∧
  (∀ b, b < W.heap.size → (Value.slice A n c).ownBlock ≠ some b → w'.heap[b]? = W.heap[b]?) ∧ W.heap.size ≤ w'.heap.size ∧ (∀ w0, Below base w0 W → Below base w0 w') ∧ ((Value.slice A' (n + 1) c').ownBlock = (Value.slice A n c).ownBlock ∨ (Value.slice A' (n + 1) c').ownBlock = some (W.heap.size + 1)) := by
 obtain ⟨i0, hi0, hz0, hz1, hz2⟩ := info_parts row_info
 exact app_1 (C := rowCells) Tryz.underlying22 hi0 hz0 hz1 hz2 rfl (by decide) W base c n A l x _ rfl hn hown hbd hbase
def wrCells : Cells WrM := ⟨fun x => [.string x.k, .string x.v], 2, fun _ => rfl, fun a v hv => by
 simp only [List.mem_cons, List.not_mem_nil, or_false] at hv
 rcases hv with rfl | rfl <;> rfl, by decide⟩
abbrev OwnsWrs (w : World) (base : Nat) (v : Value) (l : List WrM) : Prop := wrCells.Owns w base 58 v l
theorem app_wr {ty : TypeId} (W : World) (base c n : Nat) (A : Option Addr) (l : List WrM) (x : WrM) (hn : n = l.length) (hown : OwnsWrs W base (.slice A n c) l) (hbd : l.length ≤ 1000) (hbase : base ≤ W.heap.size) :
 ∃ v' w', (Builtin.append_ #[47, 47] ty #[.slice A n c, .slice (some ⟨W.heap.size, 0, none⟩) 1 1]).run Tryz.prog (W.alloc (.cells #[.string x.k, .string x.v] 58)) = .ok v' w' ∧ ∃ A' c', v' = .slice A' (n + 1) c' ∧ OwnsWrs w' base (.slice A' (n + 1) c') (l ++ [x]) ∧
  (∀ b, b < W.heap.size → (Value.slice A n c).ownBlock ≠ some b → w'.heap[b]? = W.heap[b]?) ∧ W.heap.size ≤ w'.heap.size ∧ (∀ w0, Below base w0 W → Below base w0 w') ∧ ((Value.slice A' (n + 1) c').ownBlock = (Value.slice A n c).ownBlock ∨ (Value.slice A' (n + 1) c').ownBlock = some (W.heap.size + 1)) := by
 obtain ⟨i0, hi0, hz0, hz1, hz2⟩ := info_parts wr_info
 exact app_1 (C := wrCells) Tryz.underlying47 hi0 hz0 hz1 hz2 rfl (by decide) W base c n A l x _ rfl hn hown hbd hbase
theorem OwnsWrs.wrs {w : World} {base : Nat} {v : Value} {l : List WrM} {P : Nat → Prop} (h : OwnsWrs w base v l) (hlen : l.length ≤ 1000) (hh : ∀ x ∈ l, x.k.size ≤ maxLen ∧ x.v.size ≤ maxLen) (hP : ∀ b, base ≤ b → b < w.heap.size → v.ownBlock = some b → P b) :
 ∃ A c, v = .slice A l.length c ∧ l.length ≤ c ∧ WrsAt w P A l := by
 obtain ⟨A, c, hv, hc, hs⟩ := h.at_ (mx := 4398046511104) (by omega)
 refine ⟨A, c, hv, hc, hs.1, fun h0 => ?_⟩
 obtain ⟨b, o, hA, hb, hx⟩ := hs.2 h0
 refine ⟨b, o, hA, hP b hb.1 hb.2 (by rw [hv, hA]; rfl), fun i r hr => ?_⟩
 have hat := hx i r hr
 exact ⟨hat 0 _ rfl, hat 1 _ rfl, hh r (List.mem_of_getElem? hr)⟩
abbrev ClX := ClM × Option Addr × Nat
def clCells : Cells ClX := ⟨fun x => [.int .i64 x.1.ph, .int .i64 x.1.st, .int .i64 x.1.cm, .slice x.2.1 x.1.ws.length x.2.2, .int .i64 x.1.at_], 5, fun _ => rfl, fun a v hv => by
 simp only [List.mem_cons, List.not_mem_nil, or_false] at hv
 rcases hv with rfl | rfl | rfl | rfl | rfl <;> rfl, by decide⟩
abbrev OwnsCls (w : World) (base : Nat) (v : Value) (l : List ClX) : Prop := clCells.Owns w base 49 v l
structure ClHas (w : World) (P : Nat → Prop) (x : ClX) : Prop where
 c : x.1.ws.length ≤ x.2.2
 r : WrsAt w P x.2.1 x.1.ws
 ok : ClOk x.1
theorem ClHas.mono {w w' : World} {P P' : Nat → Prop} {x : ClX} (h : ClHas w P x) (hP : ∀ b, P b → P' b) (hk : ∀ b k, P b → w'.cell? ⟨b, k, none⟩ = w.cell? ⟨b, k, none⟩) : ClHas w' P' x := ⟨h.c, SeqAt.wrs h.r hP hk, h.ok⟩
structure RefW (w : World) (X : Nat → Prop) (gC : Nat) (RA : Option Addr) (n rc m cc : Nat) (wo : WoM) : Prop where
 hn : n = wo.rows.length
 hrc : n ≤ rc
 rows : RowsAt w (fun b => b < w.heap.size ∧ b ≠ gC ∧ ¬ X b) RA wo.rows
 hm : m = wo.cls.length
 hcc : m ≤ cc
 h5 : m ≤ 1000
 blk : ∃ cur n, w.heap[gC]? = some (.cells cur 49 (0, 0)) ∧ cur.size = n * 5 ∧ m ≤ n
 cls : ∀ i c, wo.cls[i]? = some c → ClAt w (fun b => b < w.heap.size ∧ b ≠ gC ∧ ¬ X b) gC (i * 5) c
 ck : i64 wo.clock
section
variable {w w' : World} {X : Nat → Prop} {gC : Nat} {RA : Option Addr} {n rc m cc : Nat} {wo : WoM}
theorem RefW.lt (h : RefW w X gC RA n rc m cc wo) : gC < w.heap.size := by obtain ⟨cur, _, h, _⟩ := h.blk; exact (Array.getElem?_eq_some_iff.1 h).1
theorem RefW.upto (h : RefW w X gC RA n rc m cc wo) (hb : Below w.heap.size w w') : RefW w' X gC RA n rc m cc wo := by
 obtain ⟨cur, q, h1, h2⟩ := h.blk
 obtain ⟨m1, m2⟩ := below_mem hb
 exact ⟨h.hn, h.hrc, h.rows.rows (fun _ hp => ⟨m1 _ hp.1, hp.2⟩) (fun _ _ hp => m2 _ _ hp.1), h.hm, h.hcc, h.h5, ⟨cur, q, (hb.block gC h.lt).trans h1, h2⟩, fun i c hc => (h.cls i c hc).mono (fun _ hp => ⟨m1 _ hp.1, hp.2⟩) (fun _ _ hp => m2 _ _ hp.1) (fun k _ _ => m2 _ _ h.lt), h.ck⟩
theorem RefW.apart {X' : Nat → Prop} (h : RefW w X gC RA n rc m cc wo) (hX : ∀ b, b < w.heap.size → ¬ X b → ¬ X' b) : RefW w X' gC RA n rc m cc wo :=
 ⟨h.hn, h.hrc, h.rows.rows (fun _ hp => ⟨hp.1, hp.2.1, hX _ hp.1 hp.2.2⟩) (fun _ _ _ => rfl), h.hm, h.hcc, h.h5, h.blk, fun i c hc => (h.cls i c hc).mono (fun _ hp => ⟨hp.1, hp.2.1, hX _ hp.1 hp.2.2⟩) (fun _ _ _ => rfl) (fun _ _ _ => rfl), h.ck⟩
theorem RefW.turned (h : RefW w X gC RA n rc m cc wo) (hs : w'.heap.size = w.heap.size) (hg : w'.heap[gC]? = w.heap[gC]?) (hk : ∀ b, ¬ X b → w'.heap[b]? = w.heap[b]?) : RefW w' X gC RA n rc m cc wo := by
 obtain ⟨cur, q, h1, h2⟩ := h.blk
 have e : ∀ b k, ¬ X b → w'.cell? ⟨b, k, none⟩ = w.cell? ⟨b, k, none⟩ := fun b k hb => World.cell?_of_block (w := w) (a := ⟨b, k, none⟩) (hk b hb)
 exact ⟨h.hn, h.hrc, h.rows.rows (fun _ hp => by rw [hs]; exact hp) (fun _ _ hp => e _ _ hp.2.2), h.hm, h.hcc, h.h5, ⟨cur, q, hg.trans h1, h2⟩, fun i c hc => (h.cls i c hc).mono (fun _ hp => by rw [hs]; exact hp) (fun _ _ hp => e _ _ hp.2.2) (fun k _ _ => World.cell?_of_block (w := w) (a := ⟨gC, k, none⟩) hg), h.ck⟩
theorem RefW.in_ (h : RefW w X gC RA n rc m cc wo) : WoIn w RA n rc (some ⟨gC, 0, none⟩) m cc wo :=
 ⟨h.hn, h.hrc, h.rows.rows (fun _ hp => hp.1) (fun _ _ _ => rfl), h.hm, h.hcc, SeqAt.block (by have := h.h5; have := h.hm; omega) h.lt fun i c hc => (h.cls i c hc).mono (fun _ hp => hp.1) (fun _ _ _ => rfl) (fun _ _ _ => rfl), h.ck⟩
theorem RefW.turn (h : RefW w X gC RA n rc m cc wo) {RA' : Option Addr} {rc' : Nat} {rows : List RowM} (hc : rows.length ≤ rc') (hr : RowsAt w (fun b => b < w.heap.size ∧ b ≠ gC ∧ ¬ X b) RA' rows) : RefW w X gC RA' rows.length rc' m cc { wo with rows := rows } :=
 ⟨rfl, hc, hr, h.hm, h.hcc, h.h5, h.blk, h.cls, h.ck⟩
theorem RefW.tick (h : RefW w X gC RA n rc m cc wo) {k : Int} (hk : i64 k) : RefW w X gC RA n rc m cc { wo with clock := k } :=
 ⟨h.hn, h.hrc, h.rows, h.hm, h.hcc, h.h5, h.blk, h.cls, hk⟩
theorem RefW.cell (h : RefW w X gC RA n rc m cc wo) {C : Nat} (hC : C < m) (j : Nat) (hj : j < 5) : ∃ v, w.cell? ⟨gC, C * 5 + j, none⟩ = some v ∧ w.frozen? ⟨gC, C * 5 + j, none⟩ = false := by
 obtain ⟨cur, q, hg, hn, hm⟩ := h.blk
 exact block_cell hg hn (by omega)
theorem RefW.setC (h : RefW w X gC RA n rc m cc wo) {C : Nat} (hC : C < m) (c : ClM) (A : Option Addr) (k : Nat) (hok : ClOk c) (hk : c.ws.length ≤ k) (hws : WrsAt w (fun b => b < w.heap.size ∧ b ≠ gC ∧ ¬ X b) A c.ws) :
 RefW (set5 w gC (C * 5) (.int .i64 c.ph) (.int .i64 c.st) (.int .i64 c.cm) (.slice A c.ws.length k) (.int .i64 c.at_)) X gC RA n rc m cc (wo.setC C c) := by
 have hs := set5_same w gC (C * 5) (.int .i64 c.ph) (.int .i64 c.st) (.int .i64 c.cm) (.slice A c.ws.length k) (.int .i64 c.at_)
 obtain ⟨_, e0, _⟩ := h.cell hC 0 (by omega)
 rw [Nat.add_zero] at e0
 obtain ⟨_, e1, _⟩ := h.cell hC 1 (by omega)
 obtain ⟨_, e2, _⟩ := h.cell hC 2 (by omega)
 obtain ⟨_, e3, _⟩ := h.cell hC 3 (by omega)
 obtain ⟨_, e4, _⟩ := h.cell hC 4 (by omega)
 obtain ⟨a0, a1, a2, a3, a4⟩ := set5_at e0 e1 e2 e3 e4 (.int .i64 c.ph) (.int .i64 c.st) (.int .i64 c.cm) (.slice A c.ws.length k) (.int .i64 c.at_)
 obtain ⟨W, hW⟩ : ∃ W, W = set5 w gC (C * 5) (.int .i64 c.ph) (.int .i64 c.st) (.int .i64 c.cm) (.slice A c.ws.length k) (.int .i64 c.at_) := ⟨_, rfl⟩
 have hm := h.hm
 have hblk : ∃ cur n, W.heap[gC]? = some (.cells cur 49 (0, 0)) ∧ cur.size = n * 5 ∧ m ≤ n := by
  obtain ⟨cur, q, hg, hn, hm⟩ := h.blk
  obtain ⟨cur', h1, h2⟩ := block_set (block_set (block_set (block_set (block_set ⟨cur, hg, hn⟩ (.int .i64 c.ph) (o := C * 5)) (.int .i64 c.st) (o := C * 5 + 1)) (.int .i64 c.cm) (o := C * 5 + 2)) (.slice A c.ws.length k) (o := C * 5 + 3)) (.int .i64 c.at_) (o := C * 5 + 4)
  exact ⟨cur', q, by rw [hW]; exact h1, h2, hm⟩
 rw [← hW] at hs a0 a1 a2 a3 a4 ⊢
 have oth : ∀ b k, b < w.heap.size ∧ b ≠ gC ∧ ¬ X b → W.cell? ⟨b, k, none⟩ = w.cell? ⟨b, k, none⟩ := fun b k hb => hs.cell _ fun e => hb.2.1 e.1
 have hP : ∀ b, b < w.heap.size ∧ b ≠ gC ∧ ¬ X b → b < W.heap.size ∧ b ≠ gC ∧ ¬ X b := fun b hb => by rw [hs.sz]; exact hb
 refine ⟨h.hn, h.hrc, h.rows.rows hP oth, by rw [WoM.setC, List.length_set]; exact hm, h.hcc, h.h5, hblk, fun i x hx => ?_, h.ck⟩
 have hx : (wo.cls.set C c)[i]? = some x := hx
 by_cases e : C = i
 ·subst e
  rw [List.getElem?_set_self (by omega)] at hx
  have hx := Option.some.inj hx
  subst hx
  exact ⟨a0, a1, a2, ⟨A, k, a3, hk, SeqAt.wrs hws hP oth⟩, a4, hok⟩
 ·rw [List.getElem?_set_ne e] at hx
  exact (h.cls i x hx).mono hP oth fun k h1 h2 => hs.cell _ fun e' => by
   have h3 : C * 5 ≤ k := e'.2.1
   have h4 : k < C * 5 + 5 := e'.2.2
   omega
end
set_option maxRecDepth 100000 in
set_option maxHeartbeats 2000000 in
theorem rowOf_any (key : ByteArray) (P : Nat → Prop) (RA CA : Option Addr) (n rc m cc : Nat) (ck : Int) (rows : List RowM) (w : World) (hn : n = rows.length) (hr : RowsAt w P RA rows) (hP : ∀ b, P b → b < w.heap.size) (hs : Inc (rowKeys rows)) (hks : key.size ≤ maxLen) :
 Calls Tryz.prog 19 #[woV RA n rc ck CA m cc, .string key] w fun e w' => ∃ A c, e = .returned (.tuple #[rV (look rows key) A (look rows key).recs.length c, .bool (hasK (rowKeys rows) key)]) ∧ RowHas w P (look rows key, A, c) ∧ Below w.heap.size w w' := by
 subst hn
 have hlen := hr.1
 have HR := Lib.hid hr
 have HS := Lib.hid hs
 have HP := Lib.hid hP
 have HKS := Lib.hid hks
 clear hr hs hP hks
 go_enter Tryz.func19, Tryz.ntmps19
 go_wp2
 go_loop [6] (fun i => ∃ k : Nat, k ≤ rows.length ∧ i = .int .i64 k ∧ ∀ j, j < k → (rows.getD j default).key ≠ key) (fun i => rows.length - (intOf i).toNat)
 case atStart => exact ⟨0, Nat.zero_le _, rfl, fun _ h => absurd h (by omega)⟩
 case round =>
  obtain ⟨k, hk, rfl, hx⟩ := hrel
  have HX := Lib.hid hx
  clear hx
  by_cases hm : k < rows.length
  ·obtain ⟨b, o, rfl, hbp, hrow⟩ := SeqAt.at_ HR.out (getD_some (d := default) hm)
   obtain ⟨r, hr0⟩ : ∃ r, r = rows.getD k default := ⟨_, rfl⟩
   rw [← hr0] at hrow
   have hbb := HP.out b hbp
   obtain ⟨A, c, c4, hc, hrecs⟩ := hrow.cr
   have HH := Lib.hid (show RowHas w P (r, A, c) from ⟨hc, hrecs, hrow.ok⟩)
   have c0 := hrow.ck
   have c1 := hrow.cs
   have c2 := hrow.cp
   have c3 := hrow.cv
   have HR0 := Lib.hid hr0
   have j0 : (0 : Int) ≤ (k : Int) := by omega
   have j1 : (k : Int) < (rows.length : Int) := by omega
   have hkd : (rowKeys rows).getD k default = r.key := by rw [hr0]; exact map_getD (getD_some hm)
   have HKD := Lib.hid hkd
   clear hrow hrecs hc hr0 hbp hkd
   by_cases q : r.key = key
   ·have HLO := Lib.hid (low_at HS.out (key := key) (k := k) (by simpa using hm) (by rw [HKD.out, q]))
    have HLK := Lib.hid (show look rows key = r by rw [look, if_pos HLO.out.2, rowAt, HLO.out.1, HR0.out])
    obtain ⟨rk, rls, rlp, rv, rr⟩ := r
    dsimp only at q c0 c1 c2 c3 c4
    subst q
    go_wp2
    exact bodyPost_ret (v := .tuple #[.agg #[.string rk, .int .i64 rls, .string rlp, .string rv, .slice A rr.length c], .bool true]) (by simp [results, Tryz.results19, go_sem]) rfl
     ⟨A, c, by rw [HLK.out, HLO.out.2], by rw [HLK.out]; exact HH.out, by repeat (first | with_reducible exact Below.refl _ _ | assumption | with_reducible apply below_alloc | with_reducible apply below_drew | with_reducible apply below_drewN | (with_reducible apply below_next; rotate_left; assumption))⟩
   ·have q2 : (r.key.toList == key.toList) = false := by
     rw [beq_eq_false_iff_ne]; intro e; exact q (ba_ext e)
    have HNE := Lib.hid q
    clear q
    go_wp2
    go_round
    case rel => exact ⟨k + 1, by omega, by go_num, fun j hj => by
     by_cases e : j = k
     ·subst e; rw [← HR0.out]; exact HNE.out
     ·exact HX.out j (by omega)⟩
    case measure => simp [intOf]; omega
  ·have HNO := Lib.hid (show hasK (rowKeys rows) key = false from low_none fun i hi => by
    have hi' : i < rows.length := by simpa using hi
    rw [map_getD (getD_some (d := default) hi')]
    exact HX.out i (by omega))
   have HLK := Lib.hid (show look rows key = freshRow key by rw [look, if_neg (by rw [HNO.out]; decide)])
   go_wp2
   exact bodyPost_ret (v := .tuple #[.agg #[.string key, .int .i64 0, .string ⟨#[]⟩, .string ⟨#[]⟩, .slice none 0 0], .bool false]) (by simp [results, Tryz.results19, go_sem]) rfl
    ⟨none, 0, by rw [HLK.out, HNO.out]; rfl, by rw [HLK.out]; exact ⟨Nat.le_refl _, ⟨Nat.zero_le _, fun _ h => (by cases h), fun h => absurd h (by simp [freshRow])⟩, ⟨HKS.out, Nat.zero_le _, Nat.zero_le _, i64_zero⟩⟩, by repeat (first | with_reducible exact Below.refl _ _ | assumption | with_reducible apply below_alloc | with_reducible apply below_drew | with_reducible apply below_drewN | (with_reducible apply below_next; rotate_left; assumption))⟩
end Go.Proofs.YtambkjnhfejfaaaGreat
namespace Go.Proofs.YtambkjnhfejfaaaGreat
open Go.RowKit
theorem opOut_end {x : RowM × Int} {w W0 w2 : World} {A2 : Option Addr} {c2 : Nat} (hb : Below w.heap.size w W0) (hs : W0.heap.size = w.heap.size + 2) (hb2 : Below W0.heap.size W0 w2) (hr : RecsAt w2 w2.heap.size A2 x.1.recs) (hn : NewC W0.heap.size A2 x.1.recs.length c2) (v0 v1 v2 v3 v4 : Value) :
 RecsAt (set5 w2 (w.heap.size + 1) 0 v0 v1 v2 v3 v4) (set5 w2 (w.heap.size + 1) 0 v0 v1 v2 v3 v4).heap.size A2 x.1.recs ∧ NewC w.heap.size A2 x.1.recs.length c2 ∧ Below w.heap.size w (set5 w2 (w.heap.size + 1) 0 v0 v1 v2 v3 v4) := by
 have hs5 := set5_same w2 (w.heap.size + 1) 0 v0 v1 v2 v3 v4
 refine ⟨?_, ⟨fun ad h => by have := hn.1 ad h; omega, hn.2⟩, below_set5 (below_next hb hb2) (by omega) _ _ _ _ _ _⟩
 rw [hs5.sz]
 refine ⟨hr.1, hr.2.1, fun h0 => ?_⟩
 obtain ⟨b, o, hA, hbb, hc⟩ := hr.2.2 h0
 have hnb := hn.1 _ hA
 refine ⟨b, o, hA, hbb, fun i r h => (hc i r h).keep fun k => hs5.cell _ fun e => ?_⟩
 have h1 : b = w.heap.size + 1 := e.1
 have h2 : W0.heap.size ≤ b := hnb
 omega
set_option maxHeartbeats 2000000 in
theorem undoOpFn (r : RowM) (A : Option Addr) (n c : Nat) (st : Int) (pb : Nat) (w : World) (h : OpIn w r A n c) (hp : w.cell? ⟨pb, 0, none⟩ = some (.int .i64 st)) :
 Calls Tryz.prog 86 #[rV r A n c, .pointer (some ⟨pb, 0, none⟩)] w (OpOut (undoOp st r) w) := by
 obtain ⟨key, ls, lp, val, recs⟩ := r
 obtain ⟨W0, hW, k0, k1, k2, k3, k4, hz, hbW, hsW⟩ := box2_new w (.string key) (.int .i64 ls) (.string lp) (.string val) (.slice A n c)
 have hlt : pb < w.heap.size := World.block_lt_of_cell? w _ hp
 have hp0 := (hbW.cell (p := ⟨pb, 0, none⟩) hlt).trans hp
 have HW := Lib.hid hW
 have HI := Lib.hid (h.upto hbW)
 have HZ := Lib.hid hz
 have HB := Lib.hid hbW
 have HS := Lib.hid hsW
 have hsz : w.heap.size + 1 < W0.heap.size := by omega
 clear hW hz h hsW
 go_enter Tryz.func86, Tryz.ntmps86
 go_wp2_with fail
 rw [← HW.out]
 refine (undoFn_op ⟨key, ls, lp, val, recs⟩ A n c st W0 HI.out).mono ?_
 obtain ⟨x, hx⟩ : ∃ x, x = undoOp st ⟨key, ls, lp, val, recs⟩ := ⟨_, rfl⟩
 rw [← hx]
 have HX := Lib.hid hx
 clear hx
 rintro e w2 ⟨A2, c2, rfl, hr2, hnew, hb2⟩
 have HR := Lib.hid hr2
 have HN := Lib.hid hnew
 have HB2 := Lib.hid hb2
 have hs2 : w.heap.size + 1 < w2.heap.size := by have := hb2.size; omega
 obtain ⟨z0, z1, z2, z3, z4, u0, u1, u2, u3, u4⟩ := zero_facts (HZ.out.keep (hb2.block _ hsz))
 obtain ⟨⟨xk, xl, xp, xv, xr⟩, xe⟩ := x
 clear hr2 hnew hb2
 go_wp2
 obtain ⟨q1, q2, q3⟩ := opOut_end (x := (⟨xk, xl, xp, xv, xr⟩, xe)) HB.out HS.out HB2.out HR.out HN.out (.string xk) (.int .i64 xl) (.string xp) (.string xv) (.slice A2 xr.length c2)
 rw [← HX.out]
 exact bodyPost_ret (v := .tuple #[rowV xk xl xp xv A2 xr.length c2, .int .i64 xe]) (by simp [results, Tryz.results86, go_sem, z0, z1, z2, z3, z4]) rfl ⟨A2, c2, rfl, q1, q2, q3⟩
set_option maxHeartbeats 2000000 in
theorem commitOpFn (r : RowM) (A : Option Addr) (n c : Nat) (st cm : Int) (pb pc : Nat) (w : World) (h : OpIn w r A n c) (hp : w.cell? ⟨pb, 0, none⟩ = some (.int .i64 st)) (hq : w.cell? ⟨pc, 0, none⟩ = some (.int .i64 cm)) :
 Calls Tryz.prog 84 #[rV r A n c, .pointer (some ⟨pb, 0, none⟩), .pointer (some ⟨pc, 0, none⟩)] w (OpOut (commitOp st cm r) w) := by
 obtain ⟨key, ls, lp, val, recs⟩ := r
 obtain ⟨W0, hW, k0, k1, k2, k3, k4, hz, hbW, hsW⟩ := box2_new w (.string key) (.int .i64 ls) (.string lp) (.string val) (.slice A n c)
 have hlt : pb < w.heap.size := World.block_lt_of_cell? w _ hp
 have hlt' : pc < w.heap.size := World.block_lt_of_cell? w _ hq
 have hp0 := (hbW.cell (p := ⟨pb, 0, none⟩) hlt).trans hp
 have hq0 := (hbW.cell (p := ⟨pc, 0, none⟩) hlt').trans hq
 have HW := Lib.hid hW
 have HI := Lib.hid (h.upto hbW)
 have HZ := Lib.hid hz
 have HB := Lib.hid hbW
 have HS := Lib.hid hsW
 have hsz : w.heap.size + 1 < W0.heap.size := by omega
 clear hW hz h hsW
 go_enter Tryz.func84, Tryz.ntmps84
 go_wp2_with fail
 rw [← HW.out]
 refine (commitFn_op ⟨key, ls, lp, val, recs⟩ A n c st cm W0 HI.out).mono ?_
 obtain ⟨x, hx⟩ : ∃ x, x = commitOp st cm ⟨key, ls, lp, val, recs⟩ := ⟨_, rfl⟩
 rw [← hx]
 have HX := Lib.hid hx
 clear hx
 rintro e w2 ⟨A2, c2, rfl, hr2, hnew, hb2⟩
 have HR := Lib.hid hr2
 have HN := Lib.hid hnew
 have HB2 := Lib.hid hb2
 have hs2 : w.heap.size + 1 < w2.heap.size := by have := hb2.size; omega
 obtain ⟨z0, z1, z2, z3, z4, u0, u1, u2, u3, u4⟩ := zero_facts (HZ.out.keep (hb2.block _ hsz))
 obtain ⟨⟨xk, xl, xp, xv, xr⟩, xe⟩ := x
 clear hr2 hnew hb2
 go_wp2
 obtain ⟨q1, q2, q3⟩ := opOut_end (x := (⟨xk, xl, xp, xv, xr⟩, xe)) HB.out HS.out HB2.out HR.out HN.out (.string xk) (.int .i64 xl) (.string xp) (.string xv) (.slice A2 xr.length c2)
 rw [← HX.out]
 exact bodyPost_ret (v := .tuple #[rowV xk xl xp xv A2 xr.length c2, .int .i64 xe]) (by simp [results, Tryz.results84, go_sem, z0, z1, z2, z3, z4]) rfl ⟨A2, c2, rfl, q1, q2, q3⟩
structure LockCells (W : World) (g p1 p2 p3 bC q : Nat) (key : ByteArray) (ls : Int) (lp val : ByteArray) (A : Option Addr) (n c : Nat) (st : Int) (pk pv : ByteArray) : Prop where
 k0 : W.cell? ⟨g, 0, none⟩ = some (.string key)
 k1 : W.cell? ⟨g, 1, none⟩ = some (.int .i64 ls)
 k2 : W.cell? ⟨g, 2, none⟩ = some (.string lp)
 k3 : W.cell? ⟨g, 3, none⟩ = some (.string val)
 k4 : W.cell? ⟨g, 4, none⟩ = some (.slice A n c)
 h1 : W.cell? ⟨p1, 0, none⟩ = some (.pointer (some ⟨bC, q, none⟩))
 h2 : W.cell? ⟨bC, q + 1, none⟩ = some (.int .i64 st)
 h3 : W.cell? ⟨p2, 0, none⟩ = some (.string pk)
 h4 : W.cell? ⟨p3, 1, none⟩ = some (.string pv)
theorem LockCells.keep {W W' : World} {g p1 p2 p3 bC q : Nat} {key : ByteArray} {ls : Int} {lp val : ByteArray} {A : Option Addr} {n c : Nat} {st : Int} {pk pv : ByteArray} (h : LockCells W g p1 p2 p3 bC q key ls lp val A n c st pk pv) (hk : ∀ b o, (b = g ∨ b = p1 ∨ b = bC ∨ b = p2 ∨ b = p3) → W'.cell? ⟨b, o, none⟩ = W.cell? ⟨b, o, none⟩) : LockCells W' g p1 p2 p3 bC q key ls lp val A n c st pk pv :=
 ⟨(hk _ _ (by simp)).trans h.k0, (hk _ _ (by simp)).trans h.k1, (hk _ _ (by simp)).trans h.k2, (hk _ _ (by simp)).trans h.k3, (hk _ _ (by simp)).trans h.k4, (hk _ _ (by simp)).trans h.h1, (hk _ _ (by simp)).trans h.h2, (hk _ _ (by simp)).trans h.h3, (hk _ _ (by simp)).trans h.h4⟩
set_option maxRecDepth 100000 in
set_option maxHeartbeats 4000000 in
theorem lockOpFn (r : RowM) (A : Option Addr) (n c : Nat) (st : Int) (pk pv : ByteArray) (p1 p2 p3 bC q : Nat) (w : World) (h : OpIn w r A n c) (hpk : pk.size ≤ maxLen) (hpv : pv.size ≤ maxLen) (h1 : w.cell? ⟨p1, 0, none⟩ = some (.pointer (some ⟨bC, q, none⟩))) (h2 : w.cell? ⟨bC, q + 1, none⟩ = some (.int .i64 st)) (h3 : w.cell? ⟨p2, 0, none⟩ = some (.string pk)) (h4 : w.cell? ⟨p3, 1, none⟩ = some (.string pv)) :
 Calls Tryz.prog 80 #[rV r A n c, .pointer (some ⟨p1, 0, none⟩), .pointer (some ⟨p2, 0, none⟩), .pointer (some ⟨p3, 0, none⟩)] w (OpOut (lockOp st pk pv r) w) := by
 obtain ⟨key, ls, lp, val, recs⟩ := r
 obtain ⟨W0, hW, k0, k1, k2, k3, k4, hz, hbW, hsW⟩ := box2_new w (.string key) (.int .i64 ls) (.string lp) (.string val) (.slice A n c)
 have l1 : p1 < w.heap.size := World.block_lt_of_cell? w _ h1
 have l2 : bC < w.heap.size := World.block_lt_of_cell? w _ h2
 have l3 : p2 < w.heap.size := World.block_lt_of_cell? w _ h3
 have l4 : p3 < w.heap.size := World.block_lt_of_cell? w _ h4
 have hL : LockCells W0 w.heap.size p1 p2 p3 bC q key ls lp val A n c st pk pv := ⟨k0, k1, k2, k3, k4, (hbW.cell (p := ⟨p1, 0, none⟩) l1).trans h1, (hbW.cell (p := ⟨bC, q + 1, none⟩) l2).trans h2, (hbW.cell (p := ⟨p2, 0, none⟩) l3).trans h3, (hbW.cell (p := ⟨p3, 1, none⟩) l4).trans h4⟩
 have HL := Lib.hid hL
 have HW := Lib.hid hW
 have HI := Lib.hid (h.upto hbW)
 have HZ := Lib.hid hz
 have HB := Lib.hid hbW
 have HS := Lib.hid hsW
 have HPK := Lib.hid hpk
 have HPV := Lib.hid hpv
 have hsz : w.heap.size + 1 < W0.heap.size := by omega
 clear hW hz h hsW hL h1 h2 h3 h4 k0 k1 k2 k3 k4
 go_enter Tryz.func80, Tryz.ntmps80
 go_wp2
 rw [← HW.out]
 refine wp_region_held_drew (S := fun W => W.cell? ⟨w.heap.size, 0, none⟩ = some (.string key) ∧ W.cell? ⟨w.heap.size, 1, none⟩ = some (.int .i64 ls) ∧ W.cell? ⟨w.heap.size, 2, none⟩ = some (.string lp) ∧ W.cell? ⟨w.heap.size, 3, none⟩ = some (.string val) ∧ W.cell? ⟨w.heap.size, 4, none⟩ = some (.slice A n c) ∧
  W.cell? ⟨p1, 0, none⟩ = some (.pointer (some ⟨bC, q, none⟩)) ∧ W.cell? ⟨bC, q + 1, none⟩ = some (.int .i64 st) ∧ W.cell? ⟨p2, 0, none⟩ = some (.string pk) ∧ W.cell? ⟨p3, 1, none⟩ = some (.string pv)) (by kernel_rfl) ?_ (fun hHeld => ?_)
 ·have hl : LockCells W0.drew w.heap.size p1 p2 p3 bC q key ls lp val A n c st pk pv := HL.out.keep fun _ _ _ => rfl
  exact ⟨hl.k0, hl.k1, hl.k2, hl.k3, hl.k4, hl.h1, hl.h2, hl.h3, hl.h4⟩
 refine tq 0 ?_
 refine tq 1 ?_
 refine tq 2 ?_
 refine tq 3 ?_
 refine tq 4 ?_
 refine tq 5 ?_
 refine tq 6 ?_
 refine tq 7 ?_
 (refine cop 8 (h := fun K hK => ?_); go_simp)
 refine (lockFn_op ⟨key, ls, lp, val, recs⟩ A n c st pk pv _ (HI.out.upto (below_drew (Below.refl _ _))) HPK.out HPV.out).mono ?_
 obtain ⟨x, hx⟩ : ∃ x, x = lockOp st pk pv ⟨key, ls, lp, val, recs⟩ := ⟨_, rfl⟩
 rw [← hx]
 have HX := Lib.hid hx
 clear hx
 rintro e w2 ⟨A2, c2, rfl, hr2, hnew, hb2'⟩
 have hb2 : Below W0.heap.size W0 w2 := below_next (below_drew (Below.refl _ _)) hb2'
 have HR := Lib.hid hr2
 have HN := Lib.hid (show NewC W0.heap.size A2 x.1.recs.length c2 from hnew)
 have HB2 := Lib.hid hb2
 have hs2 : w.heap.size + 1 < w2.heap.size := by have := hb2.size; omega
 obtain ⟨z0, z1, z2, z3, z4, u0, u1, u2, u3, u4⟩ := zero_facts (HZ.out.keep (hb2.block _ hsz))
 have hL2 : LockCells w2 w.heap.size p1 p2 p3 bC q key ls lp val A n c st pk pv := HL.out.keep fun b o hb => hb2.cell (p := ⟨b, o, none⟩) (by show b < _; omega)
 have HL2 := Lib.hid hL2
 obtain ⟨⟨xk, xl, xp, xv, xr⟩, xe⟩ := x
 clear hr2 hnew hb2 hb2' hL2 hHeld
 (refine hK.out _ _ ?_ (fun hHeld => ?_); exact ⟨HL2.out.k0, HL2.out.k1, HL2.out.k2, HL2.out.k3, HL2.out.k4, HL2.out.h1, HL2.out.h2, HL2.out.h3, HL2.out.h4⟩; clear hK K)
 refine tq 9 ?_
 refine tq 10 ?_
 clear hHeld
 (refine cop 11 (h := fun K hK => ?_); go_simp)
 have hL3 : LockCells (set5 w2 (w.heap.size + 1) 0 (.string xk) (.int .i64 xl) (.string xp) (.string xv) (.slice A2 xr.length c2)) w.heap.size p1 p2 p3 bC q key ls lp val A n c st pk pv := HL2.out.keep fun b o hb => (set5_same w2 (w.heap.size + 1) 0 (.string xk) (.int .i64 xl) (.string xp) (.string xv) (.slice A2 xr.length c2)).cell _ fun e => by
  have e1 : b = w.heap.size + 1 := e.1
  omega
 have HL3 := Lib.hid hL3
 clear hL3
 (refine hK.out _ _ ?_ (fun hHeld => ?_); exact ⟨HL3.out.k0, HL3.out.k1, HL3.out.k2, HL3.out.k3, HL3.out.k4, HL3.out.h1, HL3.out.h2, HL3.out.h3, HL3.out.h4⟩; clear hK K)
 refine tq 12 ?_
 refine wpAnyH_done (by kernel_rfl) ?_ _
 clear hHeld
 go_wp2
 obtain ⟨q1, q2, q3⟩ := opOut_end (x := (⟨xk, xl, xp, xv, xr⟩, xe)) HB.out HS.out HB2.out HR.out HN.out (.string xk) (.int .i64 xl) (.string xp) (.string xv) (.slice A2 xr.length c2)
 rw [← HX.out]
 exact bodyPost_ret (v := .tuple #[rowV xk xl xp xv A2 xr.length c2, .int .i64 xe]) (by simp [results, Tryz.results80, go_sem, z0, z1, z2, z3, z4]) rfl ⟨A2, c2, rfl, q1, q2, q3⟩
theorem chg_found {rows : List RowM} {key : ByteArray} {op : RowM → RowM × Int} {r : RowM} {x : RowM × Int} (hk : hasK (rowKeys rows) key = true) (hr : r = rowAt rows key) (hx : x = op r) : chgRow rows key op = (if x.2 = 0 then rows.set (lowIx (rowKeys rows) key) x.1 else rows, x.2) := by
 rw [chgRow, if_pos hk, hx, hr]
theorem chg_full {rows : List RowM} {key : ByteArray} {op : RowM → RowM × Int} (hk : hasK (rowKeys rows) key = false) (h : 40 ≤ rows.length) : chgRow rows key op = (rows, 1) := by
 rw [chgRow, hk]; simp [h]
theorem chg_new {rows : List RowM} {key : ByteArray} {op : RowM → RowM × Int} {x : RowM × Int} (hk : hasK (rowKeys rows) key = false) (h : ¬ 40 ≤ rows.length) (hx : x = op (freshRow key)) : chgRow rows key op = (if x.2 = 0 then rows.take (lowIx (rowKeys rows) key) ++ x.1 :: rows.drop (lowIx (rowKeys rows) key) else rows, x.2) := by
 rw [chgRow, hk, hx]; simp [h]
theorem Same.drew {W W' : World} {S : Addr → Prop} (h : Same W W' S) : Same W W'.drew S := ⟨h.cell, h.fr, h.sz⟩
theorem Keeps.drew {B : Nat} {Z : Nat → Prop} {w w' : World} (h : Keeps B Z w w') : Keeps B Z w w'.drew := ⟨h.bel.drew, h.z⟩
theorem drew_heap (W : World) : W.drew.heap = W.heap := rfl
theorem turn_set5 {bx bR n rc : Nat} {w W : World} (hb : Below w.heap.size w W) (h0 : w.cell? ⟨bx, 0, none⟩ = some (.slice (some ⟨bR, 0, none⟩) n rc)) (o : Nat) (v0 v1 v2 v3 v4 : Value) : RowsTurn bx w (set5 W bR o v0 v1 v2 v3 v4).drew := by
 intro bR' n' rc' h' b hlt hne
 rw [h0] at h'
 have hbe : bR = bR' := by injection h' with h'; injection h' with h'; injection h' with h'; injection h'
 rw [drew_heap, set5_heap W bR o v0 v1 v2 v3 v4 (by omega)]
 exact hb.block b hlt
theorem Own.drew {w : World} {t : Bool} {Z : Nat → Prop} {B bx bC : Nat} {wo : WoM} (h : Own w t Z B bx bC wo) : Own w.drew t Z B bx bC wo := h.upto (below_drew (Below.refl _ _))
theorem Own.loose {w : World} {t : Bool} {Z : Nat → Prop} {B bx bC : Nat} {wo : WoM} (h : Own w t Z B bx bC wo) : Own w false Z B bx bC wo := by
 obtain ⟨bR, rc, wb, c0, hrc, _, hco⟩ := h.core
 exact ⟨h.xB, h.xZ, h.zlt, h.xf, h.x1, h.x2, bR, rc, wb, c0, hrc, (fun e => by cases e), hco⟩
end Go.Proofs.YtambkjnhfejfaaaGreat
