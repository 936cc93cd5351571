/-
  Contracts of functions of the program and words for memory, several texts in one: Seq, TCopyWalk, TInsWalk. Conditions: those stated with each.
-/
import Derived.Test.YtambkjnhfejfaacDoorG00
import Derived.Test.YtambkjnhfejfaacDoorG03
import Derived.StillTailTactics
namespace Go.Proofs.YtambkjnhfejfaacDoor
open Go.RowKit

/-- An element's cells. -/
structure Cells (α : Type) where
  cs : α → List Value
  sz : Nat
  len : ∀ a, (cs a).length = sz
  one : ∀ a, ∀ v ∈ cs a, v.oneCell' = true
  pos : 0 < sz
section
variable {α : Type} (C : Cells α)
/-- The cells of a list of elements. -/
def Cells.all (l : List α) : List Value := l.flatMap C.cs
theorem Cells.all_append (a b : List α) : C.all (a ++ b) = C.all a ++ C.all b := by simp [Cells.all]
theorem Cells.all_length (l : List α) : (C.all l).length = l.length * C.sz := by
  induction l with
  | nil => simp [Cells.all]
  | cons x l ih =>
    have : C.all (x :: l) = C.cs x ++ C.all l := rfl
    rw [this, List.length_append, ih, C.len, List.length_cons, Nat.succ_mul]; omega
theorem Cells.all_one (l : List α) : ∀ v ∈ C.all l, v.oneCell' = true := by
  intro v hv
  obtain ⟨a, _, ha⟩ := List.mem_flatMap.1 hv
  exact C.one a v ha
theorem Cells.all_at {l : List α} {i j : Nat} {a : α} (h : l[i]? = some a) (hj : j < C.sz) : (C.all l)[i * C.sz + j]? = (C.cs a)[j]? := by
  induction l generalizing i with
  | nil => cases h
  | cons x l ih =>
    have e : C.all (x :: l) = C.cs x ++ C.all l := rfl
    rw [e]
    cases i with
    | zero =>
      simp only [List.getElem?_cons_zero, Option.some.injEq] at h
      subst h
      rw [Nat.zero_mul, Nat.zero_add, List.getElem?_append_left (by rw [C.len]; exact hj)]
    | succ i =>
      rw [List.getElem?_append_right (by rw [C.len, Nat.succ_mul]; omega), C.len, show (i + 1) * C.sz + j - C.sz = i * C.sz + j by rw [Nat.succ_mul]; omega]
      exact ih (by simpa using h)
/-- The cells of an element lie at an address. -/
def Cells.At (w : World) (b o : Nat) (a : α) : Prop := ∀ j v, (C.cs a)[j]? = some v → w.cell? ⟨b, o + j, none⟩ = some v
/-- A slice value that owns elements. -/
def Cells.Owns (w : World) (base : Nat) (e : TypeId) (v : Value) (l : List α) : Prop := w.ownsRow base e C.sz v l.length (C.all l)
variable {C}
theorem Cells.Owns.nil (w : World) (base : Nat) (e : TypeId) : C.Owns w base e (.slice none 0 0) [] := World.ownsRow_nil _ _ _ _
/-- What is owned lies in memory. -/
theorem Cells.Owns.at_ {w : World} {base : Nat} {e : TypeId} {v : Value} {l : List α} (h : C.Owns w base e v l) {mx : Nat} (hlen : l.length ≤ mx) :
    ∃ A c, v = .slice A l.length c ∧ l.length ≤ c ∧ SeqAt (fun b => base ≤ b ∧ b < w.heap.size) C.sz mx (C.At w) A l := by
  rcases h.2 with ⟨hv, h0⟩ | ⟨g, cap, cur, hv, hb, hh, hc, _, _, ht⟩
  · have : l = [] := List.eq_nil_of_length_eq_zero h0
    subst this
    exact ⟨none, 0, hv, Nat.le_refl _, SeqAt.nil_ _⟩
  · refine ⟨some ⟨g, 0, none⟩, cap, hv, hc, SeqAt.block hlen ⟨hb, (Array.getElem?_eq_some_iff.1 hh).1⟩ fun i x hx j u hj => ?_⟩
    have hjs : j < C.sz := by rw [← C.len x]; exact (List.getElem?_eq_some_iff.1 hj).1
    have h1 := C.all_at hx hjs
    rw [hj, ← ht, List.getElem?_take] at h1
    split at h1
    · rw [Joins.cell_of_block hh]; simpa using h1
    · cases h1
theorem Cells.Owns.kept {w w' : World} {base : Nat} {e : TypeId} {v : Value} {l : List α} (h : C.Owns w base e v l) (hb : Below w.heap.size w w') : C.Owns w' base e v l := by
  rcases h.2 with h0 | ⟨g, cap, cur, hv, hg, hh, r⟩
  · exact ⟨h.1, .inl h0⟩
  · exact ⟨h.1, .inr ⟨g, cap, cur, hv, hg, (hb.block g (Array.getElem?_eq_some_iff.1 hh).1).trans hh, r⟩⟩
theorem Cells.Owns.blk {w w' : World} {base : Nat} {e : TypeId} {v : Value} {l : List α} (h : C.Owns w base e v l) (hk : ∀ g, base ≤ g → g < w.heap.size → w'.heap[g]? = w.heap[g]?) : C.Owns w' base e v l := by
  rcases h.2 with h0 | ⟨g, cap, cur, hv, hg, hh, r⟩
  · exact ⟨h.1, .inl h0⟩
  · exact ⟨h.1, .inr ⟨g, cap, cur, hv, hg, (hk g hg (Array.getElem?_eq_some_iff.1 hh).1).trans hh, r⟩⟩
/-- A slice of elements in memory, its cells. -/
theorem Cells.src {w : World} {P : Nat → Prop} {mx b o : Nat} {l : List α} (h : SeqAt P C.sz mx (C.At w) (some ⟨b, o, none⟩) l) : ∀ j u, (C.all l)[j]? = some u → w.cell? ((⟨b, o, none⟩ : Addr).add j) = some u := by
  intro j u hj
  have hp := C.pos
  have hjl : j < l.length * C.sz := by rw [← C.all_length]; exact (List.getElem?_eq_some_iff.1 hj).1
  have hi : j / C.sz < l.length := Nat.div_lt_of_lt_mul (by rw [Nat.mul_comm]; exact hjl)
  obtain ⟨b', o', hA, _, hx⟩ := SeqAt.at_ h (List.getElem?_eq_getElem hi)
  obtain ⟨rfl, rfl⟩ : b = b' ∧ o = o' := by injection hA with e; injection e with e1 e2; exact ⟨e1, e2⟩
  have hm : j % C.sz < C.sz := Nat.mod_lt _ hp
  have hdm : j / C.sz * C.sz + j % C.sz = j := by rw [Nat.mul_comm]; exact Nat.div_add_mod j C.sz
  have h1 := C.all_at (List.getElem?_eq_getElem hi) hm
  rw [hdm, hj] at h1
  rw [add_none, ← hdm, ← Nat.add_assoc]
  exact hx _ _ h1.symm
set_option maxRecDepth 100000 in
/-- append(v, elements...), and what it leaves: a slice that owns all of them; nothing below the base has turned. -/
theorem app_seq {t e ty : TypeId} {i0 : TypeInfo} {z : Value} {bytes mx : Nat} (hu : Tryd.prog.underlying t = some (.slice e)) (hi0 : Tryd.prog.info? e = some i0) (hz0 : i0.zero = some z) (hz1 : i0.size = C.sz) (hz2 : i0.bytes = bytes) (hz3 : z.cells.size = C.sz)
    (W w0 : World) (base m c : Nat) (v : Value) (l0 : List α) (A : Option Addr) (l : List α) (P : Nat → Prop) (hown : C.Owns W base e v l0) (hm : m = l.length) (hl : SeqAt P C.sz mx (C.At W) A l)
    (hbd : l0.length + l.length ≤ 100000) (hby : bytes ≤ 1000) (hbase : base ≤ W.heap.size) (hb : Below base w0 W) :
    ∃ v' w', (Builtin.append_ #[t, t] ty #[v, .slice A m c]).run Tryd.prog W = .ok v' w' ∧ ∃ A' c', v' = .slice A' (l0 ++ l).length c' ∧ C.Owns w' base e (.slice A' (l0 ++ l).length c') (l0 ++ l) ∧ Below base w0 w' ∧ W.heap.size ≤ w'.heap.size := by
  subst hm
  have key : ∃ v' w', (Builtin.append_ #[t, t] ty #[v, .slice A l.length c]).run Tryd.prog W = .ok v' w' ∧ C.Owns w' base e v' (l0 ++ l) ∧ W.grownBy w' v.ownBlock := by
    cases A with
    | none =>
      have h0 : l = [] := by
        rcases Nat.eq_zero_or_pos l.length with h0 | h0
        · exact List.eq_nil_of_length_eq_zero h0
        · obtain ⟨b, o, h, _⟩ := hl.2 h0; cases h
      subst h0
      refine ⟨v, W, ?_, by simpa using hown, World.grownBy.refl W _⟩
      rcases hown.2 with ⟨rfl, h0⟩ | ⟨g, cap, cur, rfl, _, _, hnc, _⟩
      · simp [Builtin.append_, run_underlying hu, sizeOf, typeInfo, hi0, Builtin.lenOf, Builtin.firstCells]
      · simp [Builtin.append_, run_underlying hu, sizeOf, typeInfo, hi0, Builtin.lenOf, Builtin.firstCells, hnc, storeCells]
    | some a =>
      have hsrc : ∀ j u, (C.all l)[j]? = some u → W.cell? (a.add j) = some u := by
        intro j u hj
        have hjl := (List.getElem?_eq_some_iff.1 hj).1
        rw [C.all_length] at hjl
        have hl0 : 0 < l.length := by
          rcases Nat.eq_zero_or_pos l.length with h0 | h0
          · rw [h0, Nat.zero_mul] at hjl; omega
          · exact h0
        obtain ⟨b, o, hA, _, _⟩ := hl.2 hl0
        injection hA with hA
        subst hA
        exact Cells.src hl j u hj
      have hnb : (l0.length + l.length) * bytes ≤ 100000 * 1000 := Nat.mul_le_mul hbd hby
      obtain ⟨v', w', h1, h2, h3, _, h5⟩ := run_append_own_at (P := Tryd.prog) W base t ty e i0 _ C.sz bytes hu hi0 hz0 hz1 hz2 hz3 C.pos v l0.length (C.all l0) hown a l.length c (C.all l)
        (C.all_length l) hsrc (C.all_one l) (by simp only [maxLen]; omega) (by omega) hbase
      refine ⟨v', w', h1, ?_, h3⟩
      unfold Cells.Owns
      rw [List.length_append, C.all_append]
      exact h2
  obtain ⟨v', w', h1, h2, h3⟩ := key
  obtain ⟨A', c', hv, _⟩ := h2.at_ (mx := 100000) (by simpa using hbd)
  subst hv
  exact ⟨_, w', h1, A', c', rfl, h2, hb.grown h3 hbase (fun k hk => (World.ownsRow.lt hown k hk).1), h3.size⟩
/-- One element in a new block. -/
theorem one_seq {e : TypeId} (w : World) (a : α) : SeqAt (fun b => b = w.heap.size) C.sz 100000 (C.At (w.alloc (.cells (C.cs a).toArray e))) (some ⟨w.heap.size, 0, none⟩) [a] :=
  SeqAt.block (by simp) rfl fun i x hx j v hj => by
    have hi : i = 0 := by have := (List.getElem?_eq_some_iff.1 hx).1; simp at this; exact this
    subst hi
    simp only [List.getElem?_cons_zero, Option.some.injEq] at hx
    subst hx
    rw [World.cell?_alloc_new, Nat.zero_mul, Nat.zero_add]
    simpa using hj
/-- A slice that is made of one new block. -/
theorem Cells.Owns.block {w : World} {base g : Nat} {e : TypeId} {l : List α} {cur : Array Value} (hb : base ≤ g) (hh : w.heap[g]? = some (.cells cur e (0, 0))) (hc : cur.toList = C.all l) (hl : l.length ≤ 100000) : C.Owns w base e (.slice (some ⟨g, 0, none⟩) l.length l.length) l :=
  ⟨C.all_length l, .inr ⟨g, l.length, cur, rfl, hb, hh, Nat.le_refl _, by simp only [maxLen]; omega, by rw [← Array.length_toList, hc, C.all_length], by rw [hc, ← C.all_length]; exact List.take_length⟩⟩
end
end Go.Proofs.YtambkjnhfejfaacDoor

namespace Go.Proofs.YtambkjnhfejfaacDoor
open Go.RowKit

set_option maxHeartbeats 2000000 in
theorem copyWo_any (wo : WoM) (RA : Option Addr) (n rc : Nat) (CA : Option Addr) (m cc : Nat) (w : World) (hin : WoIn w RA n rc CA m cc wo) :
    Calls Tryd.prog 16 #[woV RA n rc wo.clock CA m cc] w (WoOut wo w) := by
  have hn := hin.hn
  have hm := hin.hm
  subst hn hm
  have hlr := hin.rows.1
  have hlc := hin.cls.1
  obtain ⟨Z, hZ, hmk⟩ := make_rows wo.rows.length hlr
  obtain ⟨Z', hzz, hZ', hmk'⟩ := make_cls wo.cls.length hlc
  clear hzz
  obtain ⟨W2, hW2⟩ : ∃ W2, W2 = (w.alloc (.cells #[.slice RA wo.rows.length rc, .int .i64 wo.clock, .slice CA wo.cls.length cc] 27)).alloc (.cells #[.slice none 0 0, .int .i64 0, .slice none 0 0] 27) := ⟨_, rfl⟩
  have hb2 : Below w.heap.size w W2 := by rw [hW2]; repeat (first | with_reducible exact Below.refl _ _ | assumption | with_reducible apply below_alloc | with_reducible apply below_drew | with_reducible apply below_drewN | (with_reducible apply below_next; rotate_left; assumption))
  have hs2 : W2.heap.size = w.heap.size + 2 := by rw [hW2]; simp
  have HW := Lib.hid hW2
  have HI := Lib.hid hin
  have HB2 := Lib.hid hb2
  have HS2 := Lib.hid hs2
  have HZ := Lib.hid hZ
  have HZ' := Lib.hid hZ'
  clear hW2 hin hb2 hs2 hZ hZ'
  go_enter Tryd.func16, Tryd.ntmps16
  go_wp2
  go_loopw [16] (fun i wr => ∃ k : Nat, k ≤ wo.rows.length ∧ i = .int .i64 k ∧ RowsDone (w.heap.size + 2) wo.rows k wr ∧ Below (w.heap.size + 2) W2 wr) (fun i _ => wo.rows.length - (intOf i).toNat)
  case atStart =>
    refine ⟨0, Nat.zero_le _, rfl, ⟨⟨Z, ?_, HZ.out⟩, fun i r hi => by omega⟩, ?_⟩
    · have h := heap_alloc_new W2 (.cells Z 61)
      rw [HS2.out] at h
      rw [← HW.out]; exact h
    · rw [← HW.out]; exact (Below.refl _ _).alloc (by rw [HS2.out]; exact Nat.le_refl _) _
  case round =>
    obtain ⟨k, hk, rfl, hd, hb⟩ := hrel
    have hbw : Below w.heap.size w wr := HB2.out.trans (hb.mono (by omega))
    by_cases hm : k < wo.rows.length
    · obtain ⟨b, o, rfl, hbb, hr⟩ := (HI.out.upto hbw).rows.at_ (getD_some (d := default) hm)
      obtain ⟨r, hr0⟩ : ∃ r, r = wo.rows.getD k default := ⟨_, rfl⟩
      rw [← hr0] at hr
      have c0 := hr.ck
      have c1 := hr.cs
      have c2 := hr.cp
      have c3 := hr.cv
      obtain ⟨A, c, c4, hc, hri⟩ := hr.rowIn (fun _ h => h)
      have HR := Lib.hid hr0
      have HD := Lib.hid hd
      have HB := Lib.hid hb
      have HRI := Lib.hid hri
      have hok := Lib.hid hr.ok
      have hC := Lib.hid hc
      have j0 : (0 : Int) ≤ (k : Int) := by omega
      obtain ⟨key, ls, lp, val, recs⟩ := r
      dsimp only at c0 c1 c2 c3 c4
      clear hr0 hd hb hri hr hc hbw
      go_wp2_with fail
      refine (copy_any key lp val ls A recs.length c recs _ rfl (HRI.out.l.upto (below_alloc (Below.refl _ _) _))).mono ?_
      rintro e w1 ⟨A1, c1, rfl, hr1, hnew, hb1⟩
      have hwr1 : Below wr.heap.size wr w1 := below_next (below_alloc (Below.refl _ _) _) hb1
      have hd1 := HD.out.upto hwr1
      obtain ⟨v0, e0, f0⟩ : ∃ v, w1.cell? ⟨w.heap.size + 1 + 1, k * 5, none⟩ = some v ∧ w1.frozen? ⟨w.heap.size + 1 + 1, k * 5, none⟩ = false := hd1.cell hm 0 (by omega)
      obtain ⟨v1, e1, f1⟩ : ∃ v, w1.cell? ⟨w.heap.size + 1 + 1, k * 5 + 1, none⟩ = some v ∧ w1.frozen? ⟨w.heap.size + 1 + 1, k * 5 + 1, none⟩ = false := hd1.cell hm 1 (by omega)
      obtain ⟨v2, e2, f2⟩ : ∃ v, w1.cell? ⟨w.heap.size + 1 + 1, k * 5 + 2, none⟩ = some v ∧ w1.frozen? ⟨w.heap.size + 1 + 1, k * 5 + 2, none⟩ = false := hd1.cell hm 2 (by omega)
      obtain ⟨v3, e3, f3⟩ : ∃ v, w1.cell? ⟨w.heap.size + 1 + 1, k * 5 + 3, none⟩ = some v ∧ w1.frozen? ⟨w.heap.size + 1 + 1, k * 5 + 3, none⟩ = false := hd1.cell hm 3 (by omega)
      obtain ⟨v4, e4, f4⟩ : ∃ v, w1.cell? ⟨w.heap.size + 1 + 1, k * 5 + 4, none⟩ = some v ∧ w1.frozen? ⟨w.heap.size + 1 + 1, k * 5 + 4, none⟩ = false := hd1.cell hm 4 (by omega)
      have HD1 := Lib.hid hd1
      have HR1 := Lib.hid hr1
      have HN1 := Lib.hid hnew
      have HWR := Lib.hid hwr1
      have hC2 := Lib.hid (show recs.length ≤ c1 from hnew.2)
      clear hd1 hr1 hnew hb1 hwr1
      go_wp2
      go_roundw
      case rel =>
        refine ⟨k + 1, by omega, by go_num, ?_, ?_⟩
        · refine HD1.out.step (r := ⟨key, ls, lp, val, recs⟩) (HR.out ▸ getD_some hm) HR1.out (fun ad h => ?_) hC2.out hok.out
          have := HN1.out.1 ad h
          have h2 := HD.out.lt
          have h3 : (wr.alloc (.cells #[.string key, .int .i64 ls, .string lp, .string val, .slice A recs.length c] 61)).heap.size = wr.heap.size + 1 := by simp
          omega
        · refine below_set5 ?_ (Nat.le_refl _) _ _ _ _ _ _
          exact HB.out.trans (HWR.out.mono (by have := HD.out.lt; omega))
      case measure => simp [intOf]; omega
    · have hke : k = wo.rows.length := by omega
      subst hke
      have HD := Lib.hid hd
      have HB := Lib.hid hb
      have HBW := Lib.hid hbw
      have g1 : wr.cell? ⟨w.heap.size, 1, none⟩ = some (.int .i64 wo.clock) := by rw [hb.cell (p := ⟨w.heap.size, 1, none⟩) (by show w.heap.size < w.heap.size + 2; omega), HW.out]; simp
      have g2 : wr.cell? ⟨w.heap.size, 2, none⟩ = some (.slice CA wo.cls.length cc) := by rw [hb.cell (p := ⟨w.heap.size, 2, none⟩) (by show w.heap.size < w.heap.size + 2; omega), HW.out]; simp
      have hsw : w.heap.size + 2 < wr.heap.size := hd.lt
      have hsw1 : w.heap.size + 1 < wr.heap.size := by omega
      have hsw0 : w.heap.size < wr.heap.size := by omega
      clear hd hb hbw
      obtain ⟨w3, rfl⟩ : ∃ w3, w3 = wr := ⟨_, rfl⟩
      go_wp2
      go_loopw [34] (fun i wr => ∃ (k : Nat) (wb : Nat → Nat), k ≤ wo.cls.length ∧ i = .int .i64 k ∧ ClsDone w3.heap.size wo.cls k wb wr ∧ Below w3.heap.size w3 wr) (fun i _ => wo.cls.length - (intOf i).toNat)
      case atStart =>
        refine ⟨0, fun _ => 0, Nat.zero_le _, rfl, ⟨⟨Z', heap_alloc_new w3 (.cells Z' 54), HZ'.out⟩, fun i r hi => by omega, fun i hi => by omega, fun i j _ hj => by omega, fun i o hi => by omega, fun i c hi => by omega⟩, below_alloc (Below.refl _ _) _⟩
      case round =>
        obtain ⟨k, wb, hk, rfl, hd, hb⟩ := hrel
        have hbw : Below w.heap.size w wr := below_next HBW.out hb
        by_cases hm : k < wo.cls.length
        · obtain ⟨b, o, rfl, hbb, hr⟩ := (HI.out.upto hbw).cls.at_ (getD_some (d := default) hm)
          obtain ⟨r, hr0⟩ : ∃ r, r = wo.cls.getD k default := ⟨_, rfl⟩
          rw [← hr0] at hr
          have c0 := hr.cp
          have c1 := hr.cs
          have c2 := hr.cm
          obtain ⟨A, c, c3, hc, hri⟩ := hr.cw
          have c4 := hr.ca
          have HR := Lib.hid hr0
          have HD := Lib.hid hd
          have HB := Lib.hid hb
          have HRI := Lib.hid hri
          have hok := Lib.hid hr.ok
          have hC := Lib.hid hc
          have j0 : (0 : Int) ≤ (k : Int) := by omega
          obtain ⟨ph, st, cm, ws, at_⟩ := r
          dsimp only at c0 c1 c2 c3 c4
          clear hr0 hd hb hri hr hc hbw
          go_wp2_with fail
          have hal : Below wr.heap.size wr (wr.alloc (.cells #[.int .i64 ph, .int .i64 st, .int .i64 cm, .slice A ws.length c, .int .i64 at_] 54)) := below_alloc (Below.refl _ _) _
          refine (copyClient_any ⟨ph, st, cm, ws, at_⟩ A ws.length c _ rfl (SeqAt.wrs HRI.out (below_mem hal).1 (below_mem hal).2)).mono ?_
          rintro e w1 ⟨rfl, hr1, hlt1, hf1, hb1⟩
          dsimp only at hr1
          have hwr1 : Below wr.heap.size wr w1 := below_next hal hb1
          have hsa : (wr.alloc (.cells #[.int .i64 ph, .int .i64 st, .int .i64 cm, .slice A ws.length c, .int .i64 at_] 54)).heap.size = wr.heap.size + 1 := by simp
          rw [hsa] at hr1 hlt1
          have hf1' : ∀ o, w1.frozen? ⟨wr.heap.size + 1 + 2, o, none⟩ = false := fun o => by have := hf1 o; rwa [hsa] at this
          have hd1 := HD.out.upto hwr1
          obtain ⟨v0, e0, f0⟩ : ∃ v, w1.cell? ⟨w3.heap.size, k * 5, none⟩ = some v ∧ w1.frozen? ⟨w3.heap.size, k * 5, none⟩ = false := hd1.cell hm 0 (by omega)
          obtain ⟨v1, e1, f1⟩ : ∃ v, w1.cell? ⟨w3.heap.size, k * 5 + 1, none⟩ = some v ∧ w1.frozen? ⟨w3.heap.size, k * 5 + 1, none⟩ = false := hd1.cell hm 1 (by omega)
          obtain ⟨v2, e2, f2⟩ : ∃ v, w1.cell? ⟨w3.heap.size, k * 5 + 2, none⟩ = some v ∧ w1.frozen? ⟨w3.heap.size, k * 5 + 2, none⟩ = false := hd1.cell hm 2 (by omega)
          obtain ⟨v3, e3, f3⟩ : ∃ v, w1.cell? ⟨w3.heap.size, k * 5 + 3, none⟩ = some v ∧ w1.frozen? ⟨w3.heap.size, k * 5 + 3, none⟩ = false := hd1.cell hm 3 (by omega)
          obtain ⟨v4, e4, f4⟩ : ∃ v, w1.cell? ⟨w3.heap.size, k * 5 + 4, none⟩ = some v ∧ w1.frozen? ⟨w3.heap.size, k * 5 + 4, none⟩ = false := hd1.cell hm 4 (by omega)
          have HD1 := Lib.hid hd1
          have HR1 := Lib.hid hr1
          have HF1 := Lib.hid hf1'
          have HLT := Lib.hid hlt1
          have HWR := Lib.hid hwr1
          clear hd1 hr1 hf1 hf1' hlt1 hsa hb1 hwr1 hal
          go_wp2
          go_roundw
          case rel =>
            refine ⟨k + 1, fun i => if i = k then wr.heap.size + 1 + 2 else wb i, by omega, by go_num, ?_, ?_⟩
            · refine HD1.out.step (b := wr.heap.size + 1 + 2) (c := ⟨ph, st, cm, ws, at_⟩) (HR.out ▸ getD_some hm) HR1.out ?_ HLT.out ?_ HF1.out hok.out
              · have := HD.out.lt
                omega
              · intro i hi
                have := (HD.out.wB i hi).2
                omega
            · refine below_set5 ?_ (Nat.le_refl _) _ _ _ _ _ _
              exact HB.out.trans (HWR.out.mono (by have := HB.out.size; omega))
          case measure => simp [intOf]; omega
        · have hke : k = wo.cls.length := by omega
          subst hke
          have hz : Below (w.heap.size + 2) W2 wr := HB.out.trans (hb.mono (by omega))
          have q1 : wr.cell? ⟨w.heap.size, 1, none⟩ = some (.int .i64 wo.clock) := (hb.cell (p := ⟨w.heap.size, 1, none⟩) hsw0).trans g1
          have z0 : wr.cell? ⟨w.heap.size + 1, 0, none⟩ = some (.slice none 0 0) := by rw [hz.cell (p := ⟨w.heap.size + 1, 0, none⟩) (by show w.heap.size + 1 < w.heap.size + 2; omega), HW.out]; simp
          have z1 : wr.cell? ⟨w.heap.size + 1, 1, none⟩ = some (.int .i64 0) := by rw [hz.cell (p := ⟨w.heap.size + 1, 1, none⟩) (by show w.heap.size + 1 < w.heap.size + 2; omega), HW.out]; simp
          have z2 : wr.cell? ⟨w.heap.size + 1, 2, none⟩ = some (.slice none 0 0) := by rw [hz.cell (p := ⟨w.heap.size + 1, 2, none⟩) (by show w.heap.size + 1 < w.heap.size + 2; omega), HW.out]; simp
          have y : ∀ o, wr.frozen? ⟨w.heap.size + 1, o, none⟩ = false := by
            intro o
            rw [hz.frozen (p := ⟨w.heap.size + 1, o, none⟩) (by show w.heap.size + 1 < w.heap.size + 2; omega), HW.out]
            have := World.frozen?_alloc_new (w.alloc (.cells #[.slice RA wo.rows.length rc, .int .i64 wo.clock, .slice CA wo.cls.length cc] 27)) #[.slice none 0 0, .int .i64 0, .slice none 0 0] 27 o
            rwa [show (w.alloc (.cells #[.slice RA wo.rows.length rc, .int .i64 wo.clock, .slice CA wo.cls.length cc] 27)).heap.size = w.heap.size + 1 from by simp] at this
          have y0 := y 0
          have y1 := y 1
          have y2 := y 2
          have HD' := Lib.hid hd
          have HB' := Lib.hid hb
          clear hd hb hbw hz y
          go_wp2
          have hs := set3_same wr (w.heap.size + 1) (.slice (some ⟨w.heap.size + 1 + 1, 0, none⟩) wo.rows.length wo.rows.length) (.int .i64 wo.clock) (.slice (some ⟨w3.heap.size, 0, none⟩) wo.cls.length wo.cls.length)
          have hg : ∀ g, w.heap.size + 1 < g → (set3 wr (w.heap.size + 1) (.slice (some ⟨w.heap.size + 1 + 1, 0, none⟩) wo.rows.length wo.rows.length) (.int .i64 wo.clock) (.slice (some ⟨w3.heap.size, 0, none⟩) wo.cls.length wo.cls.length)).heap[g]? = wr.heap[g]? := fun g hg => set3_heap _ _ _ _ _ (by omega)
          refine bodyPost_ret (v := woV (some ⟨w.heap.size + 1 + 1, 0, none⟩) wo.rows.length wo.rows.length wo.clock (some ⟨w3.heap.size, 0, none⟩) wo.cls.length wo.cls.length) (by simp [results, Tryd.results16, go_sem, z0, z1, z2]) rfl ⟨w.heap.size + 1 + 1, w3.heap.size, wb, rfl, ?_, ?_, fun i c hc => ?_⟩
          · refine core_of ((HD.out.upto HB'.out).same hs (fun p e => by show p.block < _; rw [e]; omega) (hg _ (by omega))) (HD'.out.same hs (fun p e => by rw [e]; exact hsw1) (hg _ hsw1)) (by omega) (by omega) (fun i r hr => ?_) hlr hlc HI.out.ck
            refine (HD.out.rows i r (List.getElem?_eq_some_iff.1 hr).1 hr).mono (fun b hb => hb) (fun b k hb => ?_) (fun k _ _ => ?_)
            · rw [hs.cell _ (fun e => by have : b = w.heap.size + 1 := e; omega)]
              exact HB'.out.cell (p := ⟨b, k, none⟩) hb.2
            · rw [hs.cell _ (fun e => by have : w.heap.size + 2 = w.heap.size + 1 := e; omega)]
              exact HB'.out.cell (p := ⟨w.heap.size + 2, k, none⟩) hsw
          · have hbw : Below w.heap.size w wr := below_next HBW.out HB'.out
            repeat (refine below_set ?_ (by simp) _)
            exact hbw
          · exact (hs.cell _ (fun e => by have : w3.heap.size = w.heap.size + 1 := e; omega)).trans (HD'.out.tight i c (List.getElem?_eq_some_iff.1 hc).1 hc)
end Go.Proofs.YtambkjnhfejfaacDoor

namespace Go.Proofs.YtambkjnhfejfaacDoor
open Go.RowKit

/-- What slices.Insert returns: a slice of a new block. -/
def InsOut (sz : Nat) (cs vs : List Value) (n i : Nat) (w : World) (e : Ending) (w' : World) : Prop :=
  ∃ g c, e = .returned (.slice (some ⟨g, 0, none⟩) (n + 1) c) ∧ n + 1 ≤ c ∧ w.heap.size ≤ g ∧ g < w'.heap.size ∧ CellsAt w' g 0 (cs.take (i * sz) ++ vs ++ cs.drop (i * sz)) ∧ (∀ o, w'.frozen? ⟨g, o, none⟩ = false) ∧ Below w.heap.size w w'

theorem int_under : Tryd.prog.underlying 3 = some (.int .i64) := Tryd.underlying3

set_option maxRecDepth 100000 in
set_option maxHeartbeats 2000000 in
theorem insRow_mid (b bv n i : Nat) (cs vs : List Value) (w : World) (hcl : cs.length = n * 5) (hvl : vs.length = 5) (hc : CellsAt w b 0 cs) (hv : CellsAt w bv 0 vs) (hbw : b < w.heap.size) (hbvw : bv < w.heap.size) (hc1 : ∀ v ∈ cs, v.oneCell' = true) (hv1 : ∀ v ∈ vs, v.oneCell' = true) (hi : i < n) (hn : n ≤ 1000) :
    Calls Tryd.prog 85 #[.slice (some ⟨b, 0, none⟩) n n, .int .i64 i, .slice (some ⟨bv, 0, none⟩) 1 1] w (InsOut 5 cs vs n i w) := by
  obtain ⟨i0, hi0, hz0, hz1, hz2⟩ := info_parts row_info
  obtain ⟨c, W2, W3, W4, hr⟩ := ins_runs (t := 24) (ti := 3) Tryd.underlying24 int_under hi0 hz0 hz1 hz2 rfl (by omega) (by omega) w b bv n i cs vs hcl hvl hc hv hbw hbvw hc1 hv1 hi hn
  have R1 := Lib.hid hr.r1
  have r2 := hr.r2
  have r3 := hr.r3
  have r3' := hr.r3
  rw [show n + 1 - (i + 1) = n - i from by omega] at r3'
  have hcap := hr.cap
  have HR := Lib.hid hr
  have e1 : (((i : Nat) : Int) == (n : Int)) = false := by simp; omega
  have e0 : (0 : Int) ≤ (i : Int) := by omega
  have e2 : (i : Int) < (n : Int) := by omega
  have e3 : ¬ i = n := by omega
  have e4 : ¬ i = c := by omega
  have e5 : ¬ i + 1 = c := by omega
  have e6 : i ≤ c := by omega
  have e7 : i + 1 ≤ n + 1 := by omega
  have e8 : i ≤ n + 1 := by omega
  clear hr hc hv hc1 hv1 hz0 hz1 hz2 hi0
  go_enter Tryd.func85, Tryd.ntmps85
  go_wp2_with (at_builtin; refine wpList_append_to rfl (.tmp 34) (.tmp 39) 24 3 rfl _ _ _ rfl rfl R1.out ?_)
  have w1 : IntKind.i64.wrap ((i : Int) + 1) = (i : Int) + 1 := IntWalk.i64_in _ (by omega)
  have w2 : (0 : Int) ≤ (i : Int) + 1 := by omega
  have w3 : ((i : Int) + 1).toNat = i + 1 := by omega
  have w4 : (i : Int) + 1 ≤ (n : Int) + 1 := by omega
  have w5 : (i : Int) ≤ (n : Int) := by omega
  go_still_tail 8, (by kernel_rfl)
  change wpList _ _ _ _ _ W3.drew
  go_wp2
  go_ret
  obtain ⟨cur, rest, hg, hl⟩ := HR.out.blk
  exact ⟨w.heap.size, c, rfl, hcap, Nat.le_refl _, (Array.getElem?_eq_some_iff.1 hg).1, cellsAt_block hg hl, fun o => Joins.unfrozen_of_block hg o, HR.out.bel⟩

set_option maxHeartbeats 2000000 in
theorem insRow_end (b bv n : Nat) (cs vs : List Value) (w : World) (hcl : cs.length = n * 5) (hvl : vs.length = 5) (hc : CellsAt w b 0 cs) (hv : CellsAt w bv 0 vs) (hn : n ≤ 1000) :
    Calls Tryd.prog 85 #[.slice (some ⟨b, 0, none⟩) n n, .int .i64 n, .slice (some ⟨bv, 0, none⟩) 1 1] w (InsOut 5 cs vs n n w) := by
  obtain ⟨i0, hi0, hz0, hz1, hz2⟩ := info_parts row_info
  have hr := run_append_grow (P := Tryd.prog) w 24 24 61 i0 _ Tryd.underlying24 hi0 hz0 ⟨b, 0, none⟩ n n cs (by rw [hz1]; exact hcl) hc.add ⟨bv, 0, none⟩ 1 1 vs (by rw [hz1, hvl]) hv.add (by omega) (by omega) (growslice_fits (by omega) (by rw [hz2]; omega))
  have hge := grownCap_ge w (n + 1) n 61
  generalize grownCap w (n + 1) n 61 = c at hr hge
  generalize hcur : (cs.toArray ++ vs.toArray ++ Builtin.zeroCells (Value.cells _) (c - (n + 1))) = cur at hr
  have hl : ∃ rest, cur.toList = (cs ++ vs) ++ rest := ⟨_, by rw [← hcur, Array.toList_append, Array.toList_append]⟩
  have hg2 : (w.drew.alloc (.cells cur 61)).heap[w.heap.size]? = some (.cells cur 61 (0, 0)) := heap_alloc_new w.drew _
  have hb2 : Below w.heap.size w (w.drew.alloc (.cells cur 61)) := below_alloc (below_drew (Below.refl _ _)) _
  clear hcur
  generalize w.drew.alloc (.cells cur 61) = W2 at hr hg2 hb2
  have HL := Lib.hid hl
  have HG := Lib.hid hg2
  have HB := Lib.hid hb2
  have HC := Lib.hid hcl
  have e1 : (((n : Nat) : Int) == (n : Int)) = true := by simp
  have e0 : (0 : Int) ≤ (n : Int) := by omega
  have HRUN := Lib.hid hr
  clear hl hg2 hb2 hc hv hcl hvl hz0 hz1 hz2 hi0 hr
  go_enter Tryd.func85, Tryd.ntmps85
  go_wp2_with (at_builtin; refine wpList_append_to rfl (.tmp 23) (.tmp 24) 24 24 rfl _ _ _ rfl rfl HRUN.out ?_)
  go_ret
  obtain ⟨rest, hl⟩ := HL.out
  refine ⟨w.heap.size, c, rfl, hge, Nat.le_refl _, (Array.getElem?_eq_some_iff.1 HG.out).1, ?_, fun o => Joins.unfrozen_of_block HG.out o, HB.out⟩
  have e : cs.take (n * 5) ++ vs ++ cs.drop (n * 5) = cs ++ vs := by rw [List.take_of_length_le (by rw [HC.out]; omega), List.drop_eq_nil_of_le (by rw [HC.out]; omega), List.append_nil]
  rw [e]
  exact cellsAt_block HG.out hl

theorem insRow_any (b bv n i : Nat) (cs vs : List Value) (w : World) (hcl : cs.length = n * 5) (hvl : vs.length = 5) (hc : CellsAt w b 0 cs) (hv : CellsAt w bv 0 vs) (hbw : b < w.heap.size) (hbvw : bv < w.heap.size) (hc1 : ∀ v ∈ cs, v.oneCell' = true) (hv1 : ∀ v ∈ vs, v.oneCell' = true) (hi : i ≤ n) (hn : n ≤ 1000) :
    Calls Tryd.prog 85 #[.slice (some ⟨b, 0, none⟩) n n, .int .i64 i, .slice (some ⟨bv, 0, none⟩) 1 1] w (InsOut 5 cs vs n i w) := by
  rcases Nat.lt_or_ge i n with h | h
  · exact insRow_mid b bv n i cs vs w hcl hvl hc hv hbw hbvw hc1 hv1 h hn
  · obtain rfl : i = n := by omega
    exact insRow_end b bv i cs vs w hcl hvl hc hv hn

set_option maxRecDepth 100000 in
set_option maxHeartbeats 2000000 in
theorem insWr_mid (b bv n i : Nat) (cs vs : List Value) (w : World) (hcl : cs.length = n * 2) (hvl : vs.length = 2) (hc : CellsAt w b 0 cs) (hv : CellsAt w bv 0 vs) (hbw : b < w.heap.size) (hbvw : bv < w.heap.size) (hc1 : ∀ v ∈ cs, v.oneCell' = true) (hv1 : ∀ v ∈ vs, v.oneCell' = true) (hi : i < n) (hn : n ≤ 1000) :
    Calls Tryd.prog 39 #[.slice (some ⟨b, 0, none⟩) n n, .int .i64 i, .slice (some ⟨bv, 0, none⟩) 1 1] w (InsOut 2 cs vs n i w) := by
  obtain ⟨i0, hi0, hz0, hz1, hz2⟩ := info_parts wr_info
  obtain ⟨c, W2, W3, W4, hr⟩ := ins_runs (t := 52) (ti := 3) Tryd.underlying52 int_under hi0 hz0 hz1 hz2 rfl (by omega) (by omega) w b bv n i cs vs hcl hvl hc hv hbw hbvw hc1 hv1 hi hn
  have R1 := Lib.hid hr.r1
  have r2 := hr.r2
  have r3 := hr.r3
  have r3' := hr.r3
  rw [show n + 1 - (i + 1) = n - i from by omega] at r3'
  have hcap := hr.cap
  have HR := Lib.hid hr
  have e1 : (((i : Nat) : Int) == (n : Int)) = false := by simp; omega
  have e0 : (0 : Int) ≤ (i : Int) := by omega
  have e2 : (i : Int) < (n : Int) := by omega
  have e3 : ¬ i = n := by omega
  have e4 : ¬ i = c := by omega
  have e5 : ¬ i + 1 = c := by omega
  have e6 : i ≤ c := by omega
  have e7 : i + 1 ≤ n + 1 := by omega
  have e8 : i ≤ n + 1 := by omega
  clear hr hc hv hc1 hv1 hz0 hz1 hz2 hi0
  go_enter Tryd.func39, Tryd.ntmps39
  go_wp2_with (at_builtin; refine wpList_append_to rfl (.tmp 34) (.tmp 39) 52 3 rfl _ _ _ rfl rfl R1.out ?_)
  have w1 : IntKind.i64.wrap ((i : Int) + 1) = (i : Int) + 1 := IntWalk.i64_in _ (by omega)
  have w2 : (0 : Int) ≤ (i : Int) + 1 := by omega
  have w3 : ((i : Int) + 1).toNat = i + 1 := by omega
  have w4 : (i : Int) + 1 ≤ (n : Int) + 1 := by omega
  have w5 : (i : Int) ≤ (n : Int) := by omega
  go_still_tail 8, (by kernel_rfl)
  change wpList _ _ _ _ _ W3.drew
  go_wp2
  go_ret
  obtain ⟨cur, rest, hg, hl⟩ := HR.out.blk
  exact ⟨w.heap.size, c, rfl, hcap, Nat.le_refl _, (Array.getElem?_eq_some_iff.1 hg).1, cellsAt_block hg hl, fun o => Joins.unfrozen_of_block hg o, HR.out.bel⟩

set_option maxHeartbeats 2000000 in
theorem insWr_end (b bv n : Nat) (cs vs : List Value) (w : World) (hcl : cs.length = n * 2) (hvl : vs.length = 2) (hc : CellsAt w b 0 cs) (hv : CellsAt w bv 0 vs) (hn : n ≤ 1000) :
    Calls Tryd.prog 39 #[.slice (some ⟨b, 0, none⟩) n n, .int .i64 n, .slice (some ⟨bv, 0, none⟩) 1 1] w (InsOut 2 cs vs n n w) := by
  obtain ⟨i0, hi0, hz0, hz1, hz2⟩ := info_parts wr_info
  have hr := run_append_grow (P := Tryd.prog) w 52 52 84 i0 _ Tryd.underlying52 hi0 hz0 ⟨b, 0, none⟩ n n cs (by rw [hz1]; exact hcl) hc.add ⟨bv, 0, none⟩ 1 1 vs (by rw [hz1, hvl]) hv.add (by omega) (by omega) (growslice_fits (by omega) (by rw [hz2]; omega))
  have hge := grownCap_ge w (n + 1) n 84
  generalize grownCap w (n + 1) n 84 = c at hr hge
  generalize hcur : (cs.toArray ++ vs.toArray ++ Builtin.zeroCells (Value.cells _) (c - (n + 1))) = cur at hr
  have hl : ∃ rest, cur.toList = (cs ++ vs) ++ rest := ⟨_, by rw [← hcur, Array.toList_append, Array.toList_append]⟩
  have hg2 : (w.drew.alloc (.cells cur 84)).heap[w.heap.size]? = some (.cells cur 84 (0, 0)) := heap_alloc_new w.drew _
  have hb2 : Below w.heap.size w (w.drew.alloc (.cells cur 84)) := below_alloc (below_drew (Below.refl _ _)) _
  clear hcur
  generalize w.drew.alloc (.cells cur 84) = W2 at hr hg2 hb2
  have HL := Lib.hid hl
  have HG := Lib.hid hg2
  have HB := Lib.hid hb2
  have HC := Lib.hid hcl
  have e1 : (((n : Nat) : Int) == (n : Int)) = true := by simp
  have e0 : (0 : Int) ≤ (n : Int) := by omega
  have HRUN := Lib.hid hr
  clear hl hg2 hb2 hc hv hcl hvl hz0 hz1 hz2 hi0 hr
  go_enter Tryd.func39, Tryd.ntmps39
  go_wp2_with (at_builtin; refine wpList_append_to rfl (.tmp 23) (.tmp 24) 52 52 rfl _ _ _ rfl rfl HRUN.out ?_)
  go_ret
  obtain ⟨rest, hl⟩ := HL.out
  refine ⟨w.heap.size, c, rfl, hge, Nat.le_refl _, (Array.getElem?_eq_some_iff.1 HG.out).1, ?_, fun o => Joins.unfrozen_of_block HG.out o, HB.out⟩
  have e : cs.take (n * 2) ++ vs ++ cs.drop (n * 2) = cs ++ vs := by rw [List.take_of_length_le (by rw [HC.out]; omega), List.drop_eq_nil_of_le (by rw [HC.out]; omega), List.append_nil]
  rw [e]
  exact cellsAt_block HG.out hl

theorem insWr_any (b bv n i : Nat) (cs vs : List Value) (w : World) (hcl : cs.length = n * 2) (hvl : vs.length = 2) (hc : CellsAt w b 0 cs) (hv : CellsAt w bv 0 vs) (hbw : b < w.heap.size) (hbvw : bv < w.heap.size) (hc1 : ∀ v ∈ cs, v.oneCell' = true) (hv1 : ∀ v ∈ vs, v.oneCell' = true) (hi : i ≤ n) (hn : n ≤ 1000) :
    Calls Tryd.prog 39 #[.slice (some ⟨b, 0, none⟩) n n, .int .i64 i, .slice (some ⟨bv, 0, none⟩) 1 1] w (InsOut 2 cs vs n i w) := by
  rcases Nat.lt_or_ge i n with h | h
  · exact insWr_mid b bv n i cs vs w hcl hvl hc hv hbw hbvw hc1 hv1 h hn
  · obtain rfl : i = n := by omega
    exact insWr_end b bv i cs vs w hcl hvl hc hv hn
end Go.Proofs.YtambkjnhfejfaacDoor
