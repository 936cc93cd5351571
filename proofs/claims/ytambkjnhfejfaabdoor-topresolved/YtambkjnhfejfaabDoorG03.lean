/-
  Contracts of functions of the program and words for memory, several texts in one: AppMem, RefCopy, TIns, Seq, TCopyWalk. Conditions: those stated with each.
-/
import Derived.Test.YtambkjnhfejfaabDoorG00
import Derived.Test.YtambkjnhfejfaabDoorG02
import Derived.Maps.AppendAt
import Derived.RegionTactic
import Derived.OwnWalk
import Derived.Deep.RegionHeld3
import Derived.IntWalk
namespace Go.Proofs.YtambkjnhfejfaabDoor
open Go.RowKit

/-- A slice value that owns records. -/
def OwnsRecs (w : World) (base : Nat) (v : Value) (l : List RecM) : Prop := w.ownsRow base 40 3 v l.length (recsC l)

theorem ownsRecs_nil (w : World) (base : Nat) : OwnsRecs w base (.slice none 0 0) [] := World.ownsRow_nil _ _ _ _

/-- What is owned lies in memory. -/
theorem OwnsRecs.at_ {w : World} {base : Nat} {v : Value} {l : List RecM} (h : OwnsRecs w base v l) (hlen : l.length ≤ 4398046511104) (hok : ∀ r ∈ l, RecOk r) : ∃ A c, v = .slice A l.length c ∧ RecsAt w w.heap.size A l := by
  rcases h.2 with ⟨hv, h0⟩ | ⟨g, cap, cur, hv, _, hh, _, _, _, ht⟩
  · have : l = [] := List.eq_nil_of_length_eq_zero h0
    subst this
    exact ⟨none, 0, hv, RecsAt.nil_ _ _ _⟩
  · refine ⟨some ⟨g, 0, none⟩, cap, hv, recsAt_block hlen hok (Array.getElem?_eq_some_iff.1 hh).1 hh fun j u hj => ?_⟩
    have hjl := (List.getElem?_eq_some_iff.1 hj).1
    rw [← ht, List.getElem?_take] at hj
    split at hj
    · simpa using hj
    · cases hj
theorem OwnsRecs.rec {w : World} {base n c : Nat} {A : Option Addr} {l : List RecM} (h : OwnsRecs w base (.slice A n c) l) (hlen : l.length ≤ 4398046511104) (hok : ∀ r ∈ l, RecOk r) : RecsAt w w.heap.size A l := by
  obtain ⟨A', c', hv, hr⟩ := h.at_ hlen hok
  injection hv with hv
  rw [hv]; exact hr
theorem OwnsRecs.new {w : World} {base n c : Nat} {A : Option Addr} {l : List RecM} (h : OwnsRecs w base (.slice A n c) l) : NewAt base A := by
  intro ad hA
  rcases h.2 with ⟨hv, _⟩ | ⟨g, cap, cur, hv, hg, _⟩
  · injection hv with hv; rw [hv] at hA; cases hA
  · injection hv with hv; rw [hv] at hA; injection hA with hA; subst hA; exact hg
theorem OwnsRecs.cap {w : World} {base n c : Nat} {A : Option Addr} {l : List RecM} (h : OwnsRecs w base (.slice A n c) l) : l.length ≤ c := by
  rcases h.2 with ⟨hv, h0⟩ | ⟨g, cap, cur, hv, _, _, hc, _⟩
  · omega
  · injection hv with _ _ hv; omega
theorem OwnsRecs.set {w : World} {base : Nat} {v : Value} {l : List RecM} (h : OwnsRecs w base v l) {a : Addr} (ha : a.block < base) (u : Value) : OwnsRecs (w.setCell a u) base v l := ownsRow_setCell_below h ha u
theorem OwnsRecs.kept {w w' : World} {base : Nat} {v : Value} {l : List RecM} (h : OwnsRecs w base v l) (hb : Below w.heap.size w w') : OwnsRecs w' base v l := by
  rcases h.2 with h0 | ⟨g, cap, cur, hv, hg, hh, r⟩
  · exact ⟨h.1, .inl h0⟩
  · exact ⟨h.1, .inr ⟨g, cap, cur, hv, hg, (hb.block g (Array.getElem?_eq_some_iff.1 hh).1).trans hh, r⟩⟩
theorem OwnsRecs.below {w w' : World} {base : Nat} {v : Value} {l : List RecM} (h : OwnsRecs w base v l) (hk : ∀ g, v.ownBlock = some g → w'.heap[g]? = w.heap[g]?) : OwnsRecs w' base v l := by
  rcases h.2 with h0 | ⟨g, cap, cur, hv, hg, hh, r⟩
  · exact ⟨h.1, .inl h0⟩
  · exact ⟨h.1, .inr ⟨g, cap, cur, hv, hg, (hk g (by rw [hv]; rfl)).trans hh, r⟩⟩

set_option maxRecDepth 100000 in
/-- append(v, records...). -/
theorem append_recs (W : World) (ty : TypeId) (base B m c : Nat) (v : Value) (l0 : List RecM) (A : Option Addr) (l : List RecM) (hown : OwnsRecs W base v l0) (hm : m = l.length) (hl : RecsAt W B A l)
    (hbd : l0.length + l.length ≤ 4398046511104) (hbase : base ≤ W.heap.size) :
    ∃ v' w', (Builtin.append_ #[25, 25] ty #[v, .slice A m c]).run Tryd.prog W = .ok v' w' ∧ OwnsRecs w' base v' (l0 ++ l) ∧ W.grownBy w' v.ownBlock ∧ (v'.ownBlock = v.ownBlock ∨ v'.ownBlock = some W.heap.size) := by
  obtain ⟨i0, hi0, hz0, hz1, hz2⟩ := info_parts rec_info
  subst hm
  cases A with
  | none =>
    have h0 : l = [] := by
      rcases Nat.eq_zero_or_pos l.length with h0 | h0
      · exact List.eq_nil_of_length_eq_zero h0
      · obtain ⟨b, o, h, _⟩ := hl.2.2 h0; cases h
    subst h0
    refine ⟨v, W, ?_, by simpa using hown, World.grownBy.refl W _, .inl rfl⟩
    rcases hown.2 with ⟨rfl, h0⟩ | ⟨g, cap, cur, rfl, _, _, hnc, _⟩
    · simp [Builtin.append_, run_underlying Tryd.underlying25, sizeOf, typeInfo, hi0, Builtin.lenOf, Builtin.firstCells]
    · simp [Builtin.append_, run_underlying Tryd.underlying25, sizeOf, typeInfo, hi0, Builtin.lenOf, Builtin.firstCells, hnc, storeCells]
  | some a =>
    have hsrc : ∀ j u, (recsC l)[j]? = some u → W.cell? (a.add j) = some u := by
      intro j u hj
      have hjl : j < l.length * 3 := by rw [← recsC_length]; exact (List.getElem?_eq_some_iff.1 hj).1
      obtain ⟨b, o, hA, _, _⟩ := hl.2.2 (by omega)
      injection hA with hA
      subst hA
      have e : (⟨b, o, none⟩ : Addr).add j = ⟨b, o + j, none⟩ := by unfold Addr.add; split <;> simp_all
      rw [e]
      exact hl.cells j u hj
    obtain ⟨v', w', h1, h2, h3, _, h5⟩ := run_append_own_at (P := Tryd.prog) W base 25 ty 40 i0 _ 3 32 Tryd.underlying25 hi0 hz0 hz1 hz2 rfl (by omega) v l0.length (recsC l0) hown a l.length c (recsC l)
      (recsC_length l) hsrc (recsC_one l) (by simp only [maxLen]; omega) (by omega) hbase
    refine ⟨v', w', h1, ?_, h3, h5⟩
    unfold OwnsRecs
    rw [List.length_append, recsC_append]
    exact h2

/-- append(v, records...), and what it leaves: a slice that owns all of them; nothing below the base has turned. -/
theorem app_shape (W w0 : World) (ty : TypeId) (base B m c : Nat) (v : Value) (l0 : List RecM) (A : Option Addr) (l : List RecM) (hown : OwnsRecs W base v l0) (hm : m = l.length) (hl : RecsAt W B A l)
    (hbd : l0.length + l.length ≤ 4398046511104) (hok : ∀ r ∈ l0, RecOk r) (hbase : base ≤ W.heap.size) (hb : Below base w0 W) :
    ∃ v' w', (Builtin.append_ #[25, 25] ty #[v, .slice A m c]).run Tryd.prog W = .ok v' w' ∧ ∃ A' c', v' = .slice A' (l0 ++ l).length c' ∧ OwnsRecs w' base (.slice A' (l0 ++ l).length c') (l0 ++ l) ∧ Below base w0 w' ∧ W.heap.size ≤ w'.heap.size := by
  obtain ⟨v', w', h1, h2, h3, _⟩ := append_recs W ty base B m c v l0 A l hown hm hl hbd hbase
  obtain ⟨A', c', hv, _⟩ := h2.at_ (by simpa using hbd) (fun r hr => by
    rcases List.mem_append.1 hr with hr | hr
    · exact hok r hr
    · exact hl.ok hr)
  subst hv
  exact ⟨_, w', h1, A', c', rfl, h2, hb.grown h3 hbase (fun k hk => (World.ownsRow.lt hown k hk).1), h3.size⟩

/-- A run of append that is known, as a step of a region that draws its order. -/
theorem step_append_run {P : Program} {ops : Array Oper} {o : Oper} {a : Act} {w : World} {K : Act → World → Prop} {Q : Exit → Act → World → Prop} {E : Prop} (R : Value → World → Prop) (hgd : o.guard = none) (s x : Operand) (t : TypeId)
    (ho : o.op = .call { callee := .builtin .append, args := #[s, x], argTypes := #[t, t] }) (v u : Value) (hs : a.eval s = v) (hx : a.eval x = u)
    (hrun : ∃ v' w', (Builtin.append_ #[t, t] o.type #[v, u]).run P w = .ok v' w' ∧ R v' w') (h : ∀ v' w', R v' w' → K (a.put o.dst v') w') :
    if Region.wanted o (yielded ops a.tmps) = true then Oper.wp P o a w K Q else E := by
  have hw : Region.wanted o (yielded ops a.tmps) = true := by simp [Region.wanted, hgd]
  rw [if_pos hw]
  obtain ⟨v', w', hr, hR⟩ := hrun
  unfold Oper.wp execOp
  simp only [ho, resolve, invoke, builtin, Sem.run_bind, Sem.run_pure, Result.andThen_ok, List.map_toArray, List.map_cons, List.map_nil, hs, hx, hr]
  exact h v' w' hR
/-- The same in a plain region. -/
theorem wpList_append_run {P : Program} {ops : Array Oper} {rest : List Oper} {o : Oper} {a : Act} {w : World} {Q : Exit → Act → World → Prop} (R : Value → World → Prop) (hgd : o.guard = none) (s x : Operand) (t : TypeId)
    (ho : o.op = .call { callee := .builtin .append, args := #[s, x], argTypes := #[t, t] }) (v u : Value) (hs : a.eval s = v) (hx : a.eval x = u)
    (hrun : ∃ v' w', (Builtin.append_ #[t, t] o.type #[v, u]).run P w = .ok v' w' ∧ R v' w') (h : ∀ v' w', R v' w' → wpList P ops Q rest (a.put o.dst v') w') : wpList P ops Q (o :: rest) a w := by
  refine wpList_plain hgd fun K hK => ?_
  obtain ⟨v', w', hr, hR⟩ := hrun
  unfold Oper.wp execOp
  simp only [ho, resolve, invoke, builtin, Sem.run_bind, Sem.run_pure, Result.andThen_ok, List.map_toArray, List.map_cons, List.map_nil, hs, hx, hr]
  exact hK _ _ (h v' w' hR)
end Go.Proofs.YtambkjnhfejfaabDoor

namespace Go.Proofs.YtambkjnhfejfaabDoor
open Go.RowKit

/-- What the box of five cells at block g holds in a later world that keeps it. -/
theorem boxT {W0 w' : World} {g : Nat} {v0 v1 v2 v3 v4 : Value} (h0 : W0.cell? ⟨g, 0, none⟩ = some v0) (h1 : W0.cell? ⟨g, 1, none⟩ = some v1) (h2 : W0.cell? ⟨g, 2, none⟩ = some v2) (h3 : W0.cell? ⟨g, 3, none⟩ = some v3)
    (h4 : W0.cell? ⟨g, 4, none⟩ = some v4) (hb : Below (g + 1) W0 w') :
    w'.cell? ⟨g, 0, none⟩ = some v0 ∧ w'.cell? ⟨g, 1, none⟩ = some v1 ∧ w'.cell? ⟨g, 2, none⟩ = some v2 ∧ w'.cell? ⟨g, 3, none⟩ = some v3 ∧ w'.cell? ⟨g, 4, none⟩ = some v4 ∧ Below (g + 1) W0 w' := by
  exact ⟨(hb.cell (p := ⟨g, 0, none⟩) (Nat.lt_succ_self g)).trans h0, (hb.cell (p := ⟨g, 1, none⟩) (Nat.lt_succ_self g)).trans h1, (hb.cell (p := ⟨g, 2, none⟩) (Nat.lt_succ_self g)).trans h2, (hb.cell (p := ⟨g, 3, none⟩) (Nat.lt_succ_self g)).trans h3, (hb.cell (p := ⟨g, 4, none⟩) (Nat.lt_succ_self g)).trans h4, hb⟩

/-- What a box of five zero cells holds: a row's zero value, none of it frozen. -/
structure ZeroRow (w : World) (g : Nat) : Prop where
  block : w.heap[g]? = some (.cells #[.string ⟨#[]⟩, .int .i64 0, .string ⟨#[]⟩, .string ⟨#[]⟩, .slice none 0 0] 27 (0, 0))
theorem ZeroRow.c0 {w : World} {g : Nat} (h : ZeroRow w g) : w.cell? ⟨g, 0, none⟩ = some (.string ⟨#[]⟩) := by rw [Joins.cell_of_block h.block]; rfl
theorem ZeroRow.c1 {w : World} {g : Nat} (h : ZeroRow w g) : w.cell? ⟨g, 1, none⟩ = some (.int .i64 0) := by rw [Joins.cell_of_block h.block]; rfl
theorem ZeroRow.c2 {w : World} {g : Nat} (h : ZeroRow w g) : w.cell? ⟨g, 2, none⟩ = some (.string ⟨#[]⟩) := by rw [Joins.cell_of_block h.block]; rfl
theorem ZeroRow.c3 {w : World} {g : Nat} (h : ZeroRow w g) : w.cell? ⟨g, 3, none⟩ = some (.string ⟨#[]⟩) := by rw [Joins.cell_of_block h.block]; rfl
theorem ZeroRow.c4 {w : World} {g : Nat} (h : ZeroRow w g) : w.cell? ⟨g, 4, none⟩ = some (.slice none 0 0) := by rw [Joins.cell_of_block h.block]; rfl
theorem ZeroRow.f {w : World} {g : Nat} (h : ZeroRow w g) (i : Nat) : w.frozen? ⟨g, i, none⟩ = false := Joins.unfrozen_of_block h.block i
theorem ZeroRow.keep {w w' : World} {g : Nat} (h : ZeroRow w g) (hk : w'.heap[g]? = w.heap[g]?) : ZeroRow w' g := ⟨hk.trans h.block⟩

theorem zero_facts {w : World} {g : Nat} (h : ZeroRow w g) : w.cell? ⟨g, 0, none⟩ = some (.string ⟨#[]⟩) ∧ w.cell? ⟨g, 1, none⟩ = some (.int .i64 0) ∧ w.cell? ⟨g, 2, none⟩ = some (.string ⟨#[]⟩) ∧ w.cell? ⟨g, 3, none⟩ = some (.string ⟨#[]⟩) ∧ w.cell? ⟨g, 4, none⟩ = some (.slice none 0 0) ∧
    w.frozen? ⟨g, 0, none⟩ = false ∧ w.frozen? ⟨g, 1, none⟩ = false ∧ w.frozen? ⟨g, 2, none⟩ = false ∧ w.frozen? ⟨g, 3, none⟩ = false ∧ w.frozen? ⟨g, 4, none⟩ = false :=
  ⟨h.c0, h.c1, h.c2, h.c3, h.c4, h.f 0, h.f 1, h.f 2, h.f 3, h.f 4⟩

end Go.Proofs.YtambkjnhfejfaabDoor

namespace Go.Proofs.YtambkjnhfejfaabDoor
open Go.RowKit

/-- What a list of values lies at: block b from an offset on. -/
def CellsAt (w : World) (b o : Nat) (cs : List Value) : Prop := ∀ j v, cs[j]? = some v → w.cell? ⟨b, o + j, none⟩ = some v
theorem add_none (b o j : Nat) : (⟨b, o, none⟩ : Addr).add j = ⟨b, o + j, none⟩ := by unfold Addr.add; split <;> simp_all
theorem CellsAt.add {w : World} {b o : Nat} {cs : List Value} (h : CellsAt w b o cs) : ∀ j v, cs[j]? = some v → w.cell? ((⟨b, o, none⟩ : Addr).add j) = some v := fun j v hj => by rw [add_none]; exact h j v hj
theorem CellsAt.keep {w w' : World} {b o : Nat} {cs : List Value} (h : CellsAt w b o cs) (hk : ∀ k, w'.cell? ⟨b, k, none⟩ = w.cell? ⟨b, k, none⟩) : CellsAt w' b o cs := fun j v hj => (hk _).trans (h j v hj)
theorem CellsAt.drop {w : World} {b : Nat} {cs : List Value} (h : CellsAt w b 0 cs) (k : Nat) : CellsAt w b k (cs.drop k) := fun j v hj => by
  rw [List.getElem?_drop] at hj
  have := h _ v hj
  rwa [Nat.zero_add] at this
theorem CellsAt.take {w : World} {b o : Nat} {cs : List Value} (h : CellsAt w b o cs) (k : Nat) : CellsAt w b o (cs.take k) := fun j v hj => by
  rw [List.getElem?_take] at hj
  split at hj
  · exact h j v hj
  · cases hj
theorem cellsAt_block {w : World} {g : Nat} {cur : Array Value} {t : TypeId} {fr : Nat × Nat} (hg : w.heap[g]? = some (.cells cur t fr)) {cs rest : List Value} (h : cur.toList = cs ++ rest) : CellsAt w g 0 cs := fun j v hj => by
  rw [Nat.zero_add, Joins.cell_of_block hg]
  have : cur.toList[j]? = some v := by
    rw [h, List.getElem?_append_left (List.getElem?_eq_some_iff.1 hj).1]; exact hj
  simpa using this

section
variable {P : Program} {t ti ty e : TypeId} {i0 : TypeInfo} {z : Value} {sz bytes : Nat}

/-- append(s[:i], make(S, k)...) where that does not fit. -/
theorem run_append_make (ht : P.underlying t = some (.slice e)) (hti : P.underlying ti = some (.int .i64)) (hi : P.info? e = some i0) (hz : i0.zero = some z) (hsz : i0.size = sz) (hby : i0.bytes = bytes) (hs0 : 0 < sz) (hb : bytes ≤ 1000)
    (w : World) (b i n : Nat) (k : Int) (olds : List Value) (hlo : olds.length = i * sz) (holds : CellsAt w b 0 olds) (hin : i ≤ n) (hn : n ≤ 1000) (hk : k = (n : Int) + 1 - i) :
    (Builtin.append_ #[t, ti] ty #[.slice (some ⟨b, 0, none⟩) i n, .int .i64 k]).run P w =
      .ok (.slice (some ⟨w.heap.size, 0, none⟩) (n + 1) (grownCap w (n + 1) n e)) (w.drew.alloc (.cells (olds.toArray ++ Builtin.zeroCells z.cells (n + 1 - i) ++ Builtin.zeroCells z.cells (grownCap w (n + 1) n e - (n + 1))) e)) := by
  subst hsz hby
  obtain ⟨m, rfl⟩ : ∃ m : Nat, k = (m : Int) := ⟨n + 1 - i, by omega⟩
  have hm : m = n + 1 - i := by omega
  have h1 : IntKind.i64.wrap (m : Int) = (m : Int) := IntWalk.i64_in _ (by omega)
  have hn1 : ¬ (i + m ≤ n) := by omega
  have hnb : (m : Int) * (i0.bytes : Int) ≤ 1001 * 1000 := Int.mul_le_mul (by omega) (by omega) (by omega) (by omega)
  have h48 : ¬ ((281474976710656 : Int) < (m : Int) * (i0.bytes : Int)) := by omega
  have hfit : Builtin.nextslicecap (i + m) n * i0.bytes ≤ 281474976710656 := growslice_fits (by omega) (by
    have : (i + m) * i0.bytes ≤ 1001 * 1000 := Nat.mul_le_mul (by omega) hb
    omega)
  have h48' : ¬ (281474976710656 < Builtin.nextslicecap (i + m) n * i0.bytes) := by omega
  have h63' : ¬ (9223372036854775807 < ((i : Int) + (m : Int))) := by omega
  have hm0 : ¬ (m * i0.size = 0) := by
    intro h
    rcases Nat.mul_eq_zero.1 h with h | h <;> omega
  have hfo := run_firstCells_some (P := P) w.drew i0.size i ⟨b, 0, none⟩ i n olds hlo (by simpa using holds.add)
  simp [Builtin.append_, run_underlying ht, run_underlying hti, sizeOf, typeInfo, zeroValue, hi, hz, hn1, h1, h48, h48', h63', Question.forced, hfo, newRow, grownCap, asInt, asIntOf]
  rw [if_neg (by omega), if_neg hm0]
  have e : i + m = n + 1 := by omega
  rw [e, ← hm]

/-- copy into the middle of a row. -/
theorem run_copy_mid (ht : P.underlying t = some (.slice e)) (hi : P.info? e = some i0) (hsz : i0.size = sz)
    (W : World) (g o b o2 n1 c1 n2 c2 k : Nat) (cur : Array Value) (L : List Value) (hg : W.heap[g]? = some (.cells cur e (0, 0))) (hk : k = min n1 n2) (hL : L.length = k * sz) (hsrc : CellsAt W b o2 L) (hfit : o + k * sz ≤ cur.size) (h1 : ∀ v ∈ L, v.oneCell' = true) :
    (Builtin.copy_ #[t, t] ty #[.slice (some ⟨g, o, none⟩) n1 c1, .slice (some ⟨b, o2, none⟩) n2 c2]).run P W = .ok (goInt k) (W.setRow g (cur.toList.take o ++ L ++ cur.toList.drop (o + L.length)).toArray) := by
  subst hsz
  have r1 := run_loadCells_list (P := P) W ⟨b, o2, none⟩ L hsrc.add
  have r2 := run_storeCells_at P g o e L 0 cur W hg (by omega) h1
  rw [hL] at r1
  simp only [Nat.add_zero] at r2
  have hmin : n2.min n1 = k := by rw [hk]; exact Nat.min_comm _ _
  simp [Builtin.copy_, run_underlying ht, Builtin.lenOf, Builtin.firstCells, sizeOf, typeInfo, hi, hmin, r1, r2]
end

/-- A run of append that is known, in a plain region. -/
theorem wpList_append_to {P : Program} {ops : Array Oper} {rest : List Oper} {o : Oper} {a : Act} {w w' : World} {Q : Exit → Act → World → Prop} (hgd : o.guard = none) (s x : Operand) (t u : TypeId)
    (ho : o.op = .call { callee := .builtin .append, args := #[s, x], argTypes := #[t, u] }) (v y v' : Value) (hs : a.eval s = v) (hx : a.eval x = y) (hrun : (Builtin.append_ #[t, u] o.type #[v, y]).run P w = .ok v' w')
    (h : wpList P ops Q rest (a.put o.dst v') w') : wpList P ops Q (o :: rest) a w := by
  refine wpList_plain hgd fun K hK => ?_
  unfold Oper.wp execOp
  simp only [ho, resolve, invoke, builtin, Sem.run_bind, Sem.run_pure, Result.andThen_ok, List.map_toArray, List.map_cons, List.map_nil, hs, hx, hrun]
  exact hK _ _ h

/-- What slices.Insert leaves where the element does not come last: the runs of its three builtins, one behind the other. -/
structure InsRuns (P : Program) (t ti e : TypeId) (sz : Nat) (w : World) (b bv n i : Nat) (cs vs : List Value) (c : Nat) (W2 W3 W4 : World) : Prop where
  r1 : (Builtin.append_ #[t, ti] t #[.slice (some ⟨b, 0, none⟩) i n, .int .i64 ((n : Int) + 1 - i)]).run P w = .ok (.slice (some ⟨w.heap.size, 0, none⟩) (n + 1) c) W2
  r2 : (Builtin.copy_ #[t, t] ti #[.slice (some ⟨w.heap.size, i * sz, none⟩) (n + 1 - i) (c - i), .slice (some ⟨bv, 0, none⟩) 1 1]).run P W2 = .ok (goInt 1) W3
  r3 : (Builtin.copy_ #[t, t] ti #[.slice (some ⟨w.heap.size, (i + 1) * sz, none⟩) (n + 1 - (i + 1)) (c - (i + 1)), .slice (some ⟨b, i * sz, none⟩) (n - i) (n - i)]).run P W3.drew = .ok (goInt ((n - i : Nat) : Int)) W4
  cap : n + 1 ≤ c
  blk : ∃ cur rest, W4.heap[w.heap.size]? = some (.cells cur e (0, 0)) ∧ cur.toList = (cs.take (i * sz) ++ vs ++ cs.drop (i * sz)) ++ rest
  bel : Below w.heap.size w W4

theorem ins_runs {P : Program} {t ti e : TypeId} {i0 : TypeInfo} {z : Value} {sz bytes : Nat} (ht : P.underlying t = some (.slice e)) (hti : P.underlying ti = some (.int .i64)) (hi : P.info? e = some i0) (hz : i0.zero = some z) (hsz : i0.size = sz) (hby : i0.bytes = bytes) (hzs : z.cells.size = sz) (hs0 : 0 < sz) (hb : bytes ≤ 1000)
    (w : World) (b bv n i : Nat) (cs vs : List Value) (hcl : cs.length = n * sz) (hvl : vs.length = sz) (hc : CellsAt w b 0 cs) (hv : CellsAt w bv 0 vs) (hbw : b < w.heap.size) (hbvw : bv < w.heap.size) (hc1 : ∀ v ∈ cs, v.oneCell' = true) (hv1 : ∀ v ∈ vs, v.oneCell' = true) (hin : i < n) (hn : n ≤ 1000) :
    ∃ c W2 W3 W4, InsRuns P t ti e sz w b bv n i cs vs c W2 W3 W4 := by
  have him : i * sz ≤ n * sz := Nat.mul_le_mul_right _ (by omega)
  have hol : (cs.take (i * sz)).length = i * sz := by rw [List.length_take, hcl]; omega
  have r1 := run_append_make (ty := t) ht hti hi hz hsz hby hs0 hb w b i n ((n : Int) + 1 - i) (cs.take (i * sz)) hol (hc.take _) (by omega) hn rfl
  have hge := grownCap_ge w (n + 1) n e
  generalize hcap : grownCap w (n + 1) n e = c at r1 hge
  clear hcap
  generalize hcur : (cs.take (i * sz)).toArray ++ Builtin.zeroCells z.cells (n + 1 - i) ++ Builtin.zeroCells z.cells (c - (n + 1)) = cur at r1
  have hsize : cur.size = c * sz := by
    rw [← hcur]
    simp only [Array.size_append, List.size_toArray, size_zeroCells, hol, hzs]
    rw [← Nat.add_mul, ← Nat.add_mul]
    congr 1
    omega
  have htk : cur.toList.take (i * sz) = cs.take (i * sz) := by
    rw [← hcur]
    simp only [Array.toList_append, List.append_assoc]
    rw [List.take_append_of_le_length (by rw [hol]; omega), List.take_of_length_le (by rw [hol]; omega)]
  clear hcur
  have hg2 : (w.drew.alloc (.cells cur e)).heap[w.heap.size]? = some (.cells cur e (0, 0)) := heap_alloc_new w.drew _
  have hb2 : Below w.heap.size w (w.drew.alloc (.cells cur e)) := below_alloc (below_drew (Below.refl _ _)) _
  generalize w.drew.alloc (.cells cur e) = W2 at r1 hg2 hb2
  have old : ∀ {W : World}, Below w.heap.size w W → ∀ {b' o : Nat} {L : List Value}, b' < w.heap.size → CellsAt w b' o L → CellsAt W b' o L := fun hb b' _ _ hlt h => h.keep fun k => hb.cell (p := ⟨b', k, none⟩) hlt
  have hfit1 : i * sz + 1 * sz ≤ cur.size := by rw [hsize, ← Nat.add_mul]; exact Nat.mul_le_mul_right _ (by omega)
  have r2 := run_copy_mid (ty := ti) ht hi hsz W2 w.heap.size (i * sz) bv 0 (n + 1 - i) (c - i) 1 1 1 cur vs hg2 (by omega) (by rw [hvl, Nat.one_mul]) (old hb2 hbvw hv) hfit1 hv1
  have hg3 := setRow_heap W2 w.heap.size cur (cur.toList.take (i * sz) ++ vs ++ cur.toList.drop (i * sz + vs.length)).toArray e (0, 0) hg2
  have hb3 : Below w.heap.size w (W2.setRow w.heap.size (cur.toList.take (i * sz) ++ vs ++ cur.toList.drop (i * sz + vs.length)).toArray) := below_setRow hb2 (Nat.le_refl _) _
  generalize W2.setRow w.heap.size (cur.toList.take (i * sz) ++ vs ++ cur.toList.drop (i * sz + vs.length)).toArray = W3 at r2 hg3 hb3
  generalize hcur3 : (cur.toList.take (i * sz) ++ vs ++ cur.toList.drop (i * sz + vs.length)).toArray = cur3 at hg3
  have h3l : cur3.toList = cs.take (i * sz) ++ vs ++ cur.toList.drop (i * sz + vs.length) := by rw [← hcur3, htk]
  have h3s : cur3.size = c * sz := by
    have e : cur3.size = cur3.toList.length := by simp
    rw [e, h3l]
    simp only [List.length_append, hol, hvl, List.length_drop, Array.length_toList, hsize]
    have : (i + 1) * sz ≤ c * sz := Nat.mul_le_mul_right _ (by omega)
    rw [Nat.add_mul, Nat.one_mul] at this
    omega
  have hdl : (cs.drop (i * sz)).length = (n - i) * sz := by rw [List.length_drop, hcl, Nat.sub_mul]
  have hfit2 : (i + 1) * sz + (n - i) * sz ≤ cur3.size := by rw [h3s, ← Nat.add_mul]; exact Nat.mul_le_mul_right _ (by omega)
  have r3 := run_copy_mid (ty := ti) ht hi hsz W3.drew w.heap.size ((i + 1) * sz) b (i * sz) (n + 1 - (i + 1)) (c - (i + 1)) (n - i) (n - i) (n - i) cur3 (cs.drop (i * sz)) hg3 (by omega) hdl (old (below_drew hb3) hbw (hc.drop _)) hfit2 (fun v hv => hc1 v (List.mem_of_mem_drop hv))
  have hg4 := setRow_heap W3.drew w.heap.size cur3 (cur3.toList.take ((i + 1) * sz) ++ cs.drop (i * sz) ++ cur3.toList.drop ((i + 1) * sz + (cs.drop (i * sz)).length)).toArray e (0, 0) hg3
  have hb4 : Below w.heap.size w (W3.drew.setRow w.heap.size (cur3.toList.take ((i + 1) * sz) ++ cs.drop (i * sz) ++ cur3.toList.drop ((i + 1) * sz + (cs.drop (i * sz)).length)).toArray) := below_setRow (below_drew hb3) (Nat.le_refl _) _
  refine ⟨c, W2, W3, _, r1, r2, r3, hge, ⟨_, cur3.toList.drop ((i + 1) * sz + (cs.drop (i * sz)).length), hg4, ?_⟩, hb4⟩
  congr 2
  rw [h3l, List.take_append_of_le_length (by simp only [List.length_append, hol, hvl, Nat.add_mul, Nat.one_mul]; omega), List.take_of_length_le (by simp only [List.length_append, hol, hvl, Nat.add_mul, Nat.one_mul]; omega)]
end Go.Proofs.YtambkjnhfejfaabDoor

namespace Go.Proofs.YtambkjnhfejfaabDoor
open Go.RowKit

/-- An element's cells. -/
structure Cells (α : Type) where
  cs : α → List Value
  sz : Nat
  len : ∀ a, (cs a).length = sz
  one : ∀ a, ∀ v ∈ cs a, v.oneCell' = true
  pos : 0 < sz
section
variable {α : Type} (C : Cells α)
/-- The cells of a list of elements. -/
def Cells.all (l : List α) : List Value := l.flatMap C.cs
theorem Cells.all_append (a b : List α) : C.all (a ++ b) = C.all a ++ C.all b := by simp [Cells.all]
theorem Cells.all_length (l : List α) : (C.all l).length = l.length * C.sz := by
  induction l with
  | nil => simp [Cells.all]
  | cons x l ih =>
    have : C.all (x :: l) = C.cs x ++ C.all l := rfl
    rw [this, List.length_append, ih, C.len, List.length_cons, Nat.succ_mul]; omega
theorem Cells.all_one (l : List α) : ∀ v ∈ C.all l, v.oneCell' = true := by
  intro v hv
  obtain ⟨a, _, ha⟩ := List.mem_flatMap.1 hv
  exact C.one a v ha
theorem Cells.all_at {l : List α} {i j : Nat} {a : α} (h : l[i]? = some a) (hj : j < C.sz) : (C.all l)[i * C.sz + j]? = (C.cs a)[j]? := by
  induction l generalizing i with
  | nil => cases h
  | cons x l ih =>
    have e : C.all (x :: l) = C.cs x ++ C.all l := rfl
    rw [e]
    cases i with
    | zero =>
      simp only [List.getElem?_cons_zero, Option.some.injEq] at h
      subst h
      rw [Nat.zero_mul, Nat.zero_add, List.getElem?_append_left (by rw [C.len]; exact hj)]
    | succ i =>
      rw [List.getElem?_append_right (by rw [C.len, Nat.succ_mul]; omega), C.len, show (i + 1) * C.sz + j - C.sz = i * C.sz + j by rw [Nat.succ_mul]; omega]
      exact ih (by simpa using h)
/-- The cells of an element lie at an address. -/
def Cells.At (w : World) (b o : Nat) (a : α) : Prop := ∀ j v, (C.cs a)[j]? = some v → w.cell? ⟨b, o + j, none⟩ = some v
/-- A slice value that owns elements. -/
def Cells.Owns (w : World) (base : Nat) (e : TypeId) (v : Value) (l : List α) : Prop := w.ownsRow base e C.sz v l.length (C.all l)
variable {C}
theorem Cells.Owns.nil (w : World) (base : Nat) (e : TypeId) : C.Owns w base e (.slice none 0 0) [] := World.ownsRow_nil _ _ _ _
/-- What is owned lies in memory. -/
theorem Cells.Owns.at_ {w : World} {base : Nat} {e : TypeId} {v : Value} {l : List α} (h : C.Owns w base e v l) {mx : Nat} (hlen : l.length ≤ mx) :
    ∃ A c, v = .slice A l.length c ∧ l.length ≤ c ∧ SeqAt (fun b => base ≤ b ∧ b < w.heap.size) C.sz mx (C.At w) A l := by
  rcases h.2 with ⟨hv, h0⟩ | ⟨g, cap, cur, hv, hb, hh, hc, _, _, ht⟩
  · have : l = [] := List.eq_nil_of_length_eq_zero h0
    subst this
    exact ⟨none, 0, hv, Nat.le_refl _, SeqAt.nil_ _⟩
  · refine ⟨some ⟨g, 0, none⟩, cap, hv, hc, SeqAt.block hlen ⟨hb, (Array.getElem?_eq_some_iff.1 hh).1⟩ fun i x hx j u hj => ?_⟩
    have hjs : j < C.sz := by rw [← C.len x]; exact (List.getElem?_eq_some_iff.1 hj).1
    have h1 := C.all_at hx hjs
    rw [hj, ← ht, List.getElem?_take] at h1
    split at h1
    · rw [Joins.cell_of_block hh]; simpa using h1
    · cases h1
theorem Cells.Owns.kept {w w' : World} {base : Nat} {e : TypeId} {v : Value} {l : List α} (h : C.Owns w base e v l) (hb : Below w.heap.size w w') : C.Owns w' base e v l := by
  rcases h.2 with h0 | ⟨g, cap, cur, hv, hg, hh, r⟩
  · exact ⟨h.1, .inl h0⟩
  · exact ⟨h.1, .inr ⟨g, cap, cur, hv, hg, (hb.block g (Array.getElem?_eq_some_iff.1 hh).1).trans hh, r⟩⟩
theorem Cells.Owns.blk {w w' : World} {base : Nat} {e : TypeId} {v : Value} {l : List α} (h : C.Owns w base e v l) (hk : ∀ g, base ≤ g → g < w.heap.size → w'.heap[g]? = w.heap[g]?) : C.Owns w' base e v l := by
  rcases h.2 with h0 | ⟨g, cap, cur, hv, hg, hh, r⟩
  · exact ⟨h.1, .inl h0⟩
  · exact ⟨h.1, .inr ⟨g, cap, cur, hv, hg, (hk g hg (Array.getElem?_eq_some_iff.1 hh).1).trans hh, r⟩⟩
/-- A slice of elements in memory, its cells. -/
theorem Cells.src {w : World} {P : Nat → Prop} {mx b o : Nat} {l : List α} (h : SeqAt P C.sz mx (C.At w) (some ⟨b, o, none⟩) l) : ∀ j u, (C.all l)[j]? = some u → w.cell? ((⟨b, o, none⟩ : Addr).add j) = some u := by
  intro j u hj
  have hp := C.pos
  have hjl : j < l.length * C.sz := by rw [← C.all_length]; exact (List.getElem?_eq_some_iff.1 hj).1
  have hi : j / C.sz < l.length := Nat.div_lt_of_lt_mul (by rw [Nat.mul_comm]; exact hjl)
  obtain ⟨b', o', hA, _, hx⟩ := SeqAt.at_ h (List.getElem?_eq_getElem hi)
  obtain ⟨rfl, rfl⟩ : b = b' ∧ o = o' := by injection hA with e; injection e with e1 e2; exact ⟨e1, e2⟩
  have hm : j % C.sz < C.sz := Nat.mod_lt _ hp
  have hdm : j / C.sz * C.sz + j % C.sz = j := by rw [Nat.mul_comm]; exact Nat.div_add_mod j C.sz
  have h1 := C.all_at (List.getElem?_eq_getElem hi) hm
  rw [hdm, hj] at h1
  rw [add_none, ← hdm, ← Nat.add_assoc]
  exact hx _ _ h1.symm
set_option maxRecDepth 100000 in
/-- append(v, elements...), and what it leaves: a slice that owns all of them; nothing below the base has turned. -/
theorem app_seq {t e ty : TypeId} {i0 : TypeInfo} {z : Value} {bytes mx : Nat} (hu : Tryd.prog.underlying t = some (.slice e)) (hi0 : Tryd.prog.info? e = some i0) (hz0 : i0.zero = some z) (hz1 : i0.size = C.sz) (hz2 : i0.bytes = bytes) (hz3 : z.cells.size = C.sz)
    (W w0 : World) (base m c : Nat) (v : Value) (l0 : List α) (A : Option Addr) (l : List α) (P : Nat → Prop) (hown : C.Owns W base e v l0) (hm : m = l.length) (hl : SeqAt P C.sz mx (C.At W) A l)
    (hbd : l0.length + l.length ≤ 100000) (hby : bytes ≤ 1000) (hbase : base ≤ W.heap.size) (hb : Below base w0 W) :
    ∃ v' w', (Builtin.append_ #[t, t] ty #[v, .slice A m c]).run Tryd.prog W = .ok v' w' ∧ ∃ A' c', v' = .slice A' (l0 ++ l).length c' ∧ C.Owns w' base e (.slice A' (l0 ++ l).length c') (l0 ++ l) ∧ Below base w0 w' ∧ W.heap.size ≤ w'.heap.size := by
  subst hm
  have key : ∃ v' w', (Builtin.append_ #[t, t] ty #[v, .slice A l.length c]).run Tryd.prog W = .ok v' w' ∧ C.Owns w' base e v' (l0 ++ l) ∧ W.grownBy w' v.ownBlock := by
    cases A with
    | none =>
      have h0 : l = [] := by
        rcases Nat.eq_zero_or_pos l.length with h0 | h0
        · exact List.eq_nil_of_length_eq_zero h0
        · obtain ⟨b, o, h, _⟩ := hl.2 h0; cases h
      subst h0
      refine ⟨v, W, ?_, by simpa using hown, World.grownBy.refl W _⟩
      rcases hown.2 with ⟨rfl, h0⟩ | ⟨g, cap, cur, rfl, _, _, hnc, _⟩
      · simp [Builtin.append_, run_underlying hu, sizeOf, typeInfo, hi0, Builtin.lenOf, Builtin.firstCells]
      · simp [Builtin.append_, run_underlying hu, sizeOf, typeInfo, hi0, Builtin.lenOf, Builtin.firstCells, hnc, storeCells]
    | some a =>
      have hsrc : ∀ j u, (C.all l)[j]? = some u → W.cell? (a.add j) = some u := by
        intro j u hj
        have hjl := (List.getElem?_eq_some_iff.1 hj).1
        rw [C.all_length] at hjl
        have hl0 : 0 < l.length := by
          rcases Nat.eq_zero_or_pos l.length with h0 | h0
          · rw [h0, Nat.zero_mul] at hjl; omega
          · exact h0
        obtain ⟨b, o, hA, _, _⟩ := hl.2 hl0
        injection hA with hA
        subst hA
        exact Cells.src hl j u hj
      have hnb : (l0.length + l.length) * bytes ≤ 100000 * 1000 := Nat.mul_le_mul hbd hby
      obtain ⟨v', w', h1, h2, h3, _, h5⟩ := run_append_own_at (P := Tryd.prog) W base t ty e i0 _ C.sz bytes hu hi0 hz0 hz1 hz2 hz3 C.pos v l0.length (C.all l0) hown a l.length c (C.all l)
        (C.all_length l) hsrc (C.all_one l) (by simp only [maxLen]; omega) (by omega) hbase
      refine ⟨v', w', h1, ?_, h3⟩
      unfold Cells.Owns
      rw [List.length_append, C.all_append]
      exact h2
  obtain ⟨v', w', h1, h2, h3⟩ := key
  obtain ⟨A', c', hv, _⟩ := h2.at_ (mx := 100000) (by simpa using hbd)
  subst hv
  exact ⟨_, w', h1, A', c', rfl, h2, hb.grown h3 hbase (fun k hk => (World.ownsRow.lt hown k hk).1), h3.size⟩
/-- One element in a new block. -/
theorem one_seq {e : TypeId} (w : World) (a : α) : SeqAt (fun b => b = w.heap.size) C.sz 100000 (C.At (w.alloc (.cells (C.cs a).toArray e))) (some ⟨w.heap.size, 0, none⟩) [a] :=
  SeqAt.block (by simp) rfl fun i x hx j v hj => by
    have hi : i = 0 := by have := (List.getElem?_eq_some_iff.1 hx).1; simp at this; exact this
    subst hi
    simp only [List.getElem?_cons_zero, Option.some.injEq] at hx
    subst hx
    rw [World.cell?_alloc_new, Nat.zero_mul, Nat.zero_add]
    simpa using hj
/-- A slice that is made of one new block. -/
theorem Cells.Owns.block {w : World} {base g : Nat} {e : TypeId} {l : List α} {cur : Array Value} (hb : base ≤ g) (hh : w.heap[g]? = some (.cells cur e (0, 0))) (hc : cur.toList = C.all l) (hl : l.length ≤ 100000) : C.Owns w base e (.slice (some ⟨g, 0, none⟩) l.length l.length) l :=
  ⟨C.all_length l, .inr ⟨g, l.length, cur, rfl, hb, hh, Nat.le_refl _, by simp only [maxLen]; omega, by rw [← Array.length_toList, hc, C.all_length], by rw [hc, ← C.all_length]; exact List.take_length⟩⟩
end
end Go.Proofs.YtambkjnhfejfaabDoor

namespace Go.Proofs.YtambkjnhfejfaabDoor
open Go.RowKit

set_option maxHeartbeats 2000000 in
theorem copyWo_any (wo : WoM) (RA : Option Addr) (n rc : Nat) (CA : Option Addr) (m cc : Nat) (w : World) (hin : WoIn w RA n rc CA m cc wo) :
    Calls Tryd.prog 36 #[woV RA n rc wo.clock CA m cc] w (WoOut wo w) := by
  have hn := hin.hn
  have hm := hin.hm
  subst hn hm
  have hlr := hin.rows.1
  have hlc := hin.cls.1
  obtain ⟨Z, hZ, hmk⟩ := make_rows wo.rows.length hlr
  obtain ⟨Z', hzz, hZ', hmk'⟩ := make_cls wo.cls.length hlc
  clear hzz
  obtain ⟨W2, hW2⟩ : ∃ W2, W2 = (w.alloc (.cells #[.slice RA wo.rows.length rc, .int .i64 wo.clock, .slice CA wo.cls.length cc] 67)).alloc (.cells #[.slice none 0 0, .int .i64 0, .slice none 0 0] 67) := ⟨_, rfl⟩
  have hb2 : Below w.heap.size w W2 := by rw [hW2]; repeat (first | with_reducible exact Below.refl _ _ | assumption | with_reducible apply below_alloc | with_reducible apply below_drew | with_reducible apply below_drewN | (with_reducible apply below_next; rotate_left; assumption))
  have hs2 : W2.heap.size = w.heap.size + 2 := by rw [hW2]; simp
  have HW := Lib.hid hW2
  have HI := Lib.hid hin
  have HB2 := Lib.hid hb2
  have HS2 := Lib.hid hs2
  have HZ := Lib.hid hZ
  have HZ' := Lib.hid hZ'
  clear hW2 hin hb2 hs2 hZ hZ'
  go_enter Tryd.func36, Tryd.ntmps36
  go_wp2
  go_loopw [16] (fun i wr => ∃ k : Nat, k ≤ wo.rows.length ∧ i = .int .i64 k ∧ RowsDone (w.heap.size + 2) wo.rows k wr ∧ Below (w.heap.size + 2) W2 wr) (fun i _ => wo.rows.length - (intOf i).toNat)
  case atStart =>
    refine ⟨0, Nat.zero_le _, rfl, ⟨⟨Z, ?_, HZ.out⟩, fun i r hi => by omega⟩, ?_⟩
    · have h := heap_alloc_new W2 (.cells Z 27)
      rw [HS2.out] at h
      rw [← HW.out]; exact h
    · rw [← HW.out]; exact (Below.refl _ _).alloc (by rw [HS2.out]; exact Nat.le_refl _) _
  case round =>
    obtain ⟨k, hk, rfl, hd, hb⟩ := hrel
    have hbw : Below w.heap.size w wr := HB2.out.trans (hb.mono (by omega))
    by_cases hm : k < wo.rows.length
    · obtain ⟨b, o, rfl, hbb, hr⟩ := (HI.out.upto hbw).rows.at_ (getD_some (d := default) hm)
      obtain ⟨r, hr0⟩ : ∃ r, r = wo.rows.getD k default := ⟨_, rfl⟩
      rw [← hr0] at hr
      have c0 := hr.ck
      have c1 := hr.cs
      have c2 := hr.cp
      have c3 := hr.cv
      obtain ⟨A, c, c4, hc, hri⟩ := hr.rowIn (fun _ h => h)
      have HR := Lib.hid hr0
      have HD := Lib.hid hd
      have HB := Lib.hid hb
      have HRI := Lib.hid hri
      have hok := Lib.hid hr.ok
      have hC := Lib.hid hc
      have j0 : (0 : Int) ≤ (k : Int) := by omega
      obtain ⟨key, ls, lp, val, recs⟩ := r
      dsimp only at c0 c1 c2 c3 c4
      clear hr0 hd hb hri hr hc hbw
      go_wp2_with fail
      refine (copy_any key lp val ls A recs.length c recs _ rfl (HRI.out.l.upto (below_alloc (Below.refl _ _) _))).mono ?_
      rintro e w1 ⟨A1, c1, rfl, hr1, hnew, hb1⟩
      have hwr1 : Below wr.heap.size wr w1 := below_next (below_alloc (Below.refl _ _) _) hb1
      have hd1 := HD.out.upto hwr1
      obtain ⟨v0, e0, f0⟩ : ∃ v, w1.cell? ⟨w.heap.size + 1 + 1, k * 5, none⟩ = some v ∧ w1.frozen? ⟨w.heap.size + 1 + 1, k * 5, none⟩ = false := hd1.cell hm 0 (by omega)
      obtain ⟨v1, e1, f1⟩ : ∃ v, w1.cell? ⟨w.heap.size + 1 + 1, k * 5 + 1, none⟩ = some v ∧ w1.frozen? ⟨w.heap.size + 1 + 1, k * 5 + 1, none⟩ = false := hd1.cell hm 1 (by omega)
      obtain ⟨v2, e2, f2⟩ : ∃ v, w1.cell? ⟨w.heap.size + 1 + 1, k * 5 + 2, none⟩ = some v ∧ w1.frozen? ⟨w.heap.size + 1 + 1, k * 5 + 2, none⟩ = false := hd1.cell hm 2 (by omega)
      obtain ⟨v3, e3, f3⟩ : ∃ v, w1.cell? ⟨w.heap.size + 1 + 1, k * 5 + 3, none⟩ = some v ∧ w1.frozen? ⟨w.heap.size + 1 + 1, k * 5 + 3, none⟩ = false := hd1.cell hm 3 (by omega)
      obtain ⟨v4, e4, f4⟩ : ∃ v, w1.cell? ⟨w.heap.size + 1 + 1, k * 5 + 4, none⟩ = some v ∧ w1.frozen? ⟨w.heap.size + 1 + 1, k * 5 + 4, none⟩ = false := hd1.cell hm 4 (by omega)
      have HD1 := Lib.hid hd1
      have HR1 := Lib.hid hr1
      have HN1 := Lib.hid hnew
      have HWR := Lib.hid hwr1
      have hC2 := Lib.hid (show recs.length ≤ c1 from hnew.2)
      clear hd1 hr1 hnew hb1 hwr1
      go_wp2
      go_roundw
      case rel =>
        refine ⟨k + 1, by omega, by go_num, ?_, ?_⟩
        · refine HD1.out.step (r := ⟨key, ls, lp, val, recs⟩) (HR.out ▸ getD_some hm) HR1.out (fun ad h => ?_) hC2.out hok.out
          have := HN1.out.1 ad h
          have h2 := HD.out.lt
          have h3 : (wr.alloc (.cells #[.string key, .int .i64 ls, .string lp, .string val, .slice A recs.length c] 27)).heap.size = wr.heap.size + 1 := by simp
          omega
        · refine below_set5 ?_ (Nat.le_refl _) _ _ _ _ _ _
          exact HB.out.trans (HWR.out.mono (by have := HD.out.lt; omega))
      case measure => simp [intOf]; omega
    · have hke : k = wo.rows.length := by omega
      subst hke
      have HD := Lib.hid hd
      have HB := Lib.hid hb
      have HBW := Lib.hid hbw
      have g1 : wr.cell? ⟨w.heap.size, 1, none⟩ = some (.int .i64 wo.clock) := by rw [hb.cell (p := ⟨w.heap.size, 1, none⟩) (by show w.heap.size < w.heap.size + 2; omega), HW.out]; simp
      have g2 : wr.cell? ⟨w.heap.size, 2, none⟩ = some (.slice CA wo.cls.length cc) := by rw [hb.cell (p := ⟨w.heap.size, 2, none⟩) (by show w.heap.size < w.heap.size + 2; omega), HW.out]; simp
      have hsw : w.heap.size + 2 < wr.heap.size := hd.lt
      have hsw1 : w.heap.size + 1 < wr.heap.size := by omega
      have hsw0 : w.heap.size < wr.heap.size := by omega
      clear hd hb hbw
      obtain ⟨w3, rfl⟩ : ∃ w3, w3 = wr := ⟨_, rfl⟩
      go_wp2
      go_loopw [34] (fun i wr => ∃ (k : Nat) (wb : Nat → Nat), k ≤ wo.cls.length ∧ i = .int .i64 k ∧ ClsDone w3.heap.size wo.cls k wb wr ∧ Below w3.heap.size w3 wr) (fun i _ => wo.cls.length - (intOf i).toNat)
      case atStart =>
        refine ⟨0, fun _ => 0, Nat.zero_le _, rfl, ⟨⟨Z', heap_alloc_new w3 (.cells Z' 109), HZ'.out⟩, fun i r hi => by omega, fun i hi => by omega, fun i j _ hj => by omega, fun i o hi => by omega, fun i c hi => by omega⟩, below_alloc (Below.refl _ _) _⟩
      case round =>
        obtain ⟨k, wb, hk, rfl, hd, hb⟩ := hrel
        have hbw : Below w.heap.size w wr := below_next HBW.out hb
        by_cases hm : k < wo.cls.length
        · obtain ⟨b, o, rfl, hbb, hr⟩ := (HI.out.upto hbw).cls.at_ (getD_some (d := default) hm)
          obtain ⟨r, hr0⟩ : ∃ r, r = wo.cls.getD k default := ⟨_, rfl⟩
          rw [← hr0] at hr
          have c0 := hr.cp
          have c1 := hr.cs
          have c2 := hr.cm
          obtain ⟨A, c, c3, hc, hri⟩ := hr.cw
          have c4 := hr.ca
          have HR := Lib.hid hr0
          have HD := Lib.hid hd
          have HB := Lib.hid hb
          have HRI := Lib.hid hri
          have hok := Lib.hid hr.ok
          have hC := Lib.hid hc
          have j0 : (0 : Int) ≤ (k : Int) := by omega
          obtain ⟨ph, st, cm, ws, at_⟩ := r
          dsimp only at c0 c1 c2 c3 c4
          clear hr0 hd hb hri hr hc hbw
          go_wp2_with fail
          have hal : Below wr.heap.size wr (wr.alloc (.cells #[.int .i64 ph, .int .i64 st, .int .i64 cm, .slice A ws.length c, .int .i64 at_] 109)) := below_alloc (Below.refl _ _) _
          refine (copyClient_any ⟨ph, st, cm, ws, at_⟩ A ws.length c _ rfl (SeqAt.wrs HRI.out (below_mem hal).1 (below_mem hal).2)).mono ?_
          rintro e w1 ⟨rfl, hr1, hlt1, hf1, hb1⟩
          dsimp only at hr1
          have hwr1 : Below wr.heap.size wr w1 := below_next hal hb1
          have hsa : (wr.alloc (.cells #[.int .i64 ph, .int .i64 st, .int .i64 cm, .slice A ws.length c, .int .i64 at_] 109)).heap.size = wr.heap.size + 1 := by simp
          rw [hsa] at hr1 hlt1
          have hf1' : ∀ o, w1.frozen? ⟨wr.heap.size + 1 + 2, o, none⟩ = false := fun o => by have := hf1 o; rwa [hsa] at this
          have hd1 := HD.out.upto hwr1
          obtain ⟨v0, e0, f0⟩ : ∃ v, w1.cell? ⟨w3.heap.size, k * 5, none⟩ = some v ∧ w1.frozen? ⟨w3.heap.size, k * 5, none⟩ = false := hd1.cell hm 0 (by omega)
          obtain ⟨v1, e1, f1⟩ : ∃ v, w1.cell? ⟨w3.heap.size, k * 5 + 1, none⟩ = some v ∧ w1.frozen? ⟨w3.heap.size, k * 5 + 1, none⟩ = false := hd1.cell hm 1 (by omega)
          obtain ⟨v2, e2, f2⟩ : ∃ v, w1.cell? ⟨w3.heap.size, k * 5 + 2, none⟩ = some v ∧ w1.frozen? ⟨w3.heap.size, k * 5 + 2, none⟩ = false := hd1.cell hm 2 (by omega)
          obtain ⟨v3, e3, f3⟩ : ∃ v, w1.cell? ⟨w3.heap.size, k * 5 + 3, none⟩ = some v ∧ w1.frozen? ⟨w3.heap.size, k * 5 + 3, none⟩ = false := hd1.cell hm 3 (by omega)
          obtain ⟨v4, e4, f4⟩ : ∃ v, w1.cell? ⟨w3.heap.size, k * 5 + 4, none⟩ = some v ∧ w1.frozen? ⟨w3.heap.size, k * 5 + 4, none⟩ = false := hd1.cell hm 4 (by omega)
          have HD1 := Lib.hid hd1
          have HR1 := Lib.hid hr1
          have HF1 := Lib.hid hf1'
          have HLT := Lib.hid hlt1
          have HWR := Lib.hid hwr1
          clear hd1 hr1 hf1 hf1' hlt1 hsa hb1 hwr1 hal
          go_wp2
          go_roundw
          case rel =>
            refine ⟨k + 1, fun i => if i = k then wr.heap.size + 1 + 2 else wb i, by omega, by go_num, ?_, ?_⟩
            · refine HD1.out.step (b := wr.heap.size + 1 + 2) (c := ⟨ph, st, cm, ws, at_⟩) (HR.out ▸ getD_some hm) HR1.out ?_ HLT.out ?_ HF1.out hok.out
              · have := HD.out.lt
                omega
              · intro i hi
                have := (HD.out.wB i hi).2
                omega
            · refine below_set5 ?_ (Nat.le_refl _) _ _ _ _ _ _
              exact HB.out.trans (HWR.out.mono (by have := HB.out.size; omega))
          case measure => simp [intOf]; omega
        · have hke : k = wo.cls.length := by omega
          subst hke
          have hz : Below (w.heap.size + 2) W2 wr := HB.out.trans (hb.mono (by omega))
          have q1 : wr.cell? ⟨w.heap.size, 1, none⟩ = some (.int .i64 wo.clock) := (hb.cell (p := ⟨w.heap.size, 1, none⟩) hsw0).trans g1
          have z0 : wr.cell? ⟨w.heap.size + 1, 0, none⟩ = some (.slice none 0 0) := by rw [hz.cell (p := ⟨w.heap.size + 1, 0, none⟩) (by show w.heap.size + 1 < w.heap.size + 2; omega), HW.out]; simp
          have z1 : wr.cell? ⟨w.heap.size + 1, 1, none⟩ = some (.int .i64 0) := by rw [hz.cell (p := ⟨w.heap.size + 1, 1, none⟩) (by show w.heap.size + 1 < w.heap.size + 2; omega), HW.out]; simp
          have z2 : wr.cell? ⟨w.heap.size + 1, 2, none⟩ = some (.slice none 0 0) := by rw [hz.cell (p := ⟨w.heap.size + 1, 2, none⟩) (by show w.heap.size + 1 < w.heap.size + 2; omega), HW.out]; simp
          have y : ∀ o, wr.frozen? ⟨w.heap.size + 1, o, none⟩ = false := by
            intro o
            rw [hz.frozen (p := ⟨w.heap.size + 1, o, none⟩) (by show w.heap.size + 1 < w.heap.size + 2; omega), HW.out]
            have := World.frozen?_alloc_new (w.alloc (.cells #[.slice RA wo.rows.length rc, .int .i64 wo.clock, .slice CA wo.cls.length cc] 67)) #[.slice none 0 0, .int .i64 0, .slice none 0 0] 67 o
            rwa [show (w.alloc (.cells #[.slice RA wo.rows.length rc, .int .i64 wo.clock, .slice CA wo.cls.length cc] 67)).heap.size = w.heap.size + 1 from by simp] at this
          have y0 := y 0
          have y1 := y 1
          have y2 := y 2
          have HD' := Lib.hid hd
          have HB' := Lib.hid hb
          clear hd hb hbw hz y
          go_wp2
          have hs := set3_same wr (w.heap.size + 1) (.slice (some ⟨w.heap.size + 1 + 1, 0, none⟩) wo.rows.length wo.rows.length) (.int .i64 wo.clock) (.slice (some ⟨w3.heap.size, 0, none⟩) wo.cls.length wo.cls.length)
          have hg : ∀ g, w.heap.size + 1 < g → (set3 wr (w.heap.size + 1) (.slice (some ⟨w.heap.size + 1 + 1, 0, none⟩) wo.rows.length wo.rows.length) (.int .i64 wo.clock) (.slice (some ⟨w3.heap.size, 0, none⟩) wo.cls.length wo.cls.length)).heap[g]? = wr.heap[g]? := fun g hg => set3_heap _ _ _ _ _ (by omega)
          refine bodyPost_ret (v := woV (some ⟨w.heap.size + 1 + 1, 0, none⟩) wo.rows.length wo.rows.length wo.clock (some ⟨w3.heap.size, 0, none⟩) wo.cls.length wo.cls.length) (by simp [results, Tryd.results36, go_sem, z0, z1, z2]) rfl ⟨w.heap.size + 1 + 1, w3.heap.size, wb, rfl, ?_, ?_, fun i c hc => ?_⟩
          · refine core_of ((HD.out.upto HB'.out).same hs (fun p e => by show p.block < _; rw [e]; omega) (hg _ (by omega))) (HD'.out.same hs (fun p e => by rw [e]; exact hsw1) (hg _ hsw1)) (by omega) (by omega) (fun i r hr => ?_) hlr hlc HI.out.ck
            refine (HD.out.rows i r (List.getElem?_eq_some_iff.1 hr).1 hr).mono (fun b hb => hb) (fun b k hb => ?_) (fun k _ _ => ?_)
            · rw [hs.cell _ (fun e => by have : b = w.heap.size + 1 := e; omega)]
              exact HB'.out.cell (p := ⟨b, k, none⟩) hb.2
            · rw [hs.cell _ (fun e => by have : w.heap.size + 2 = w.heap.size + 1 := e; omega)]
              exact HB'.out.cell (p := ⟨w.heap.size + 2, k, none⟩) hsw
          · have hbw : Below w.heap.size w wr := below_next HBW.out HB'.out
            repeat (refine below_set ?_ (by simp) _)
            exact hbw
          · exact (hs.cell _ (fun e => by have : w3.heap.size = w.heap.size + 1 := e; omega)).trans (HD'.out.tight i c (List.getElem?_eq_some_iff.1 hc).1 hc)
end Go.Proofs.YtambkjnhfejfaabDoor
