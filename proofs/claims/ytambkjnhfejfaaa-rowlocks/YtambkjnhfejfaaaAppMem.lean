/-
  append of records onto a row of the call's own; from what is owned to records in memory. Conditions: those stated.
-/
import Derived.Test.YtambkjnhfejfaaaCopy
import Derived.Maps.AppendAt
import Derived.RegionTactic
import Derived.OwnWalk
namespace Go.Proofs.Ytambkjnhfejfaaa
open Go.RowKit

/-- A slice value that owns records. -/
def OwnsRecs (w : World) (base : Nat) (v : Value) (l : List RecM) : Prop := w.ownsRow base 56 3 v l.length (recsC l)

theorem ownsRecs_nil (w : World) (base : Nat) : OwnsRecs w base (.slice none 0 0) [] := World.ownsRow_nil _ _ _ _

/-- What is owned lies in memory. -/
theorem OwnsRecs.at_ {w : World} {base : Nat} {v : Value} {l : List RecM} (h : OwnsRecs w base v l) (hlen : l.length ≤ 4398046511104) (hok : ∀ r ∈ l, RecOk r) : ∃ A c, v = .slice A l.length c ∧ RecsAt w w.heap.size A l := by
  rcases h.2 with ⟨hv, h0⟩ | ⟨g, cap, cur, hv, _, hh, _, _, _, ht⟩
  · have : l = [] := List.eq_nil_of_length_eq_zero h0
    subst this
    exact ⟨none, 0, hv, RecsAt.nil_ _ _ _⟩
  · refine ⟨some ⟨g, 0, none⟩, cap, hv, recsAt_block hlen hok (Array.getElem?_eq_some_iff.1 hh).1 hh fun j u hj => ?_⟩
    have hjl := (List.getElem?_eq_some_iff.1 hj).1
    rw [← ht, List.getElem?_take] at hj
    split at hj
    · simpa using hj
    · cases hj
theorem OwnsRecs.rec {w : World} {base n c : Nat} {A : Option Addr} {l : List RecM} (h : OwnsRecs w base (.slice A n c) l) (hlen : l.length ≤ 4398046511104) (hok : ∀ r ∈ l, RecOk r) : RecsAt w w.heap.size A l := by
  obtain ⟨A', c', hv, hr⟩ := h.at_ hlen hok
  injection hv with hv
  rw [hv]; exact hr
theorem OwnsRecs.new {w : World} {base n c : Nat} {A : Option Addr} {l : List RecM} (h : OwnsRecs w base (.slice A n c) l) : NewAt base A := by
  intro ad hA
  rcases h.2 with ⟨hv, _⟩ | ⟨g, cap, cur, hv, hg, _⟩
  · injection hv with hv; rw [hv] at hA; cases hA
  · injection hv with hv; rw [hv] at hA; injection hA with hA; subst hA; exact hg
theorem OwnsRecs.cap {w : World} {base n c : Nat} {A : Option Addr} {l : List RecM} (h : OwnsRecs w base (.slice A n c) l) : l.length ≤ c := by
  rcases h.2 with ⟨hv, h0⟩ | ⟨g, cap, cur, hv, _, _, hc, _⟩
  · omega
  · injection hv with _ _ hv; omega
theorem OwnsRecs.set {w : World} {base : Nat} {v : Value} {l : List RecM} (h : OwnsRecs w base v l) {a : Addr} (ha : a.block < base) (u : Value) : OwnsRecs (w.setCell a u) base v l := ownsRow_setCell_below h ha u
theorem OwnsRecs.kept {w w' : World} {base : Nat} {v : Value} {l : List RecM} (h : OwnsRecs w base v l) (hb : Below w.heap.size w w') : OwnsRecs w' base v l := by
  rcases h.2 with h0 | ⟨g, cap, cur, hv, hg, hh, r⟩
  · exact ⟨h.1, .inl h0⟩
  · exact ⟨h.1, .inr ⟨g, cap, cur, hv, hg, (hb.block g (Array.getElem?_eq_some_iff.1 hh).1).trans hh, r⟩⟩
theorem OwnsRecs.below {w w' : World} {base : Nat} {v : Value} {l : List RecM} (h : OwnsRecs w base v l) (hk : ∀ g, v.ownBlock = some g → w'.heap[g]? = w.heap[g]?) : OwnsRecs w' base v l := by
  rcases h.2 with h0 | ⟨g, cap, cur, hv, hg, hh, r⟩
  · exact ⟨h.1, .inl h0⟩
  · exact ⟨h.1, .inr ⟨g, cap, cur, hv, hg, (hk g (by rw [hv]; rfl)).trans hh, r⟩⟩

set_option maxRecDepth 100000 in
/-- append(v, records...). -/
theorem append_recs (W : World) (ty : TypeId) (base B m c : Nat) (v : Value) (l0 : List RecM) (A : Option Addr) (l : List RecM) (hown : OwnsRecs W base v l0) (hm : m = l.length) (hl : RecsAt W B A l)
    (hbd : l0.length + l.length ≤ 4398046511104) (hbase : base ≤ W.heap.size) :
    ∃ v' w', (Builtin.append_ #[25, 25] ty #[v, .slice A m c]).run Try.prog W = .ok v' w' ∧ OwnsRecs w' base v' (l0 ++ l) ∧ W.grownBy w' v.ownBlock ∧ (v'.ownBlock = v.ownBlock ∨ v'.ownBlock = some W.heap.size) := by
  obtain ⟨i0, hi0, hz0, hz1, hz2⟩ := info_parts rec_info
  subst hm
  cases A with
  | none =>
    have h0 : l = [] := by
      rcases Nat.eq_zero_or_pos l.length with h0 | h0
      · exact List.eq_nil_of_length_eq_zero h0
      · obtain ⟨b, o, h, _⟩ := hl.2.2 h0; cases h
    subst h0
    refine ⟨v, W, ?_, by simpa using hown, World.grownBy.refl W _, .inl rfl⟩
    rcases hown.2 with ⟨rfl, h0⟩ | ⟨g, cap, cur, rfl, _, _, hnc, _⟩
    · simp [Builtin.append_, run_underlying Try.underlying25, sizeOf, typeInfo, hi0, Builtin.lenOf, Builtin.firstCells]
    · simp [Builtin.append_, run_underlying Try.underlying25, sizeOf, typeInfo, hi0, Builtin.lenOf, Builtin.firstCells, hnc, storeCells]
  | some a =>
    have hsrc : ∀ j u, (recsC l)[j]? = some u → W.cell? (a.add j) = some u := by
      intro j u hj
      have hjl : j < l.length * 3 := by rw [← recsC_length]; exact (List.getElem?_eq_some_iff.1 hj).1
      obtain ⟨b, o, hA, _, _⟩ := hl.2.2 (by omega)
      injection hA with hA
      subst hA
      have e : (⟨b, o, none⟩ : Addr).add j = ⟨b, o + j, none⟩ := by unfold Addr.add; split <;> simp_all
      rw [e]
      exact hl.cells j u hj
    obtain ⟨v', w', h1, h2, h3, _, h5⟩ := run_append_own_at (P := Try.prog) W base 25 ty 56 i0 _ 3 32 Try.underlying25 hi0 hz0 hz1 hz2 rfl (by omega) v l0.length (recsC l0) hown a l.length c (recsC l)
      (recsC_length l) hsrc (recsC_one l) (by simp only [maxLen]; omega) (by omega) hbase
    refine ⟨v', w', h1, ?_, h3, h5⟩
    unfold OwnsRecs
    rw [List.length_append, recsC_append]
    exact h2

/-- append(v, records...), and what it leaves: a slice that owns all of them; nothing below the base has turned. -/
theorem app_shape (W w0 : World) (ty : TypeId) (base B m c : Nat) (v : Value) (l0 : List RecM) (A : Option Addr) (l : List RecM) (hown : OwnsRecs W base v l0) (hm : m = l.length) (hl : RecsAt W B A l)
    (hbd : l0.length + l.length ≤ 4398046511104) (hok : ∀ r ∈ l0, RecOk r) (hbase : base ≤ W.heap.size) (hb : Below base w0 W) :
    ∃ v' w', (Builtin.append_ #[25, 25] ty #[v, .slice A m c]).run Try.prog W = .ok v' w' ∧ ∃ A' c', v' = .slice A' (l0 ++ l).length c' ∧ OwnsRecs w' base (.slice A' (l0 ++ l).length c') (l0 ++ l) ∧ Below base w0 w' ∧ W.heap.size ≤ w'.heap.size := by
  obtain ⟨v', w', h1, h2, h3, _⟩ := append_recs W ty base B m c v l0 A l hown hm hl hbd hbase
  obtain ⟨A', c', hv, _⟩ := h2.at_ (by simpa using hbd) (fun r hr => by
    rcases List.mem_append.1 hr with hr | hr
    · exact hok r hr
    · exact hl.ok hr)
  subst hv
  exact ⟨_, w', h1, A', c', rfl, h2, hb.grown h3 hbase (fun k hk => (World.ownsRow.lt hown k hk).1), h3.size⟩

/-- A run of append that is known, as a step of a region that draws its order. -/
theorem step_append_run {P : Program} {ops : Array Oper} {o : Oper} {a : Act} {w : World} {K : Act → World → Prop} {Q : Exit → Act → World → Prop} {E : Prop} (R : Value → World → Prop) (hgd : o.guard = none) (s x : Operand) (t : TypeId)
    (ho : o.op = .call { callee := .builtin .append, args := #[s, x], argTypes := #[t, t] }) (v u : Value) (hs : a.eval s = v) (hx : a.eval x = u)
    (hrun : ∃ v' w', (Builtin.append_ #[t, t] o.type #[v, u]).run P w = .ok v' w' ∧ R v' w') (h : ∀ v' w', R v' w' → K (a.put o.dst v') w') :
    if Region.wanted o (yielded ops a.tmps) = true then Oper.wp P o a w K Q else E := by
  have hw : Region.wanted o (yielded ops a.tmps) = true := by simp [Region.wanted, hgd]
  rw [if_pos hw]
  obtain ⟨v', w', hr, hR⟩ := hrun
  unfold Oper.wp execOp
  simp only [ho, resolve, invoke, builtin, Sem.run_bind, Sem.run_pure, Result.andThen_ok, List.map_toArray, List.map_cons, List.map_nil, hs, hx, hr]
  exact h v' w' hR
/-- The same in a plain region. -/
theorem wpList_append_run {P : Program} {ops : Array Oper} {rest : List Oper} {o : Oper} {a : Act} {w : World} {Q : Exit → Act → World → Prop} (R : Value → World → Prop) (hgd : o.guard = none) (s x : Operand) (t : TypeId)
    (ho : o.op = .call { callee := .builtin .append, args := #[s, x], argTypes := #[t, t] }) (v u : Value) (hs : a.eval s = v) (hx : a.eval x = u)
    (hrun : ∃ v' w', (Builtin.append_ #[t, t] o.type #[v, u]).run P w = .ok v' w' ∧ R v' w') (h : ∀ v' w', R v' w' → wpList P ops Q rest (a.put o.dst v') w') : wpList P ops Q (o :: rest) a w := by
  refine wpList_plain hgd fun K hK => ?_
  obtain ⟨v', w', hr, hR⟩ := hrun
  unfold Oper.wp execOp
  simp only [ho, resolve, invoke, builtin, Sem.run_bind, Sem.run_pure, Result.andThen_ok, List.map_toArray, List.map_cons, List.map_nil, hs, hx, hr]
  exact hK _ _ (h v' w' hR)
end Go.Proofs.Ytambkjnhfejfaaa
