/-
  Contract of txn.Copy: an equal world in new memory. Conditions: the world comes in as it should ('WoIn').
-/
import Derived.Test.YtambkjnhfejfaaaTCopyCl
import Derived.Test.YtambkjnhfejfaaaTOwn
namespace Go.Proofs.Ytambkjnhfejfaaa
open Go.RowKit

/-- The first k rows lie in block g. -/
structure RowsDone (g : Nat) (l : List RowM) (k : Nat) (wr : World) : Prop where
  blk : ∃ cur, wr.heap[g]? = some (.cells cur 27 (0, 0)) ∧ cur.size = l.length * 5
  rows : ∀ i r, i < k → l[i]? = some r → RowAt wr (fun b => g < b ∧ b < wr.heap.size) g (i * 5) r
/-- The first k clients lie in block g. -/
structure ClsDone (g : Nat) (l : List ClM) (k : Nat) (wb : Nat → Nat) (wr : World) : Prop where
  blk : ∃ cur, wr.heap[g]? = some (.cells cur 72 (0, 0)) ∧ cur.size = l.length * 5
  cls : ∀ i c, i < k → l[i]? = some c → ClAt wr (· = wb i) g (i * 5) c
  wB : ∀ i, i < k → g < wb i ∧ wb i < wr.heap.size
  inc : ∀ i j, i < j → j < k → wb i < wb j
  wf : ∀ i o, i < k → wr.frozen? ⟨wb i, o, none⟩ = false

theorem block_cell {w : World} {g j n : Nat} {cur : Array Value} {t : TypeId} (hg : w.heap[g]? = some (.cells cur t (0, 0))) (hn : cur.size = n) (hj : j < n) : ∃ v, w.cell? ⟨g, j, none⟩ = some v ∧ w.frozen? ⟨g, j, none⟩ = false :=
  ⟨cur[j]'(by omega), by rw [Joins.cell_of_block hg]; simp [hn, hj], Joins.unfrozen_of_block hg _⟩
theorem block_set {w : World} {g o n : Nat} {t : TypeId} (h : ∃ cur, w.heap[g]? = some (.cells cur t (0, 0)) ∧ cur.size = n) (u : Value) : ∃ cur, (w.setCell ⟨g, o, none⟩ u).heap[g]? = some (.cells cur t (0, 0)) ∧ cur.size = n := by
  obtain ⟨cur, hg, hn⟩ := h
  refine ⟨cur.modify o (fun _ => u), ?_, by simpa using hn⟩
  simp only [World.setCell, Array.getElem?_modify, if_true, hg, Option.map_some]
  rfl

section
variable {g k : Nat} {l : List RowM} {m : List ClM} {wb : Nat → Nat} {w w' : World}
theorem RowsDone.lt (h : RowsDone g l k w) : g < w.heap.size := by obtain ⟨_, h, _⟩ := h.blk; exact (Array.getElem?_eq_some_iff.1 h).1
theorem RowsDone.upto (h : RowsDone g l k w) (hb : Below w.heap.size w w') : RowsDone g l k w' := by
  obtain ⟨cur, hg, hn⟩ := h.blk
  obtain ⟨h1, h2⟩ := below_mem hb
  exact ⟨⟨cur, (hb.block g h.lt).trans hg, hn⟩, fun i r hi hr => (h.rows i r hi hr).mono (fun b hb => ⟨hb.1, h1 b hb.2⟩) (fun b k hb => h2 b k hb.2) (fun k _ _ => h2 g k h.lt)⟩
theorem RowsDone.cell (h : RowsDone g l k w) (hk : k < l.length) (j : Nat) (hj : j < 5) : ∃ v, w.cell? ⟨g, k * 5 + j, none⟩ = some v ∧ w.frozen? ⟨g, k * 5 + j, none⟩ = false := by
  obtain ⟨cur, hg, hn⟩ := h.blk
  exact block_cell hg hn (by omega)
theorem RowsDone.step (h : RowsDone g l k w) {r : RowM} {A : Option Addr} {c : Nat} (hr : l[k]? = some r) (hl : RecsAt w w.heap.size A r.recs) (hn : NewAt (g + 1) A) (hc : r.recs.length ≤ c) (hok : RowOk r) :
    RowsDone g l (k + 1) (set5 w g (k * 5) (.string r.key) (.int .i64 r.ls) (.string r.lp) (.string r.val) (.slice A r.recs.length c)) := by
  have hk := (List.getElem?_eq_some_iff.1 hr).1
  have hs := set5_same w g (k * 5) (.string r.key) (.int .i64 r.ls) (.string r.lp) (.string r.val) (.slice A r.recs.length c)
  obtain ⟨_, e0, _⟩ := h.cell hk 0 (by omega)
  obtain ⟨_, e1, _⟩ := h.cell hk 1 (by omega)
  obtain ⟨_, e2, _⟩ := h.cell hk 2 (by omega)
  obtain ⟨_, e3, _⟩ := h.cell hk 3 (by omega)
  obtain ⟨_, e4, _⟩ := h.cell hk 4 (by omega)
  obtain ⟨a0, a1, a2, a3, a4⟩ := set5_at e0 e1 e2 e3 e4 (.string r.key) (.int .i64 r.ls) (.string r.lp) (.string r.val) (.slice A r.recs.length c)
  refine ⟨block_set (block_set (block_set (block_set (block_set h.blk _) _) _) _) _, fun i x hi hx => ?_⟩
  rw [hs.sz]
  by_cases e : i = k
  · subst e
    rw [hr] at hx
    injection hx with hx
    subst hx
    refine ⟨a0, a1, a2, a3, ⟨A, c, a4, hc, ?_⟩, hok⟩
    refine (RecsAt.in_ (P := fun b => g < b ∧ b < w.heap.size) hl fun ad hA hb => ⟨by have := hn ad hA; omega, hb⟩).mono (fun _ hb => hb) fun b k' hb => hs.cell _ fun e => ?_
    have : b = g := e.1
    omega
  · refine (h.rows i x (by omega) hx).mono (fun _ hb => hb) (fun b k' hb => hs.cell _ fun e => ?_) (fun k' h1 h2 => hs.cell _ fun e' => ?_)
    · have : b = g := e.1
      omega
    · have h3 : k * 5 ≤ k' := e'.2.1
      have h4 : k' < k * 5 + 5 := e'.2.2
      omega
theorem ClsDone.lt (h : ClsDone g m k wb w) : g < w.heap.size := by obtain ⟨_, h, _⟩ := h.blk; exact (Array.getElem?_eq_some_iff.1 h).1
theorem ClsDone.upto (h : ClsDone g m k wb w) (hb : Below w.heap.size w w') : ClsDone g m k wb w' := by
  obtain ⟨cur, hg, hn⟩ := h.blk
  obtain ⟨h1, h2⟩ := below_mem hb
  exact ⟨⟨cur, (hb.block g h.lt).trans hg, hn⟩, fun i r hi hr => (h.cls i r hi hr).mono (fun b hb => hb) (fun b k hp => h2 b k (by rw [hp]; exact (h.wB i hi).2)) (fun k _ _ => h2 g k h.lt), fun i hi => ⟨(h.wB i hi).1, h1 _ (h.wB i hi).2⟩, h.inc, fun i o hi => ((bcell hb).2 _ o (h.wB i hi).2).trans (h.wf i o hi)⟩
theorem ClsDone.cell (h : ClsDone g m k wb w) (hk : k < m.length) (j : Nat) (hj : j < 5) : ∃ v, w.cell? ⟨g, k * 5 + j, none⟩ = some v ∧ w.frozen? ⟨g, k * 5 + j, none⟩ = false := by
  obtain ⟨cur, hg, hn⟩ := h.blk
  exact block_cell hg hn (by omega)
theorem ClsDone.step (h : ClsDone g m k wb w) {c : ClM} {b q : Nat} (hr : m[k]? = some c) (hl : WrsAt w (· = b) (some ⟨b, 0, none⟩) c.ws) (hg : g < b) (hb : b < w.heap.size) (hi : ∀ i, i < k → wb i < b) (hf : ∀ o, w.frozen? ⟨b, o, none⟩ = false) (hq : c.ws.length ≤ q) (hok : ClOk c) :
    ClsDone g m (k + 1) (fun i => if i = k then b else wb i) (set5 w g (k * 5) (.int .i64 c.ph) (.int .i64 c.st) (.int .i64 c.cm) (.slice (some ⟨b, 0, none⟩) c.ws.length q) (.int .i64 c.at_)) := by
  have hk := (List.getElem?_eq_some_iff.1 hr).1
  have hs := set5_same w g (k * 5) (.int .i64 c.ph) (.int .i64 c.st) (.int .i64 c.cm) (.slice (some ⟨b, 0, none⟩) c.ws.length q) (.int .i64 c.at_)
  obtain ⟨_, e0, _⟩ := h.cell hk 0 (by omega)
  obtain ⟨_, e1, _⟩ := h.cell hk 1 (by omega)
  obtain ⟨_, e2, _⟩ := h.cell hk 2 (by omega)
  obtain ⟨_, e3, _⟩ := h.cell hk 3 (by omega)
  obtain ⟨_, e4, _⟩ := h.cell hk 4 (by omega)
  obtain ⟨a0, a1, a2, a3, a4⟩ := set5_at e0 e1 e2 e3 e4 (.int .i64 c.ph) (.int .i64 c.st) (.int .i64 c.cm) (.slice (some ⟨b, 0, none⟩) c.ws.length q) (.int .i64 c.at_)
  refine ⟨block_set (block_set (block_set (block_set (block_set h.blk _) _) _) _) _, fun i x hi' hx => ?_, fun i hi' => ?_, fun i j hij hj => ?_, fun i o hi' => ?_⟩
  · by_cases e : i = k
    · subst e
      rw [hr] at hx
      injection hx with hx
      subst hx
      simp only [if_true]
      refine ⟨a0, a1, a2, ⟨_, q, a3, hq, ?_⟩, a4, hok⟩
      refine SeqAt.wrs hl (fun _ hb => hb) fun b' k' hb' => hs.cell _ fun e => ?_
      have : b' = g := e.1
      omega
    · simp only [e, if_false]
      have hik : i < k := by omega
      refine (h.cls i x hik hx).mono (fun _ hb => hb) (fun b' k' hb' => hs.cell _ fun e => ?_) (fun k' h1 h2 => hs.cell _ fun e' => ?_)
      · have : b' = g := e.1
        have := (h.wB i hik).1
        omega
      · have h3 : k * 5 ≤ k' := e'.2.1
        have h4 : k' < k * 5 + 5 := e'.2.2
        omega
  · rw [hs.sz]
    by_cases e : i = k
    · simp only [e, if_true]; exact ⟨hg, hb⟩
    · simp only [e, if_false]; exact h.wB i (by omega)
  · by_cases e : j = k
    · have e' : ¬ i = k := by omega
      simp only [e, e', if_true, if_false]; exact hi i (by omega)
    · have e' : ¬ i = k := by omega
      simp only [e, e', if_false]; exact h.inc i j hij (by omega)
  · rw [hs.fr]
    by_cases e : i = k
    · simp only [e, if_true]; exact hf o
    · simp only [e, if_false]; exact h.wf i o (by omega)
end

theorem RowsDone.same {g k : Nat} {l : List RowM} {w w' : World} {S : Addr → Prop} (h : RowsDone g l k w) (hs : Same w w' S) (hS : ∀ p, S p → p.block < g) (hg : w'.heap[g]? = w.heap[g]?) : RowsDone g l k w' := by
  obtain ⟨cur, hc, hn⟩ := h.blk
  refine ⟨⟨cur, hg.trans hc, hn⟩, fun i r hi hr => ?_⟩
  rw [hs.sz]
  refine (h.rows i r hi hr).mono (fun b hb => hb) (fun b k hb => hs.cell _ fun e => ?_) (fun k _ _ => hs.cell _ fun e => ?_)
  · have := hS _ e
    have : b < g := this
    omega
  · have := hS _ e
    have : g < g := this
    omega
theorem ClsDone.same {g k : Nat} {m : List ClM} {wb : Nat → Nat} {w w' : World} {S : Addr → Prop} (h : ClsDone g m k wb w) (hs : Same w w' S) (hS : ∀ p, S p → p.block < g) (hg : w'.heap[g]? = w.heap[g]?) : ClsDone g m k wb w' := by
  obtain ⟨cur, hc, hn⟩ := h.blk
  refine ⟨⟨cur, hg.trans hc, hn⟩, fun i c hi hr => ?_, fun i hi => by rw [hs.sz]; exact h.wB i hi, h.inc, fun i o hi => (hs.fr _).trans (h.wf i o hi)⟩
  refine (h.cls i c hi hr).mono (fun b hb => hb) (fun b k hb => hs.cell _ fun e => ?_) (fun k _ _ => hs.cell _ fun e => ?_)
  · have : b < g := hS _ e
    have := (h.wB i hi).1
    omega
  · have : g < g := hS _ e
    omega

/-- A world that goes out, in new memory. -/
def WoOut (wo : WoM) (w : World) (e : Ending) (w' : World) : Prop :=
  ∃ bR bC wb, e = .returned (woV (some ⟨bR, 0, none⟩) wo.rows.length wo.rows.length wo.clock (some ⟨bC, 0, none⟩) wo.cls.length wo.cls.length) ∧ Core w' w.heap.size (fun _ => False) bR bC wb wo ∧ Below w.heap.size w w'

/-- From rows and clients that are done to a world. -/
theorem core_of {w : World} {B bR bC : Nat} {wb : Nat → Nat} {wo : WoM} (hR : RowsDone bR wo.rows wo.rows.length w) (hC : ClsDone bC wo.cls wo.cls.length wb w) (hB : B ≤ bR) (hlt : bR < bC) (hrecs : ∀ i r, wo.rows[i]? = some r → RowAt w (fun b => bR < b ∧ b < bC) bR (i * 5) r) (rl : wo.rows.length ≤ 1759218604441) (cl : wo.cls.length ≤ 2513169434917) (ck : i64 wo.clock) :
    Core w B (fun _ => False) bR bC wb wo := by
  obtain ⟨cur, hg, _⟩ := hR.blk
  obtain ⟨cur', hg', _⟩ := hC.blk
  refine ⟨⟨hB, hR.lt, fun h => h⟩, ⟨by omega, hC.lt, fun h => h⟩, by omega, fun i hi => ?_, fun i j hi hj e => ?_, fun o => Joins.unfrozen_of_block hg o, fun o => Joins.unfrozen_of_block hg' o, hC.wf, fun i r hr => ?_, fun i c hc => hC.cls i c (List.getElem?_eq_some_iff.1 hc).1 hc, rl, cl, ck⟩
  · obtain ⟨a, b⟩ := hC.wB i hi
    exact ⟨by omega, b, fun h => h, by omega, by omega⟩
  · rcases Nat.lt_trichotomy i j with h | h | h
    · have := hC.inc i j h hj; omega
    · exact h
    · have := hC.inc j i h hi; omega
  · have hlt' := hC.lt
    refine (hrecs i r hr).mono (fun b hb => ⟨by omega, fun h => h, by omega, by omega, fun j hj => ?_⟩) (fun _ _ _ => rfl) (fun _ _ _ => rfl)
    have := (hC.wB j hj).1
    omega
end Go.Proofs.Ytambkjnhfejfaaa
