/-
  Words for memory: a world of the call's own, and what each kind of store makes of it. No program text. Conditions: none.
-/
import Derived.Test.YtambkjnhfejfaaaTMem
namespace Go.Proofs.Ytambkjnhfejfaaa
open Go.RowKit

/-- Two memories that differ only where S says so. -/
structure Same (W W' : World) (S : Addr → Prop) : Prop where
  cell : ∀ p, ¬ S p → W'.cell? p = W.cell? p
  fr : ∀ p, W'.frozen? p = W.frozen? p
  sz : W'.heap.size = W.heap.size
theorem Same.refl (W : World) (S : Addr → Prop) : Same W W S := ⟨fun _ _ => rfl, fun _ => rfl, rfl⟩
theorem Same.set {W W' : World} {S : Addr → Prop} (h : Same W W' S) {p : Addr} (hp : S p) (u : Value) : Same W (W'.setCell p u) S :=
  ⟨fun q hq => (World.cell?_setCell_other W' p q u (fun e => hq (e ▸ hp))).trans (h.cell q hq), fun q => (by rw [World.frozen?_setCell]; exact h.fr q), (by simp [World.setCell]; exact h.sz)⟩
theorem Same.drewN {W W' : World} {S : Addr → Prop} (h : Same W W' S) (n : Nat) : Same W (W'.drewN n) S := ⟨h.cell, h.fr, h.sz⟩

/-- Five cells stored one behind the other. -/
abbrev set5 (W : World) (g o : Nat) (v0 v1 v2 v3 v4 : Value) : World :=
  ((((W.setCell ⟨g, o, none⟩ v0).setCell ⟨g, o + 1, none⟩ v1).setCell ⟨g, o + 2, none⟩ v2).setCell ⟨g, o + 3, none⟩ v3).setCell ⟨g, o + 4, none⟩ v4
/-- The places of five cells. -/
def five (g o : Nat) (p : Addr) : Prop := p.block = g ∧ o ≤ p.off ∧ p.off < o + 5
theorem set5_same (W : World) (g o : Nat) (v0 v1 v2 v3 v4 : Value) : Same W (set5 W g o v0 v1 v2 v3 v4) (five g o) :=
  ((((((Same.refl W _).set ⟨rfl, Nat.le_refl _, by show o < o + 5; omega⟩ _).set ⟨rfl, by show o ≤ o + 1; omega, by show o + 1 < o + 5; omega⟩ _).set ⟨rfl, by show o ≤ o + 2; omega, by show o + 2 < o + 5; omega⟩ _).set ⟨rfl, by show o ≤ o + 3; omega, by show o + 3 < o + 5; omega⟩ _).set ⟨rfl, by show o ≤ o + 4; omega, by show o + 4 < o + 5; omega⟩ _)
theorem set5_at {W : World} {g o : Nat} {u0 u1 u2 u3 u4 : Value} (h0 : W.cell? ⟨g, o, none⟩ = some u0) (h1 : W.cell? ⟨g, o + 1, none⟩ = some u1) (h2 : W.cell? ⟨g, o + 2, none⟩ = some u2) (h3 : W.cell? ⟨g, o + 3, none⟩ = some u3) (h4 : W.cell? ⟨g, o + 4, none⟩ = some u4) (v0 v1 v2 v3 v4 : Value) :
    (set5 W g o v0 v1 v2 v3 v4).cell? ⟨g, o, none⟩ = some v0 ∧ (set5 W g o v0 v1 v2 v3 v4).cell? ⟨g, o + 1, none⟩ = some v1 ∧ (set5 W g o v0 v1 v2 v3 v4).cell? ⟨g, o + 2, none⟩ = some v2 ∧ (set5 W g o v0 v1 v2 v3 v4).cell? ⟨g, o + 3, none⟩ = some v3 ∧ (set5 W g o v0 v1 v2 v3 v4).cell? ⟨g, o + 4, none⟩ = some v4 := by
  have ne : ∀ i j : Nat, i ≠ j → (⟨g, o + i, none⟩ : Addr) ≠ ⟨g, o + j, none⟩ := fun i j h e => h (by injection e with _ e; omega)
  have ne0 : ∀ j : Nat, j ≠ 0 → (⟨g, o + j, none⟩ : Addr) ≠ ⟨g, o, none⟩ := fun j h e => h (by injection e with _ e; omega)
  have ne0' : ∀ j : Nat, j ≠ 0 → (⟨g, o, none⟩ : Addr) ≠ ⟨g, o + j, none⟩ := fun j h e => h (by injection e with _ e; omega)
  refine ⟨?_, ?_, ?_, ?_, ?_⟩
  · rw [World.cell?_setCell_other _ _ _ _ (ne0 4 (by decide)), World.cell?_setCell_other _ _ _ _ (ne0 3 (by decide)), World.cell?_setCell_other _ _ _ _ (ne0 2 (by decide)), World.cell?_setCell_other _ _ _ _ (ne0 1 (by decide))]
    exact World.cell?_setCell_same _ _ _ h0
  · rw [World.cell?_setCell_other _ _ _ _ (ne 4 1 (by decide)), World.cell?_setCell_other _ _ _ _ (ne 3 1 (by decide)), World.cell?_setCell_other _ _ _ _ (ne 2 1 (by decide))]
    exact World.cell?_setCell_same _ _ _ (u := u1) (by rw [World.cell?_setCell_other _ _ _ _ (ne0' 1 (by decide))]; exact h1)
  · rw [World.cell?_setCell_other _ _ _ _ (ne 4 2 (by decide)), World.cell?_setCell_other _ _ _ _ (ne 3 2 (by decide))]
    exact World.cell?_setCell_same _ _ _ (u := u2) (by rw [World.cell?_setCell_other _ _ _ _ (ne 1 2 (by decide)), World.cell?_setCell_other _ _ _ _ (ne0' 2 (by decide))]; exact h2)
  · rw [World.cell?_setCell_other _ _ _ _ (ne 4 3 (by decide))]
    exact World.cell?_setCell_same _ _ _ (u := u3) (by rw [World.cell?_setCell_other _ _ _ _ (ne 2 3 (by decide)), World.cell?_setCell_other _ _ _ _ (ne 1 3 (by decide)), World.cell?_setCell_other _ _ _ _ (ne0' 3 (by decide))]; exact h3)
  · exact World.cell?_setCell_same _ _ _ (u := u4) (by rw [World.cell?_setCell_other _ _ _ _ (ne 3 4 (by decide)), World.cell?_setCell_other _ _ _ _ (ne 2 4 (by decide)), World.cell?_setCell_other _ _ _ _ (ne 1 4 (by decide)), World.cell?_setCell_other _ _ _ _ (ne0' 4 (by decide))]; exact h4)
theorem below_set5 {w W : World} {B : Nat} (h : Below B w W) {g : Nat} (hg : B ≤ g) (o : Nat) (v0 v1 v2 v3 v4 : Value) : Below B w (set5 W g o v0 v1 v2 v3 v4) :=
  ((((h.setCell hg _).setCell hg _).setCell hg _).setCell hg _).setCell hg _

/-- Three cells stored one behind the other. -/
abbrev set3 (W : World) (g : Nat) (v0 v1 v2 : Value) : World := ((W.setCell ⟨g, 0, none⟩ v0).setCell ⟨g, 1, none⟩ v1).setCell ⟨g, 2, none⟩ v2
theorem set3_same (W : World) (g : Nat) (v0 v1 v2 : Value) : Same W (set3 W g v0 v1 v2) (fun p => p.block = g) := by
  refine Same.set (Same.set (Same.set (Same.refl W _) ?_ _) ?_ _) ?_ _ <;> rfl
theorem set3_heap (W : World) (g : Nat) (v0 v1 v2 : Value) {k : Nat} (h : k ≠ g) : (set3 W g v0 v1 v2).heap[k]? = W.heap[k]? := by
  rw [Below.heap_setCell _ _ _ _ h, Below.heap_setCell _ _ _ _ h, Below.heap_setCell _ _ _ _ h]

/-- The blocks in which the records of an owned world may lie. -/
def OwnP (s : Nat) (X : Nat → Prop) (bR bC : Nat) (wb : Nat → Nat) (m b : Nat) : Prop := b < s ∧ ¬ X b ∧ b ≠ bR ∧ b ≠ bC ∧ ∀ i, i < m → b ≠ wb i
/-- A world of the call's own: rows in block bR, clients in block bC, the writes of client i in block wb i, all of them B or later; X: what is none of them. -/
structure Core (w : World) (B : Nat) (X : Nat → Prop) (bR bC : Nat) (wb : Nat → Nat) (wo : WoM) : Prop where
  rB : B ≤ bR ∧ bR < w.heap.size ∧ ¬ X bR
  cB : B ≤ bC ∧ bC < w.heap.size ∧ ¬ X bC
  ne : bR ≠ bC
  wB : ∀ i, i < wo.cls.length → B ≤ wb i ∧ wb i < w.heap.size ∧ ¬ X (wb i) ∧ wb i ≠ bR ∧ wb i ≠ bC
  inj : ∀ i j, i < wo.cls.length → j < wo.cls.length → wb i = wb j → i = j
  rf : ∀ o, w.frozen? ⟨bR, o, none⟩ = false
  cf : ∀ o, w.frozen? ⟨bC, o, none⟩ = false
  wf : ∀ i o, i < wo.cls.length → w.frozen? ⟨wb i, o, none⟩ = false
  rows : ∀ i r, wo.rows[i]? = some r → RowAt w (OwnP w.heap.size X bR bC wb wo.cls.length) bR (i * 5) r
  cls : ∀ i c, wo.cls[i]? = some c → ClAt w (· = wb i) bC (i * 5) c
  rl : wo.rows.length ≤ 1759218604441
  cl : wo.cls.length ≤ 2513169434917
  ck : i64 wo.clock

section
variable {w w' : World} {B : Nat} {X X' : Nat → Prop} {bR bC : Nat} {wb : Nat → Nat} {wo : WoM}
/-- Behind new memory. -/
theorem Core.upto (h : Core w B X bR bC wb wo) (hb : Below w.heap.size w w') (hX : ∀ b, b < w.heap.size → ¬ X b → ¬ X' b) : Core w' B X' bR bC wb wo := by
  obtain ⟨h1, h2⟩ := below_mem hb
  have hf : ∀ b o, b < w.heap.size → w'.frozen? ⟨b, o, none⟩ = w.frozen? ⟨b, o, none⟩ := (bcell hb).2
  refine ⟨⟨h.rB.1, h1 _ h.rB.2.1, hX _ h.rB.2.1 h.rB.2.2⟩, ⟨h.cB.1, h1 _ h.cB.2.1, hX _ h.cB.2.1 h.cB.2.2⟩, h.ne, fun i hi => ?_, h.inj, fun o => (hf _ o h.rB.2.1).trans (h.rf o), fun o => (hf _ o h.cB.2.1).trans (h.cf o), fun i o hi => (hf _ o (h.wB i hi).2.1).trans (h.wf i o hi), fun i r hr => ?_, fun i c hc => ?_, h.rl, h.cl, h.ck⟩
  · obtain ⟨a, b, c, d⟩ := h.wB i hi
    exact ⟨a, h1 _ b, hX _ b c, d⟩
  · exact (h.rows i r hr).mono (fun b hb => ⟨h1 _ hb.1, hX _ hb.1 hb.2.1, hb.2.2⟩) (fun b k hb => h2 b k hb.1) (fun k _ _ => h2 _ k h.rB.2.1)
  · have hi := (List.getElem?_eq_some_iff.1 hc).1
    exact (h.cls i c hc).mono (fun b hb => hb) (fun b k hb => h2 b k (by rw [hb]; exact (h.wB i hi).2.1)) (fun k _ _ => h2 _ k h.cB.2.1)
/-- An owned world is one that comes to a function. -/
theorem Core.in_ (h : Core w B X bR bC wb wo) {rc cc : Nat} (hr : wo.rows.length ≤ rc) (hc : wo.cls.length ≤ cc) : WoIn w (some ⟨bR, 0, none⟩) wo.rows.length rc (some ⟨bC, 0, none⟩) wo.cls.length cc wo :=
  ⟨rfl, hr, SeqAt.block h.rl h.rB.2.1 fun i r hr => (h.rows i r hr).mono (fun _ hb => hb.1) (fun _ _ _ => rfl) (fun _ _ _ => rfl), rfl, hc,
    SeqAt.block h.cl h.cB.2.1 fun i c hc => (h.cls i c hc).mono (fun _ hb => by rw [hb]; exact (h.wB i (List.getElem?_eq_some_iff.1 hc).1).2.1) (fun _ _ _ => rfl) (fun _ _ _ => rfl), h.ck⟩
/-- The clock is another. -/
theorem Core.tick (h : Core w B X bR bC wb wo) {S : Addr → Prop} (hs : Same w w' S) (hS : ∀ p, S p → X p.block) (k : Int) (hk : i64 k) : Core w' B X bR bC wb { wo with clock := k } := by
  have hc : ∀ b o, ¬ X b → w'.cell? ⟨b, o, none⟩ = w.cell? ⟨b, o, none⟩ := fun b o hb => hs.cell _ fun e => hb (hS _ e)
  refine ⟨⟨h.rB.1, by rw [hs.sz]; exact h.rB.2.1, h.rB.2.2⟩, ⟨h.cB.1, by rw [hs.sz]; exact h.cB.2.1, h.cB.2.2⟩, h.ne, fun i hi => by rw [hs.sz]; exact h.wB i hi, h.inj, fun o => (hs.fr _).trans (h.rf o), fun o => (hs.fr _).trans (h.cf o), fun i o hi => (hs.fr _).trans (h.wf i o hi), fun i r hr => ?_, fun i c hc' => ?_, h.rl, h.cl, hk⟩
  · rw [hs.sz]
    exact (h.rows i r hr).mono (fun b hb => hb) (fun b k hb => hc b k hb.2.1) (fun k _ _ => hc _ k h.rB.2.2)
  · have hi := (List.getElem?_eq_some_iff.1 hc').1
    exact (h.cls i c hc').mono (fun b hb => hb) (fun b k hb => hc b k (by rw [hb]; exact (h.wB i hi).2.2.1)) (fun k _ _ => hc _ k h.cB.2.2)
/-- One client is another; its writes lie where they lay, or there are none. -/
theorem Core.client (h : Core w B X bR bC wb wo) {C : Nat} {c : ClM} (hC : C < wo.cls.length) (hs : Same w w' (five bC (C * 5))) (hc : ClAt w' (· = wb C) bC (C * 5) c) : Core w' B X bR bC wb { wo with cls := wo.cls.set C c } := by
  have hb : ∀ b o, b ≠ bC → w'.cell? ⟨b, o, none⟩ = w.cell? ⟨b, o, none⟩ := fun b o hb => hs.cell _ fun e => hb e.1
  refine ⟨⟨h.rB.1, by rw [hs.sz]; exact h.rB.2.1, h.rB.2.2⟩, ⟨h.cB.1, by rw [hs.sz]; exact h.cB.2.1, h.cB.2.2⟩, h.ne, fun i hi => by rw [hs.sz]; exact h.wB i (by simpa using hi), fun i j hi hj => h.inj i j (by simpa using hi) (by simpa using hj), fun o => (hs.fr _).trans (h.rf o), fun o => (hs.fr _).trans (h.cf o), fun i o hi => (hs.fr _).trans (h.wf i o (by simpa using hi)), fun i r hr => ?_, fun i x hx => ?_, h.rl, by simpa using h.cl, h.ck⟩
  · rw [hs.sz, List.length_set]
    exact (h.rows i r hr).mono (fun b hb => hb) (fun b k hp => hb b k hp.2.2.2.1) (fun k _ _ => hb _ k h.ne)
  · rw [List.getElem?_set] at hx
    by_cases e : C = i
    · subst e
      rw [if_pos rfl, if_pos hC] at hx
      injection hx with hx
      subst hx
      exact hc
    · rw [if_neg e] at hx
      have hi := (List.getElem?_eq_some_iff.1 hx).1
      exact (h.cls i x hx).mono (fun b hb => hb) (fun b k hp => hb b k (by rw [hp]; exact (h.wB i hi).2.2.2.2)) (fun k h1 h2 => hs.cell _ fun e' => by
        have h3 : C * 5 ≤ k := e'.2.1
        have h4 : k < C * 5 + 5 := e'.2.2
        omega)
/-- One client has other writes, in a block of their own; its cells and those of that block may have turned. -/
theorem Core.writes (h : Core w B X bR bC wb wo) {C g : Nat} {c : ClM} (hC : C < wo.cls.length) (hk : ∀ b o, b < w.heap.size → b ≠ bC → b ≠ wb C → w'.cell? ⟨b, o, none⟩ = w.cell? ⟨b, o, none⟩) (hk' : ∀ o, ¬ (C * 5 ≤ o ∧ o < C * 5 + 5) → w'.cell? ⟨bC, o, none⟩ = w.cell? ⟨bC, o, none⟩)
    (hfr : ∀ b o, b < w.heap.size → w'.frozen? ⟨b, o, none⟩ = w.frozen? ⟨b, o, none⟩) (hsz : w.heap.size ≤ w'.heap.size) (hX : ∀ b, X b → b < w.heap.size) (hg : g = wb C ∨ w.heap.size ≤ g) (hg' : g < w'.heap.size) (hgf : ∀ o, w'.frozen? ⟨g, o, none⟩ = false) (hBg : B ≤ w.heap.size) (hc : ClAt w' (· = g) bC (C * 5) c) :
    Core w' B X bR bC (fun i => if i = C then g else wb i) { wo with cls := wo.cls.set C c } := by
  have old : ∀ i, i < wo.cls.length → i ≠ C → wb i < w.heap.size ∧ wb i ≠ bC ∧ wb i ≠ wb C := fun i hi e => ⟨(h.wB i hi).2.1, (h.wB i hi).2.2.2.2, fun e' => e (h.inj i C hi hC e')⟩
  have gX : ¬ X g := by
    rcases hg with rfl | hg
    · exact (h.wB C hC).2.2.1
    · intro e; have := hX g e; omega
  have gR : g ≠ bR ∧ g ≠ bC := by
    rcases hg with rfl | hg
    · exact ⟨(h.wB C hC).2.2.2.1, (h.wB C hC).2.2.2.2⟩
    · have := h.rB.2.1; have := h.cB.2.1; omega
  refine ⟨⟨h.rB.1, Nat.lt_of_lt_of_le h.rB.2.1 hsz, h.rB.2.2⟩, ⟨h.cB.1, Nat.lt_of_lt_of_le h.cB.2.1 hsz, h.cB.2.2⟩, h.ne, fun i hi => ?_, fun i j hi hj => ?_, fun o => (hfr _ o h.rB.2.1).trans (h.rf o), fun o => (hfr _ o h.cB.2.1).trans (h.cf o), fun i o hi => ?_, fun i r hr => ?_, fun i x hx => ?_, h.rl, by simpa using h.cl, h.ck⟩
  · have hi' : i < wo.cls.length := by simpa using hi
    by_cases e : i = C
    · simp only [e, if_true]
      refine ⟨?_, hg', gX, gR⟩
      rcases hg with rfl | hg
      · exact (h.wB C hC).1
      · omega
    · simp only [e, if_false]
      obtain ⟨a, b, c, d⟩ := h.wB i hi'
      exact ⟨a, Nat.lt_of_lt_of_le b hsz, c, d⟩
  · have hi' : i < wo.cls.length := by simpa using hi
    have hj' : j < wo.cls.length := by simpa using hj
    by_cases e : i = C <;> by_cases e' : j = C
    · intro _; rw [e, e']
    · simp only [e, e', if_true, if_false]
      intro h'
      obtain ⟨o1, _, o3⟩ := old j hj' e'
      rcases hg with rfl | hg
      · exact absurd h'.symm o3
      · omega
    · simp only [e, e', if_true, if_false]
      intro h'
      obtain ⟨o1, _, o3⟩ := old i hi' e
      rcases hg with rfl | hg
      · exact absurd h' o3
      · omega
    · simp only [e, e', if_false]
      exact h.inj i j hi' hj'
  · have hi' : i < wo.cls.length := by simpa using hi
    by_cases e : i = C
    · simp only [e, if_true]; exact hgf o
    · simp only [e, if_false]; exact (hfr _ o (h.wB i hi').2.1).trans (h.wf i o hi')
  · rw [List.length_set]
    refine (h.rows i r hr).mono (fun b hb => ⟨Nat.lt_of_lt_of_le hb.1 hsz, hb.2.1, hb.2.2.1, hb.2.2.2.1, fun j hj => ?_⟩) (fun b k hp => hk b k hp.1 hp.2.2.2.1 (hp.2.2.2.2 C hC)) (fun k _ _ => hk _ k h.rB.2.1 h.ne (fun e => (h.wB C hC).2.2.2.1 e.symm))
    by_cases e : j = C
    · simp only [e, if_true]
      rcases hg with rfl | hg
      · exact hb.2.2.2.2 C hC
      · have := hb.1; omega
    · simp only [e, if_false]; exact hb.2.2.2.2 j hj
  · rw [List.getElem?_set] at hx
    by_cases e : C = i
    · subst e
      rw [if_pos rfl, if_pos hC] at hx
      injection hx with hx
      subst hx
      simpa using hc
    · rw [if_neg e] at hx
      have hi := (List.getElem?_eq_some_iff.1 hx).1
      obtain ⟨o1, o2, o3⟩ := old i hi (fun e' => e e'.symm)
      have e' : ¬ i = C := fun e' => e e'.symm
      simp only [e', if_false]
      exact (h.cls i x hx).mono (fun b hb => hb) (fun b k hp => hk b k (by rw [hp]; exact o1) (by rw [hp]; exact o2) (by rw [hp]; exact o3)) (fun k h1 h2 => hk' _ fun e'' => by omega)
/-- One row is another; its records lie in new memory. -/
theorem Core.row (h : Core w B X bR bC wb wo) {i : Nat} {r : RowM} (hi : i < wo.rows.length) (hs : Same w w' (five bR (i * 5))) (hr : RowAt w' (OwnP w.heap.size X bR bC wb wo.cls.length) bR (i * 5) r) : Core w' B X bR bC wb { wo with rows := wo.rows.set i r } := by
  have hb : ∀ b o, b ≠ bR → w'.cell? ⟨b, o, none⟩ = w.cell? ⟨b, o, none⟩ := fun b o hb => hs.cell _ fun e => hb e.1
  refine ⟨⟨h.rB.1, by rw [hs.sz]; exact h.rB.2.1, h.rB.2.2⟩, ⟨h.cB.1, by rw [hs.sz]; exact h.cB.2.1, h.cB.2.2⟩, h.ne, fun j hj => by rw [hs.sz]; exact h.wB j hj, h.inj, fun o => (hs.fr _).trans (h.rf o), fun o => (hs.fr _).trans (h.cf o), fun j o hj => (hs.fr _).trans (h.wf j o hj), fun j x hx => ?_, fun j c hc => ?_, by simpa using h.rl, h.cl, h.ck⟩
  · rw [hs.sz]
    rw [List.getElem?_set] at hx
    by_cases e : i = j
    · subst e
      rw [if_pos rfl, if_pos hi] at hx
      injection hx with hx
      subst hx
      exact hr
    · rw [if_neg e] at hx
      exact (h.rows j x hx).mono (fun b hb => hb) (fun b k hp => hb b k hp.2.2.1) (fun k h1 h2 => hs.cell _ fun e' => by
        have h3 : i * 5 ≤ k := e'.2.1
        have h4 : k < i * 5 + 5 := e'.2.2
        omega)
  · have hj := (List.getElem?_eq_some_iff.1 hc).1
    exact (h.cls j c hc).mono (fun b hb => hb) (fun b k hp => hb b k (by rw [hp]; exact (h.wB j hj).2.2.2.1)) (fun k _ _ => hb _ k (fun e => h.ne e.symm))
end

/-- An owned world in its box: block bx; t: its rows fill their block. -/
structure Own (w : World) (t : Bool) (B bx bC : Nat) (wo : WoM) : Prop where
  xB : B ≤ bx ∧ bx < w.heap.size
  xf : ∀ o, w.frozen? ⟨bx, o, none⟩ = false
  x1 : w.cell? ⟨bx, 1, none⟩ = some (.int .i64 wo.clock)
  x2 : w.cell? ⟨bx, 2, none⟩ = some (.slice (some ⟨bC, 0, none⟩) wo.cls.length wo.cls.length)
  core : ∃ bR rc wb, w.cell? ⟨bx, 0, none⟩ = some (.slice (some ⟨bR, 0, none⟩) wo.rows.length rc) ∧ wo.rows.length ≤ rc ∧ (t = true → rc = wo.rows.length) ∧ Core w B (· = bx) bR bC wb wo
theorem Own.upto {w w' : World} {t : Bool} {B bx bC : Nat} {wo : WoM} (h : Own w t B bx bC wo) (hb : Below w.heap.size w w') : Own w' t B bx bC wo := by
  obtain ⟨bR, rc, wb, c0, hrc, ht, hco⟩ := h.core
  obtain ⟨h1, h2⟩ := below_mem hb
  exact ⟨⟨h.xB.1, h1 _ h.xB.2⟩, fun o => ((bcell hb).2 _ o h.xB.2).trans (h.xf o), (h2 _ _ h.xB.2).trans h.x1, (h2 _ _ h.xB.2).trans h.x2, bR, rc, wb, (h2 _ _ h.xB.2).trans c0, hrc, ht, hco.upto hb fun _ _ h => h⟩
end Go.Proofs.Ytambkjnhfejfaaa
