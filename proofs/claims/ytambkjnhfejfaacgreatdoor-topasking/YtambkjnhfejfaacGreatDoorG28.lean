/-
  Contracts of functions of the program and words for memory, several texts in one: TDo, TRunMem, KActs, KDeed, KRaw, KRowPure. Conditions: those stated with each.
-/
import Derived.Test.YtambkjnhfejfaacGreatDoorG00
import Derived.Test.YtambkjnhfejfaacGreatDoorG01
import Derived.Test.YtambkjnhfejfaacGreatDoorG02
import Derived.Test.YtambkjnhfejfaacGreatDoorG03
import Derived.Test.YtambkjnhfejfaacGreatDoorG13
import Derived.Test.YtambkjnhfejfaacGreatDoorG22
import Derived.Test.YtambkjnhfejfaacGreatDoorG27
import Derived.Deep.DeepCutAuto
namespace Go.Proofs.YtambkjnhfejfaacGreatDoor
open Go.RowKit

theorem lock_len (wo : WoM) (C : Nat) (c : ClM) : (lockW wo C c).1.cls.length = wo.cls.length := by
  unfold lockW; dsimp only; split
  · simp
  · split <;> simp [WoM.setC, failW]
theorem commit_len (wo : WoM) (C : Nat) (c : ClM) : (commitW wo C c).1.cls.length = wo.cls.length := by
  unfold commitW; dsimp only; split
  · simp [failW]
  · split <;> simp
theorem step_len (wo : WoM) (C : Nat) (c : ClM) : (stepW wo C c).1.cls.length = wo.cls.length := by
  unfold stepW; split
  · split
    · simp [WoM.setC]
    · exact lock_len _ _ _
  · split
    · split
      · simp [sealW]
      · exact lock_len _ _ _
    · split
      · exact commit_len _ _ _
      · rfl
theorem resolve_len (wo : WoM) (key : ByteArray) : (resolveW wo key).1.cls.length = wo.cls.length := by
  unfold resolveW; dsimp only
  repeat' split
  all_goals rfl
theorem perform_len (wo : WoM) (a : ActM) : (performW wo a).1.cls.length = wo.cls.length := by
  unfold performW; dsimp only
  split
  · unfold beginW; split <;> simp
  · split
    · rfl
    · split
      · simp [WoM.setC]
      · split
        · exact step_len _ _ _
        · split
          · unfold dropW; split <;> simp [WoM.setC]
          · exact resolve_len _ _

/-- What txn.Do returns. -/
def DoOut (wo : WoM) (a : ActM) (w : World) (e : Ending) (w' : World) : Prop :=
  Below w.heap.size w w' ∧ ((actE wo a ≠ 0 ∧ e = .returned (.tuple #[woV none 0 0 0 none 0 0, ansV (ansCode 0), .int .i64 (actE wo a)])) ∨
    (actE wo a = 0 ∧ ∃ bR rc bC wb, e = .returned (.tuple #[woV (some ⟨bR, 0, none⟩) (doW wo a).1.rows.length rc (doW wo a).1.clock (some ⟨bC, 0, none⟩) (doW wo a).1.cls.length (doW wo a).1.cls.length, ansV (doW wo a).2, .int .i64 0]) ∧ (doW wo a).1.rows.length ≤ rc ∧ Core w' w.heap.size (fun b => b < w.heap.size) bR bC wb (doW wo a).1))

theorem set3_at {W : World} {g : Nat} {u0 u1 u2 : Value} (h0 : W.cell? ⟨g, 0, none⟩ = some u0) (h1 : W.cell? ⟨g, 1, none⟩ = some u1) (h2 : W.cell? ⟨g, 2, none⟩ = some u2) (v0 v1 v2 : Value) :
    (set3 W g v0 v1 v2).cell? ⟨g, 0, none⟩ = some v0 ∧ (set3 W g v0 v1 v2).cell? ⟨g, 1, none⟩ = some v1 ∧ (set3 W g v0 v1 v2).cell? ⟨g, 2, none⟩ = some v2 := by
  have n01 := cell_ne g 0 1 (by decide)
  have n02 := cell_ne g 0 2 (by decide)
  have n10 := cell_ne g 1 0 (by decide)
  have n12 := cell_ne g 1 2 (by decide)
  have n20 := cell_ne g 2 0 (by decide)
  have n21 := cell_ne g 2 1 (by decide)
  unfold set3
  refine ⟨?_, ?_, ?_⟩
  · rw [World.cell?_setCell_other _ _ _ _ n20, World.cell?_setCell_other _ _ _ _ n10]
    exact World.cell?_setCell_same _ _ _ h0
  · rw [World.cell?_setCell_other _ _ _ _ n21]
    exact World.cell?_setCell_same _ _ _ (u := u1) (by rw [World.cell?_setCell_other _ _ _ _ n01]; exact h1)
  · exact World.cell?_setCell_same _ _ _ (u := u2) (by rw [World.cell?_setCell_other _ _ _ _ n12, World.cell?_setCell_other _ _ _ _ n02]; exact h2)
/-- A world and an answer are stored, each in a box of its own. -/
theorem two_stores {W : World} {g g' : Nat} (hne : g ≠ g') {u0 u1 u2 t0 t1 t2 t3 t4 : Value} (h0 : W.cell? ⟨g, 0, none⟩ = some u0) (h1 : W.cell? ⟨g, 1, none⟩ = some u1) (h2 : W.cell? ⟨g, 2, none⟩ = some u2) (k0 : W.cell? ⟨g', 0, none⟩ = some t0) (k1 : W.cell? ⟨g', 1, none⟩ = some t1) (k2 : W.cell? ⟨g', 2, none⟩ = some t2) (k3 : W.cell? ⟨g', 3, none⟩ = some t3) (k4 : W.cell? ⟨g', 4, none⟩ = some t4) (v0 v1 v2 a0 a1 a2 a3 a4 : Value) :
    ∃ V, V = (((((((W.setCell ⟨g, 0, none⟩ v0).setCell ⟨g, 1, none⟩ v1).setCell ⟨g, 2, none⟩ v2).setCell ⟨g', 0, none⟩ a0).setCell ⟨g', 1, none⟩ a1).setCell ⟨g', 2, none⟩ a2).setCell ⟨g', 3, none⟩ a3).setCell ⟨g', 4, none⟩ a4 ∧ (V.cell? ⟨g, 0, none⟩ = some v0 ∧ V.cell? ⟨g, 1, none⟩ = some v1 ∧ V.cell? ⟨g, 2, none⟩ = some v2) ∧ (V.cell? ⟨g', 0, none⟩ = some a0 ∧ V.cell? ⟨g', 1, none⟩ = some a1 ∧ V.cell? ⟨g', 2, none⟩ = some a2 ∧ V.cell? ⟨g', 3, none⟩ = some a3 ∧ V.cell? ⟨g', 4, none⟩ = some a4) ∧ Same W V (fun p => p.block = g ∨ p.block = g') := by
  have hs3 := set3_same W g v0 v1 v2
  have hk : ∀ o, (set3 W g v0 v1 v2).cell? ⟨g', o, none⟩ = W.cell? ⟨g', o, none⟩ := fun o => hs3.cell _ fun e => hne e.symm
  have hs5 := set5_same (set3 W g v0 v1 v2) g' 0 a0 a1 a2 a3 a4
  obtain ⟨b0, b1, b2⟩ := set3_at h0 h1 h2 v0 v1 v2
  have hq : ∀ o, (set5 (set3 W g v0 v1 v2) g' 0 a0 a1 a2 a3 a4).cell? ⟨g, o, none⟩ = (set3 W g v0 v1 v2).cell? ⟨g, o, none⟩ := fun o => hs5.cell _ fun e => hne e.1
  obtain ⟨c0, c1, c2, c3, c4⟩ := set5_at (W := set3 W g v0 v1 v2) (g := g') (o := 0) ((hk 0).trans k0) ((hk 1).trans k1) ((hk 2).trans k2) ((hk 3).trans k3) ((hk 4).trans k4) a0 a1 a2 a3 a4
  exact ⟨_, rfl, ⟨(hq 0).trans b0, (hq 1).trans b1, (hq 2).trans b2⟩, ⟨c0, c1, c2, c3, c4⟩, (hs3.mono fun p e => .inl e).trans (hs5.mono fun p e => .inr e.1)⟩
/-- The four boxes that txn.Do makes first. -/
theorem do_boxes (w : World) (v0 v1 v2 : Value) (a0 a1 : Int) (a2 a3 : ByteArray) : ∃ W0, W0 = (((w.alloc (.cells #[v0, v1, v2] 29)).alloc (.cells #[.int .i64 a0, .int .i64 a1, .string a2, .string a3] 35)).alloc (.cells #[.slice none 0 0, .int .i64 0, .slice none 0 0] 29)).alloc (.cells #[.int .i64 0, .bool false, .string ⟨#[]⟩, .int .i64 0, .int .i64 0] 55) ∧
    Below w.heap.size w W0 ∧ W0.heap.size = w.heap.size + 4 ∧
    (W0.cell? ⟨w.heap.size, 0, none⟩ = some v0 ∧ W0.cell? ⟨w.heap.size, 1, none⟩ = some v1 ∧ W0.cell? ⟨w.heap.size, 2, none⟩ = some v2) ∧
    (W0.cell? ⟨w.heap.size + 1, 0, none⟩ = some (.int .i64 a0) ∧ W0.cell? ⟨w.heap.size + 1, 1, none⟩ = some (.int .i64 a1) ∧ W0.cell? ⟨w.heap.size + 1, 2, none⟩ = some (.string a2) ∧ W0.cell? ⟨w.heap.size + 1, 3, none⟩ = some (.string a3)) ∧
    (W0.cell? ⟨w.heap.size + 1 + 1, 0, none⟩ = some (.slice none 0 0) ∧ W0.cell? ⟨w.heap.size + 1 + 1, 1, none⟩ = some (.int .i64 0) ∧ W0.cell? ⟨w.heap.size + 1 + 1, 2, none⟩ = some (.slice none 0 0)) ∧
    (W0.cell? ⟨w.heap.size + 1 + 1 + 1, 0, none⟩ = some (.int .i64 0) ∧ W0.cell? ⟨w.heap.size + 1 + 1 + 1, 1, none⟩ = some (.bool false) ∧ W0.cell? ⟨w.heap.size + 1 + 1 + 1, 2, none⟩ = some (.string ⟨#[]⟩) ∧ W0.cell? ⟨w.heap.size + 1 + 1 + 1, 3, none⟩ = some (.int .i64 0) ∧ W0.cell? ⟨w.heap.size + 1 + 1 + 1, 4, none⟩ = some (.int .i64 0)) ∧
    (∀ o, W0.frozen? ⟨w.heap.size + 1 + 1, o, none⟩ = false) ∧ (∀ o, W0.frozen? ⟨w.heap.size + 1 + 1 + 1, o, none⟩ = false) := by
  obtain ⟨W0, hW⟩ : ∃ W0, W0 = (((w.alloc (.cells #[v0, v1, v2] 29)).alloc (.cells #[.int .i64 a0, .int .i64 a1, .string a2, .string a3] 35)).alloc (.cells #[.slice none 0 0, .int .i64 0, .slice none 0 0] 29)).alloc (.cells #[.int .i64 0, .bool false, .string ⟨#[]⟩, .int .i64 0, .int .i64 0] 55) := ⟨_, rfl⟩
  obtain ⟨h1, h2, h3⟩ := three_blocks w (.cells #[v0, v1, v2] 29) (.cells #[.int .i64 a0, .int .i64 a1, .string a2, .string a3] 35) (.cells #[.slice none 0 0, .int .i64 0, .slice none 0 0] 29)
  have s3 : (((w.alloc (.cells #[v0, v1, v2] 29)).alloc (.cells #[.int .i64 a0, .int .i64 a1, .string a2, .string a3] 35)).alloc (.cells #[.slice none 0 0, .int .i64 0, .slice none 0 0] 29)).heap.size = w.heap.size + 3 := by simp
  have h4 := heap_alloc_new (((w.alloc (.cells #[v0, v1, v2] 29)).alloc (.cells #[.int .i64 a0, .int .i64 a1, .string a2, .string a3] 35)).alloc (.cells #[.slice none 0 0, .int .i64 0, .slice none 0 0] 29)) (.cells #[.int .i64 0, .bool false, .string ⟨#[]⟩, .int .i64 0, .int .i64 0] 55)
  rw [s3] at h4
  have b1 := (Below.heap_alloc _ (.cells #[.int .i64 0, .bool false, .string ⟨#[]⟩, .int .i64 0, .int .i64 0] 55) _ (by rw [s3]; omega)).trans h1
  have b2 := (Below.heap_alloc _ (.cells #[.int .i64 0, .bool false, .string ⟨#[]⟩, .int .i64 0, .int .i64 0] 55) _ (by rw [s3]; omega)).trans h2
  have b3 := (Below.heap_alloc _ (.cells #[.int .i64 0, .bool false, .string ⟨#[]⟩, .int .i64 0, .int .i64 0] 55) _ (by rw [s3]; omega)).trans h3
  have hs : W0.heap.size = w.heap.size + 4 := by
    have := World.size_alloc (((w.alloc (.cells #[v0, v1, v2] 29)).alloc (.cells #[.int .i64 a0, .int .i64 a1, .string a2, .string a3] 35)).alloc (.cells #[.slice none 0 0, .int .i64 0, .slice none 0 0] 29)) (.cells #[.int .i64 0, .bool false, .string ⟨#[]⟩, .int .i64 0, .int .i64 0] 55)
    rw [hW, this, s3]
  have hb : Below w.heap.size w W0 := by rw [hW]; exact below_alloc (below_alloc (below_alloc (below_alloc (Below.refl _ _) _) _) _) _
  rw [← hW] at b1 b2 b3 h4
  refine ⟨W0, hW, hb, hs, ⟨?_, ?_, ?_⟩, ⟨?_, ?_, ?_, ?_⟩, ⟨?_, ?_, ?_⟩, ⟨?_, ?_, ?_, ?_, ?_⟩, fun o => Joins.unfrozen_of_block b3 _, fun o => Joins.unfrozen_of_block h4 _⟩
  · rw [Joins.cell_of_block b1]; rfl
  · rw [Joins.cell_of_block b1]; rfl
  · rw [Joins.cell_of_block b1]; rfl
  · rw [Joins.cell_of_block b2]; rfl
  · rw [Joins.cell_of_block b2]; rfl
  · rw [Joins.cell_of_block b2]; rfl
  · rw [Joins.cell_of_block b2]; rfl
  · rw [Joins.cell_of_block b3]; rfl
  · rw [Joins.cell_of_block b3]; rfl
  · rw [Joins.cell_of_block b3]; rfl
  · rw [Joins.cell_of_block h4]; rfl
  · rw [Joins.cell_of_block h4]; rfl
  · rw [Joins.cell_of_block h4]; rfl
  · rw [Joins.cell_of_block h4]; rfl
  · rw [Joins.cell_of_block h4]; rfl

set_option maxRecDepth 100000 in
set_option maxHeartbeats 4000000 in
theorem do_err (wo : WoM) (a : ActM) (RA : Option Addr) (n rc : Nat) (CA : Option Addr) (m cc : Nat) (w : World) (hin : WoIn w RA n rc CA m cc wo) (he : actE wo a ≠ 0) :
    Calls Tryz.prog 16 #[woV RA n rc wo.clock CA m cc, actV a] w (DoOut wo a w) := by
  obtain ⟨W0, hW, hb0, hs0, ⟨u0, u1, u2⟩, ⟨v0, v1, v2, v3⟩, ⟨p0, p1, p2⟩, ⟨z0, z1, z2, z3, z4⟩, pf, zf⟩ := do_boxes w (.slice RA n rc) (.int .i64 wo.clock) (.slice CA m cc) a.kind a.c a.key a.val
  have HAE := Lib.hid (actError_any wo a RA n rc CA m cc W0 (hin.upto hb0))
  obtain ⟨E, hE⟩ : ∃ E, E = actE wo a := ⟨_, rfl⟩
  rw [← hE] at HAE
  have q0 : (E != 0) = true := by rw [hE]; simpa using he
  have HE := Lib.hid hE
  have HW := Lib.hid hW
  have HB0 := Lib.hid hb0
  have HPF := Lib.hid pf
  have HZF := Lib.hid zf
  have HN := Lib.hid he
  clear hW hb0 hin he hE pf zf
  obtain ⟨kind, ac, key, val⟩ := a
  dsimp only at u0 u1 u2 v0 v1 v2 v3
  go_enter Tryz.func16, Tryz.ntmps16
  go_wp2_with fail
  rw [← HW.out]
  refine HAE.out.mono ?_
  rintro e w1 ⟨rfl, hb1⟩
  obtain ⟨hc1, hf1⟩ := bcell hb1
  have l2 : w.heap.size + 1 + 1 < W0.heap.size := by omega
  have l3 : w.heap.size + 1 + 1 + 1 < W0.heap.size := by omega
  have r0 := (hc1 _ 0 l2).trans p0
  have r1 := (hc1 _ 1 l2).trans p1
  have r2 := (hc1 _ 2 l2).trans p2
  have s0 := (hc1 _ 0 l3).trans z0
  have s1 := (hc1 _ 1 l3).trans z1
  have s2 := (hc1 _ 2 l3).trans z2
  have s3 := (hc1 _ 3 l3).trans z3
  have s4 := (hc1 _ 4 l3).trans z4
  have f0 := (hf1 _ 0 l2).trans (HPF.out 0)
  have f1 := (hf1 _ 1 l2).trans (HPF.out 1)
  have f2 := (hf1 _ 2 l2).trans (HPF.out 2)
  have g0 := (hf1 _ 0 l3).trans (HZF.out 0)
  have g1 := (hf1 _ 1 l3).trans (HZF.out 1)
  have g2 := (hf1 _ 2 l3).trans (HZF.out 2)
  have g3 := (hf1 _ 3 l3).trans (HZF.out 3)
  have g4 := (hf1 _ 4 l3).trans (HZF.out 4)
  have HB1 := Lib.hid (below_next HB0.out hb1)
  clear hb1 hc1 hf1 l2 l3
  go_wp2
  obtain ⟨V, hV, ⟨m0, m1, m2⟩, ⟨n0, n1, n2, n3, n4⟩, _⟩ := two_stores (W := w1) (g := w.heap.size + 1 + 1) (g' := w.heap.size + 1 + 1 + 1) (by omega) r0 r1 r2 s0 s1 s2 s3 s4 (.slice none 0 0) (.int .i64 0) (.slice none 0 0) (.int .i64 0) (.bool false) (.string ⟨#[]⟩) (.int .i64 0) (.int .i64 0)
  have hVb : Below w.heap.size w V := by
    rw [hV]
    exact below_set5 (((HB1.out.setCell (by show w.heap.size ≤ w.heap.size + 1 + 1; omega) _).setCell (by show w.heap.size ≤ w.heap.size + 1 + 1; omega) _).setCell (by show w.heap.size ≤ w.heap.size + 1 + 1; omega) _) (by omega) _ _ _ _ _ _
  rw [← hV]
  clear hV
  exact bodyPost_ret (v := .tuple #[woV none 0 0 0 none 0 0, ansV (ansCode 0), .int .i64 E]) (by simp [results, Tryz.results16, go_sem, m0, m1, m2, n0, n1, n2, n3, n4, ansCode]) rfl ⟨hVb, .inl ⟨HN.out, by rw [HE.out]⟩⟩
theorem act_zero {wo : WoM} {a : ActM} (h : actE wo a = 0) : wo.ok = true ∧ 1 ≤ a.kind ∧ a.kind ≤ 6 ∧ 0 ≤ a.c ∧ a.c < wo.cls.length := by
  unfold actE at h
  split at h
  · omega
  · split at h
    · omega
    · split at h
      · omega
      · rename_i h1 h2 h3
        exact ⟨by simpa using h1, by omega, by omega, by omega, by omega⟩
/-- A copied world in its box. -/
theorem own_new {w2 : World} {B bR bC : Nat} {wb : Nat → Nat} {wo : WoM} (hB : B ≤ w2.heap.size) (hco : Core w2 B (fun b => b < B) bR bC wb wo) : ∃ W, W = w2.alloc (.cells #[.slice (some ⟨bR, 0, none⟩) wo.rows.length wo.rows.length, .int .i64 wo.clock, .slice (some ⟨bC, 0, none⟩) wo.cls.length wo.cls.length] 29) ∧ Own W true (fun b => b < B) B w2.heap.size bC wo ∧ Below w2.heap.size w2 W ∧ W.heap.size = w2.heap.size + 1 := by
  have hb : Below w2.heap.size w2 (w2.alloc (.cells #[.slice (some ⟨bR, 0, none⟩) wo.rows.length wo.rows.length, .int .i64 wo.clock, .slice (some ⟨bC, 0, none⟩) wo.cls.length wo.cls.length] 29)) := below_alloc (Below.refl _ _) _
  refine ⟨_, rfl, ⟨⟨hB, by simp⟩, by show ¬ w2.heap.size < B; omega, fun b e => ?_, fun o => by simp, by simp, by simp, bR, wo.rows.length, wb, by simp, Nat.le_refl _, fun _ => rfl, hco.upto hb fun b hlt h e => ?_⟩, hb, by simp⟩
  · have : b < B := e
    simp; omega
  · have h : ¬ b < B := h
    rcases e with e | e
    · omega
    · exact h e
theorem Core.base {w : World} {B B' : Nat} {X : Nat → Prop} {bR bC : Nat} {wb : Nat → Nat} {wo : WoM} (h : Core w B X bR bC wb wo) (hB : B' ≤ B) : Core w B' X bR bC wb wo :=
  ⟨⟨by have := h.rB.1; omega, h.rB.2⟩, ⟨by have := h.cB.1; omega, h.cB.2⟩, h.ne, fun i hi => ⟨by have := (h.wB i hi).1; omega, (h.wB i hi).2⟩, h.inj, h.rf, h.cf, h.wf, h.rows, h.cls, h.rl, h.cl, h.ck⟩
set_option maxRecDepth 100000 in
set_option maxHeartbeats 4000000 in
theorem do_ok (wo : WoM) (a : ActM) (RA : Option Addr) (n rc : Nat) (CA : Option Addr) (m cc : Nat) (w : World) (hin : WoIn w RA n rc CA m cc wo) (hks : a.key.size ≤ maxLen) (hvs : a.val.size ≤ maxLen) (he : actE wo a = 0) :
    Calls Tryz.prog 16 #[woV RA n rc wo.clock CA m cc, actV a] w (DoOut wo a w) := by
  obtain ⟨W0, hW, hb0, hs0, ⟨u0, u1, u2⟩, ⟨v0, v1, v2, v3⟩, ⟨p0, p1, p2⟩, ⟨z0, z1, z2, z3, z4⟩, pf, zf⟩ := do_boxes w (.slice RA n rc) (.int .i64 wo.clock) (.slice CA m cc) a.kind a.c a.key a.val
  have HAE := Lib.hid (actError_any wo a RA n rc CA m cc W0 (hin.upto hb0))
  rw [he] at HAE
  obtain ⟨hok, k1, k6, c0, c1⟩ := act_zero he
  obtain ⟨C, hC⟩ : ∃ C : Nat, a.c = C := ⟨a.c.toNat, by omega⟩
  have hClt : C < wo.cls.length := by omega
  have hget : wo.cls[C]? = some (wo.cls.getD C default) := getD_some hClt
  obtain ⟨P, hP⟩ : ∃ P, P = performW wo a := ⟨_, rfl⟩
  have hlen : P.1.cls.length = wo.cls.length := by rw [hP]; exact perform_len _ _
  have HDW := Lib.hid (show doW wo a = (P.1, { P.2 with ph := (P.1.cls.getD C default).ph }) by rw [doW, hP, hC, Int.toNat_natCast])
  have HP := Lib.hid hP
  have HE := Lib.hid he
  have HW := Lib.hid hW
  have HB0 := Lib.hid hb0
  have HPF := Lib.hid pf
  have HZF := Lib.hid zf
  have HI := Lib.hid hin
  have HOK := Lib.hid hok
  have HGET := Lib.hid hget
  have HC := Lib.hid hC
  have l0 : w.heap.size < W0.heap.size := by omega
  have l1 : w.heap.size + 1 < W0.heap.size := by omega
  have l2 : w.heap.size + 1 + 1 < W0.heap.size := by omega
  have l3 : w.heap.size + 1 + 1 + 1 < W0.heap.size := by omega
  clear hW hb0 hin he pf zf hok hget hP hC
  obtain ⟨kind, ac, key, val⟩ := a
  dsimp only at u0 u1 u2 v0 v1 v2 v3 hks hvs k1 k6 c0 c1
  go_enter Tryz.func16, Tryz.ntmps16
  go_wp2_with fail
  rw [← HW.out]
  refine HAE.out.mono ?_
  rintro e w1 ⟨rfl, hb1⟩
  obtain ⟨hc1, hf1⟩ := bcell hb1
  have x0 := (hc1 _ 0 l0).trans u0
  have x1 := (hc1 _ 1 l0).trans u1
  have x2 := (hc1 _ 2 l0).trans u2
  have HB1 := Lib.hid hb1
  have hs1 := hb1.size
  clear hb1 hc1 hf1
  go_wp2_with fail
  refine (copyWo_any wo RA n rc CA m cc w1 (HI.out.upto (below_next HB0.out HB1.out))).mono ?_
  rintro e w2 ⟨bR, bC, wb, rfl, hco, hb2, htight⟩
  obtain ⟨w3, hw3, ho3, hb3, hs3⟩ := own_new hb2.size hco
  have hs2 := hb2.size
  have hb03 : Below W0.heap.size W0 w3 := below_next (below_next HB1.out hb2) hb3
  obtain ⟨hc3, _⟩ := bcell (below_next HB1.out hb2)
  have l12 : w.heap.size + 1 < w2.heap.size := by have := hb2.size; omega
  have y0 := (hc3 _ 0 l1).trans v0
  have y1 := (hc3 _ 1 l1).trans v1
  have y2 := (hc3 _ 2 l1).trans v2
  have y3 := (hc3 _ 3 l1).trans v3
  have hti := htight C _ HGET.out
  have hti3 : w3.cell? ⟨bC, C * 5 + 3, none⟩ = _ := (hb3.cell (p := ⟨bC, C * 5 + 3, none⟩) (World.block_lt_of_cell? w2 _ hti)).trans hti
  have hwb : wb C < w3.heap.size := by have := (hco.wB C hClt).2.1; omega
  have HPE := Lib.hid (perform_any ⟨kind, ac, key, val⟩ ho3 HOK.out HC.out HGET.out hks hvs hti3 hwb k1 k6)
  rw [← HP.out] at HPE
  have HW3 := Lib.hid hw3
  have HO3 := Lib.hid ho3
  have HB03 := Lib.hid hb03
  have hB01 : W0.heap.size ≤ w1.heap.size := hs1
  clear hco hb2 htight hw3 ho3 hb3 hb03 hc3 hti hti3 hwb
  go_wp2_with fail
  rw [← HW3.out]
  refine HPE.out.mono ?_
  rintro e w4 ⟨rfl, ho4, hk4⟩
  obtain ⟨P1, P2⟩ := P
  dsimp only at ho4 hlen HDW
  obtain ⟨a0, a1, a2, a3, a4⟩ := P2
  have hb4 : Below w1.heap.size w3 w4 := hk4.bel
  have hz1 : w1.heap.size ≤ w3.heap.size := by have := HO3.out.base; omega
  have hb04 : Below W0.heap.size W0 w4 := HB03.out.trans (hb4.mono hB01)
  obtain ⟨hc4, hf4⟩ := bcell hb04
  have t1 := (hc4 _ 1 l1).trans v1
  have r0 := (hc4 _ 0 l2).trans p0
  have r1 := (hc4 _ 1 l2).trans p1
  have r2 := (hc4 _ 2 l2).trans p2
  have s0 := (hc4 _ 0 l3).trans z0
  have s1 := (hc4 _ 1 l3).trans z1
  have s2 := (hc4 _ 2 l3).trans z2
  have s3 := (hc4 _ 3 l3).trans z3
  have s4 := (hc4 _ 4 l3).trans z4
  have f0 := (hf4 _ 0 l2).trans (HPF.out 0)
  have f1 := (hf4 _ 1 l2).trans (HPF.out 1)
  have f2 := (hf4 _ 2 l2).trans (HPF.out 2)
  have g0 := (hf4 _ 0 l3).trans (HZF.out 0)
  have g1 := (hf4 _ 1 l3).trans (HZF.out 1)
  have g2 := (hf4 _ 2 l3).trans (HZF.out 2)
  have g3 := (hf4 _ 3 l3).trans (HZF.out 3)
  have g4 := (hf4 _ 4 l3).trans (HZF.out 4)
  have hCl' : C < P1.cls.length := by omega
  obtain ⟨i0, _⟩ := ho4.cl (getD_some (d := default) hCl')
  have o2 := ho4.x2
  have o1 := ho4.x1
  obtain ⟨bR', rc', wb', o0, hrc', _, hco4⟩ := ho4.core
  have hbC4 : bC < w4.heap.size := World.block_lt_of_cell? w4 _ i0
  have hbx4 : w2.heap.size < w4.heap.size := ho4.xB.2
  have m0 : w.heap.size + 1 < w4.heap.size := by have := hb04.size; omega
  have m2 : w.heap.size + 1 + 1 < w4.heap.size := by have := hb04.size; omega
  have m3 : w.heap.size + 1 + 1 + 1 < w4.heap.size := by have := hb04.size; omega
  have j1 : (C : Int) < (P1.cls.length : Int) := by omega
  have j0 : (0 : Int) ≤ (C : Int) := by omega
  have hac : ac = (C : Int) := HC.out
  rw [hac] at t1
  obtain ⟨ph, hph⟩ : ∃ ph, ph = (P1.cls.getD C default).ph := ⟨_, rfl⟩
  rw [← hph] at i0 HDW
  have HCO4 := Lib.hid hco4
  have HB04 := Lib.hid hb04
  have HRC := Lib.hid hrc'
  clear ho4 hk4 hb4 hc4 hf4 hco4 hb04 hph hrc'
  go_wp2
  obtain ⟨W5, hW5⟩ : ∃ W5, W5 = w4.alloc (.cells #[.int .i64 a0, .bool a1, .string a2, .int .i64 ph, .int .i64 a4] 55) := ⟨_, rfl⟩
  have hb5 : Below w4.heap.size w4 W5 := by rw [hW5]; exact below_alloc (Below.refl _ _) _
  have q0 : W5.cell? ⟨w4.heap.size, 0, none⟩ = some (.int .i64 a0) := by rw [hW5]; simp
  have q1 : W5.cell? ⟨w4.heap.size, 1, none⟩ = some (.bool a1) := by rw [hW5]; simp
  have q2 : W5.cell? ⟨w4.heap.size, 2, none⟩ = some (.string a2) := by rw [hW5]; simp
  have q3 : W5.cell? ⟨w4.heap.size, 3, none⟩ = some (.int .i64 ph) := by rw [hW5]; simp
  have q4 : W5.cell? ⟨w4.heap.size, 4, none⟩ = some (.int .i64 a4) := by rw [hW5]; simp
  obtain ⟨hc5, hf5⟩ := bcell hb5
  have o0 := (hc5 _ _ hbx4).trans o0
  have o1 := (hc5 _ _ hbx4).trans o1
  have o2 := (hc5 _ _ hbx4).trans o2
  have r0 := (hc5 _ _ m2).trans r0
  have r1 := (hc5 _ _ m2).trans r1
  have r2 := (hc5 _ _ m2).trans r2
  have s0 := (hc5 _ _ m3).trans s0
  have s1 := (hc5 _ _ m3).trans s1
  have s2 := (hc5 _ _ m3).trans s2
  have s3 := (hc5 _ _ m3).trans s3
  have s4 := (hc5 _ _ m3).trans s4
  have f0 := (hf5 _ _ m2).trans f0
  have f1 := (hf5 _ _ m2).trans f1
  have f2 := (hf5 _ _ m2).trans f2
  have g0 := (hf5 _ _ m3).trans g0
  have g1 := (hf5 _ _ m3).trans g1
  have g2 := (hf5 _ _ m3).trans g2
  have g3 := (hf5 _ _ m3).trans g3
  have g4 := (hf5 _ _ m3).trans g4
  have n1 : w4.heap.size ≠ w.heap.size + 1 + 1 := by omega
  have n2 : w4.heap.size ≠ w.heap.size + 1 + 1 + 1 := by omega
  have n3 : w2.heap.size ≠ w.heap.size + 1 + 1 := by omega
  have n4 : w2.heap.size ≠ w.heap.size + 1 + 1 + 1 := by omega
  have n1' : w.heap.size + 1 + 1 ≠ w4.heap.size := by omega
  have n2' : w.heap.size + 1 + 1 + 1 ≠ w4.heap.size := by omega
  have n3' : w.heap.size + 1 + 1 ≠ w2.heap.size := by omega
  have n4' : w.heap.size + 1 + 1 + 1 ≠ w2.heap.size := by omega
  rw [← hW5]
  have HB5 := Lib.hid hb5
  clear hW5 hb5 hc5 hf5
  go_region
  obtain ⟨V, hV, ⟨m0, m1, m2⟩, ⟨n0, n1, n2, n3, n4⟩, hsV⟩ := two_stores (W := W5) (g := w.heap.size + 1 + 1) (g' := w.heap.size + 1 + 1 + 1) (by omega) r0 r1 r2 s0 s1 s2 s3 s4 (.slice (some ⟨bR', 0, none⟩) P1.rows.length rc') (.int .i64 P1.clock) (.slice (some ⟨bC, 0, none⟩) wo.cls.length wo.cls.length) (.int .i64 a0) (.bool a1) (.string a2) (.int .i64 ph) (.int .i64 a4)
  have hVb : Below w.heap.size w V := by
    have h5 : Below w.heap.size w W5 := below_next HB0.out (HB04.out.trans (HB5.out.mono (by have := HB04.out.size; omega)))
    rw [hV]
    exact below_set5 (((h5.setCell (by show w.heap.size ≤ w.heap.size + 1 + 1; omega) _).setCell (by show w.heap.size ≤ w.heap.size + 1 + 1; omega) _).setCell (by show w.heap.size ≤ w.heap.size + 1 + 1; omega) _) (by omega) _ _ _ _ _ _
  rw [← hV]
  have hX : ∀ p : Addr, (p.block = w.heap.size + 1 + 1 ∨ p.block = w.heap.size + 1 + 1 + 1) → (p.block = w2.heap.size ∨ p.block < w1.heap.size) := fun p e => by rcases e with e | e <;> (right; omega)
  have hcV : Core V w1.heap.size (fun b => b = w2.heap.size ∨ b < w1.heap.size) bR' bC wb' P1 := (HCO4.out.upto HB5.out (fun _ _ h => h)).tick hsV hX P1.clock HCO4.out.ck
  have hcV' : Core V.drew w.heap.size (fun b => b < w.heap.size) bR' bC wb' P1 := (hcV.base (by omega)).upto (below_drew (Below.refl _ _)) fun b _ h e => h (.inr (by have e : b < w.heap.size := e; omega))
  have HCV := Lib.hid hcV'
  have HVB := Lib.hid (below_drew hVb)
  clear hV hcV hcV' hVb hsV hX r0 r1 r2 s0 s1 s2 s3 s4
  go_wp2
  refine bodyPost_ret (v := .tuple #[woV (some ⟨bR', 0, none⟩) P1.rows.length rc' P1.clock (some ⟨bC, 0, none⟩) wo.cls.length wo.cls.length, ansV ⟨a0, a1, a2, ph, a4⟩, .int .i64 0]) (by simp [results, Tryz.results16, go_sem, m0, m1, m2, n0, n1, n2, n3, n4]) rfl ⟨HVB.out, .inr ⟨HE.out, bR', rc', bC, wb', ?_, ?_, ?_⟩⟩
  · rw [HDW.out]
    dsimp only
    rw [hlen]
  · rw [HDW.out]; exact HRC.out
  · rw [HDW.out]; exact HCV.out
theorem do_any (wo : WoM) (a : ActM) (RA : Option Addr) (n rc : Nat) (CA : Option Addr) (m cc : Nat) (w : World) (hin : WoIn w RA n rc CA m cc wo) (hks : a.key.size ≤ maxLen) (hvs : a.val.size ≤ maxLen) :
    Calls Tryz.prog 16 #[woV RA n rc wo.clock CA m cc, actV a] w (DoOut wo a w) := by
  by_cases he : actE wo a = 0
  · exact do_ok wo a RA n rc CA m cc w hin hks hvs he
  · exact do_err wo a RA n rc CA m cc w hin he
end Go.Proofs.YtambkjnhfejfaacGreatDoor

namespace Go.Proofs.YtambkjnhfejfaacGreatDoor
open Go.RowKit

/-- P2.7: one act of a script. -/
def runA (wo : WoM) (a : ActM) : WoM × AnsM := if actE wo a = 0 then doW wo a else (wo, ansCode (actE wo a))
/-- P2.7: the world behind the acts. -/
def runWo : WoM → List ActM → WoM
  | wo, [] => wo
  | wo, a :: l => runWo (runA wo a).1 l
/-- P2.7: the answers. -/
def runAns : WoM → List ActM → List AnsM
  | _, [] => []
  | wo, a :: l => (runA wo a).2 :: runAns (runA wo a).1 l
/-- P2.7: the first world. -/
def startW (n : Nat) : WoM := ⟨[], 0, List.replicate n idleC⟩
theorem runWo_snoc (l : List ActM) (a : ActM) : ∀ wo, runWo wo (l ++ [a]) = (runA (runWo wo l) a).1 := by
  induction l with
  | nil => intro wo; rfl
  | cons b l ih => intro wo; exact ih _
theorem runAns_snoc (l : List ActM) (a : ActM) : ∀ wo, runAns wo (l ++ [a]) = runAns wo l ++ [(runA (runWo wo l) a).2] := by
  induction l with
  | nil => intro wo; rfl
  | cons b l ih => intro wo; simp only [List.cons_append, runAns, runWo, ih]
theorem runAns_length (l : List ActM) : ∀ wo, (runAns wo l).length = l.length := by
  induction l with
  | nil => intro wo; rfl
  | cons b l ih => intro wo; simp [runAns, ih]

/-- The four cells of an act. -/
structure ActAt (w : World) (b o : Nat) (a : ActM) : Prop where
  k : w.cell? ⟨b, o, none⟩ = some (.int .i64 a.kind)
  c : w.cell? ⟨b, o + 1, none⟩ = some (.int .i64 a.c)
  y : w.cell? ⟨b, o + 2, none⟩ = some (.string a.key)
  v : w.cell? ⟨b, o + 3, none⟩ = some (.string a.val)
  ok : a.key.size ≤ maxLen ∧ a.val.size ≤ maxLen
theorem ActAt.keep {w w' : World} {b o : Nat} {x : ActM} (h : ActAt w b o x) (hk : ∀ k, w'.cell? ⟨b, k, none⟩ = w.cell? ⟨b, k, none⟩) : ActAt w' b o x := ⟨(hk _).trans h.k, (hk _).trans h.c, (hk _).trans h.y, (hk _).trans h.v, h.ok⟩
/-- The acts of a script. -/
abbrev ActsAt (w : World) (P : Nat → Prop) (A : Option Addr) (l : List ActM) : Prop := SeqAt P 4 2932031007402 (ActAt w) A l
theorem SeqAt.acts {w w' : World} {P P' : Nat → Prop} {A : Option Addr} {l : List ActM} (h : ActsAt w P A l) (hP : ∀ b, P b → P' b) (hk : ∀ b k, P b → w'.cell? ⟨b, k, none⟩ = w.cell? ⟨b, k, none⟩) : ActsAt w' P' A l :=
  SeqAt.mono h hP fun b _ _ _ hb hx => hx.keep fun k => hk b k hb
/-- The five cells of an answer. -/
structure AnsAt (w : World) (b o : Nat) (x : AnsM) : Prop where
  c : w.cell? ⟨b, o, none⟩ = some (.int .i64 x.code)
  i : w.cell? ⟨b, o + 1, none⟩ = some (.bool x.is)
  v : w.cell? ⟨b, o + 2, none⟩ = some (.string x.val)
  p : w.cell? ⟨b, o + 3, none⟩ = some (.int .i64 x.ph)
  t : w.cell? ⟨b, o + 4, none⟩ = some (.int .i64 x.time)
theorem AnsAt.keep {w w' : World} {b o : Nat} {x : AnsM} (h : AnsAt w b o x) (hk : ∀ k, o ≤ k → k < o + 5 → w'.cell? ⟨b, k, none⟩ = w.cell? ⟨b, k, none⟩) : AnsAt w' b o x :=
  ⟨(hk _ (by omega) (by omega)).trans h.c, (hk _ (by omega) (by omega)).trans h.i, (hk _ (by omega) (by omega)).trans h.v, (hk _ (by omega) (by omega)).trans h.p, (hk _ (by omega) (by omega)).trans h.t⟩
/-- The answers in a block of their own, n places. -/
structure AnsDone (g n : Nat) (xs : List AnsM) (wr : World) : Prop where
  blk : ∃ cur, wr.heap[g]? = some (.cells cur 55 (0, 0)) ∧ cur.size = n * 5
  ans : ∀ i x, xs[i]? = some x → AnsAt wr g (i * 5) x
section
variable {g n : Nat} {xs : List AnsM} {w w' : World}
theorem AnsDone.lt (h : AnsDone g n xs w) : g < w.heap.size := by obtain ⟨_, h, _⟩ := h.blk; exact (Array.getElem?_eq_some_iff.1 h).1
theorem AnsDone.kept (h : AnsDone g n xs w) (hg : w'.heap[g]? = w.heap[g]?) : AnsDone g n xs w' := by
  obtain ⟨cur, hc, hn⟩ := h.blk
  exact ⟨⟨cur, hg.trans hc, hn⟩, fun i x hx => (h.ans i x hx).keep fun k _ _ => World.cell?_of_block (w := w) (a := ⟨g, k, none⟩) hg⟩
theorem AnsDone.cell (h : AnsDone g n xs w) (hk : xs.length < n) (j : Nat) (hj : j < 5) : ∃ v, w.cell? ⟨g, xs.length * 5 + j, none⟩ = some v ∧ w.frozen? ⟨g, xs.length * 5 + j, none⟩ = false := by
  obtain ⟨cur, hg, hn⟩ := h.blk
  exact block_cell hg hn (by omega)
theorem AnsDone.step (h : AnsDone g n xs w) (hk : xs.length < n) (x : AnsM) : AnsDone g n (xs ++ [x]) (set5 w g (xs.length * 5) (.int .i64 x.code) (.bool x.is) (.string x.val) (.int .i64 x.ph) (.int .i64 x.time)) := by
  have hs := set5_same w g (xs.length * 5) (.int .i64 x.code) (.bool x.is) (.string x.val) (.int .i64 x.ph) (.int .i64 x.time)
  obtain ⟨_, e0, _⟩ := h.cell hk 0 (by omega)
  obtain ⟨_, e1, _⟩ := h.cell hk 1 (by omega)
  obtain ⟨_, e2, _⟩ := h.cell hk 2 (by omega)
  obtain ⟨_, e3, _⟩ := h.cell hk 3 (by omega)
  obtain ⟨_, e4, _⟩ := h.cell hk 4 (by omega)
  obtain ⟨a0, a1, a2, a3, a4⟩ := set5_at e0 e1 e2 e3 e4 (.int .i64 x.code) (.bool x.is) (.string x.val) (.int .i64 x.ph) (.int .i64 x.time)
  refine ⟨block_set (block_set (block_set (block_set (block_set h.blk _) _) _) _) _, fun i y hy => ?_⟩
  have hi := (List.getElem?_eq_some_iff.1 hy).1
  rw [List.length_append, List.length_singleton] at hi
  by_cases e : i < xs.length
  · rw [List.getElem?_append_left e] at hy
    exact (h.ans i y hy).keep fun k h1 h2 => hs.cell _ fun e' => by
      have h3 : xs.length * 5 ≤ k := e'.2.1
      omega
  · have ei : i = xs.length := by omega
    subst ei
    rw [List.getElem?_append_right (Nat.le_refl _), Nat.sub_self, List.getElem?_cons_zero] at hy
    have hy := Option.some.inj hy
    subst hy
    exact ⟨a0, a1, a2, a3, a4⟩
end

/-- A world as it comes to a function, none of its memory in X. -/
structure WoInX (w : World) (X : Nat → Prop) (RA : Option Addr) (n rc : Nat) (CA : Option Addr) (m cc : Nat) (wo : WoM) : Prop where
  hn : n = wo.rows.length
  hrc : n ≤ rc
  rows : RowsAt w (fun b => b < w.heap.size ∧ ¬ X b) RA wo.rows
  hm : m = wo.cls.length
  hcc : m ≤ cc
  cls : ClsAt w (fun b => b < w.heap.size ∧ ¬ X b) CA wo.cls
  ck : i64 wo.clock
section
variable {w w' : World} {X : Nat → Prop} {RA CA : Option Addr} {n rc m cc : Nat} {wo : WoM}
theorem WoInX.in_ (h : WoInX w X RA n rc CA m cc wo) : WoIn w RA n rc CA m cc wo :=
  ⟨h.hn, h.hrc, h.rows.rows (fun _ hp => hp.1) (fun _ _ _ => rfl), h.hm, h.hcc, h.cls.cls (fun _ hp => hp.1) (fun _ _ _ => rfl), h.ck⟩
theorem WoInX.upto (h : WoInX w X RA n rc CA m cc wo) (hb : Below w.heap.size w w') : WoInX w' X RA n rc CA m cc wo :=
  ⟨h.hn, h.hrc, h.rows.rows (fun _ hp => ⟨(below_mem hb).1 _ hp.1, hp.2⟩) (fun _ _ hp => (below_mem hb).2 _ _ hp.1), h.hm, h.hcc, h.cls.cls (fun _ hp => ⟨(below_mem hb).1 _ hp.1, hp.2⟩) (fun _ _ hp => (below_mem hb).2 _ _ hp.1), h.ck⟩
theorem WoInX.same {S : Addr → Prop} (h : WoInX w X RA n rc CA m cc wo) (hs : Same w w' S) (hS : ∀ p, S p → X p.block) : WoInX w' X RA n rc CA m cc wo :=
  ⟨h.hn, h.hrc, h.rows.rows (fun _ hp => by rw [hs.sz]; exact hp) (fun _ _ hp => hs.cell _ fun e => hp.2 (hS _ e)), h.hm, h.hcc, h.cls.cls (fun _ hp => by rw [hs.sz]; exact hp) (fun _ _ hp => hs.cell _ fun e => hp.2 (hS _ e)), h.ck⟩
theorem Core.inX {B bR bC : Nat} {X' : Nat → Prop} {wb : Nat → Nat} (h : Core w B X bR bC wb wo) (hX : ∀ b, ¬ X b → ¬ X' b) {rc cc : Nat} (hr : wo.rows.length ≤ rc) (hc : wo.cls.length ≤ cc) : WoInX w X' (some ⟨bR, 0, none⟩) wo.rows.length rc (some ⟨bC, 0, none⟩) wo.cls.length cc wo :=
  ⟨rfl, hr, SeqAt.block h.rl ⟨h.rB.2.1, hX _ h.rB.2.2⟩ fun i r hr => (h.rows i r hr).mono (fun _ hb => ⟨hb.1, hX _ hb.2.1⟩) (fun _ _ _ => rfl) (fun _ _ _ => rfl), rfl, hc,
    SeqAt.block h.cl ⟨h.cB.2.1, hX _ h.cB.2.2⟩ fun i c hc => (h.cls i c hc).mono (fun _ hb => by rw [hb]; exact ⟨(h.wB i (List.getElem?_eq_some_iff.1 hc).1).2.1, hX _ (h.wB i (List.getElem?_eq_some_iff.1 hc).1).2.2.1⟩) (fun _ _ _ => rfl) (fun _ _ _ => rfl), h.ck⟩
end

theorem ans_info : (Tryz.prog.info? 55).map (fun i => (i.zero, i.size, i.bytes)) = some (some (.agg #[.int .i64 0, .bool false, .string ⟨#[]⟩, .int .i64 0, .int .i64 0]), 5, 48) := by kernel_rfl
/-- make([]Answer, n). -/
theorem make_ans (n : Nat) (hn : n ≤ 400) : ∃ Z : Array Value, Z.size = n * 5 ∧ ∀ W : World, (Instr.makeSlice 25 (.int .i64 (n : Int)) (.int .i64 (n : Int))).run Tryz.prog W =
    .ok (.slice (some ⟨W.heap.size, 0, none⟩) n n) (W.alloc (.cells Z 55)) := by
  obtain ⟨i0, hi0, hz0, hz1, hz2⟩ := info_parts ans_info
  refine ⟨madeCells (Value.agg #[.int .i64 0, .bool false, .string ⟨#[]⟩, .int .i64 0, .int .i64 0]).cells (n * 5), by rw [size_madeCells], fun W => ?_⟩
  have h := run_make (P := Tryz.prog) W 25 55 i0 _ Tryz.underlying25 hi0 hz0 .i64 .i64 (n : Int) (n : Int) (by omega) (by omega) (by rw [hz2]; omega) (by omega)
  simp only [Int.toNat_natCast, hz1] at h
  exact h
theorem made_at (z : Array Value) (n k : Nat) (h : k < n) : (madeCells z n)[k]? = some z[k % z.size]! := by simp [madeCells, h]
/-- The clients of the first world. -/
theorem start_in (w : World) (n : Nat) (hn : n ≤ 5) (Z : Array Value) (hZ : Z = madeCells (Value.agg #[.int .i64 0, .int .i64 0, .int .i64 0, .slice none 0 0, .int .i64 0]).cells (n * 5)) {g : Nat} (hg : w.heap[g]? = some (.cells Z 75 (0, 0))) (X : Nat → Prop) (hX : ¬ X g) :
    WoInX w X none 0 0 (some ⟨g, 0, none⟩) n n (startW n) := by
  have hlt : g < w.heap.size := (Array.getElem?_eq_some_iff.1 hg).1
  refine ⟨rfl, Nat.le_refl _, SeqAt.nil_ _, by simp [startW], Nat.le_refl _, SeqAt.block (by simp [startW]; omega) ⟨hlt, hX⟩ fun i c hc => ?_, i64_zero⟩
  have hi : i < n := by have := (List.getElem?_eq_some_iff.1 hc).1; simpa [startW] using this
  have hc' : c = idleC := by simp [startW, hi] at hc; exact hc.symm
  subst hc'
  have hcell : ∀ j, j < 5 → w.cell? ⟨g, i * 5 + j, none⟩ = ([.int .i64 0, .int .i64 0, .int .i64 0, .slice none 0 0, .int .i64 0] : List Value)[j]? := by
    intro j hj
    have e : (i * 5 + j) % 5 = j := by omega
    rw [Joins.cell_of_block hg, hZ, made_at _ _ _ (by omega), show (Value.agg #[.int .i64 0, .int .i64 0, .int .i64 0, .slice none 0 0, .int .i64 0]).cells.size = 5 from rfl, e]
    match j, hj with
    | 0, _ => rfl
    | 1, _ => rfl
    | 2, _ => rfl
    | 3, _ => rfl
    | 4, _ => rfl
  exact ⟨hcell 0 (by omega), hcell 1 (by omega), hcell 2 (by omega), ⟨none, 0, hcell 3 (by omega), Nat.le_refl _, SeqAt.nil_ _⟩, hcell 4 (by omega), i64_zero, i64_zero, i64_zero, i64_zero⟩
end Go.Proofs.YtambkjnhfejfaacGreatDoor

namespace Go.Proofs.YtambkjnhfejfaacGreatDoor
open Go.RowKit

/-- The cells of an act. -/
def actCells : Cells ActM := ⟨fun a => [.int .i64 a.kind, .int .i64 a.c, .string a.key, .string a.val], 4, fun _ => rfl, fun a v hv => by
  simp only [List.mem_cons, List.not_mem_nil, or_false] at hv
  rcases hv with rfl | rfl | rfl | rfl <;> rfl, by decide⟩
theorem act_info : (Tryz.prog.info? 35).map (fun i => (i.zero, i.size, i.bytes)) = some (some (.agg #[.int .i64 0, .int .i64 0, .string ⟨#[]⟩, .string ⟨#[]⟩]), 4, 48) := by kernel_rfl
/-- The strings of an act are such as a machine holds. -/
def ActOk (a : ActM) : Prop := a.key.size ≤ maxLen ∧ a.val.size ≤ maxLen
/-- A slice value that owns acts. -/
abbrev OwnsActs (w : World) (base : Nat) (v : Value) (l : List ActM) : Prop := actCells.Owns w base 35 v l
theorem acts_at {w : World} {P : Nat → Prop} {mx : Nat} {A : Option Addr} {l : List ActM} (h : SeqAt P 4 mx (actCells.At w) A l) (hl : l.length ≤ 100000) (hok : ∀ a ∈ l, ActOk a) : ActsAt w P A l :=
  ⟨by omega, fun h0 => by
    obtain ⟨b, o, hA, hb, hc⟩ := h.2 h0
    exact ⟨b, o, hA, hb, fun i x hx => ⟨hc i x hx 0 _ rfl, hc i x hx 1 _ rfl, hc i x hx 2 _ rfl, hc i x hx 3 _ rfl, hok x (List.mem_of_getElem? hx)⟩⟩⟩
theorem acts_of {w : World} {P : Nat → Prop} {A : Option Addr} {l : List ActM} (h : ActsAt w P A l) : SeqAt P 4 2932031007402 (actCells.At w) A l :=
  SeqAt.mono h (fun _ h => h) fun b o x _ _ hx j v hj => by
    match j, hj with
    | 0, hj => cases hj; exact hx.k
    | 1, hj => cases hj; exact hx.c
    | 2, hj => cases hj; exact hx.y
    | 3, hj => cases hj; exact hx.v
theorem OwnsActs.acts {w : World} {base n c : Nat} {A : Option Addr} {l : List ActM} (h : OwnsActs w base (.slice A n c) l) (hl : l.length ≤ 100000) (hok : ∀ a ∈ l, ActOk a) : n = l.length ∧ n ≤ c ∧ ActsAt w (fun b => base ≤ b ∧ b < w.heap.size) A l := by
  obtain ⟨A', c', hv, hc, hs⟩ := Cells.Owns.at_ h hl
  injection hv with e1 e2 e3
  subst e1 e2 e3
  exact ⟨rfl, hc, acts_at hs hl hok⟩
/-- append of one act, that lies in a new block. -/
theorem app_act {ty : TypeId} (W w0 : World) (base c : Nat) (A : Option Addr) (l : List ActM) (a : ActM) (hown : OwnsActs W base (.slice A l.length c) l) (hbd : l.length ≤ 1000) (hbase : base ≤ W.heap.size) (hb : Below base w0 W) :
    ∃ v' w', (Builtin.append_ #[23, 23] ty #[.slice A l.length c, .slice (some ⟨W.heap.size, 0, none⟩) 1 1]).run Tryz.prog (W.alloc (.cells #[.int .i64 a.kind, .int .i64 a.c, .string a.key, .string a.val] 35)) = .ok v' w' ∧ ∃ A' c', v' = .slice A' (l.length + 1) c' ∧ OwnsActs w' base (.slice A' (l.length + 1) c') (l ++ [a]) ∧ Below base w0 w' := by
  obtain ⟨i0, hi0, hz0, hz1, hz2⟩ := info_parts act_info
  obtain ⟨v', w', h1, A', c', h2, h3, h4, _⟩ := app_seq (C := actCells) (ty := ty) (bytes := 48) Tryz.underlying23 hi0 hz0 hz1 hz2 rfl (W.alloc (.cells #[.int .i64 a.kind, .int .i64 a.c, .string a.key, .string a.val] 35)) w0 base 1 1 (.slice A l.length c) l _ [a] _ (hown.kept (below_alloc (Below.refl _ _) _)) rfl (one_seq (C := actCells) (e := 35) W a) (by simp; omega) (by omega) (by simp; omega) (hb.alloc hbase _)
  have e : (l ++ [a]).length = l.length + 1 := by simp
  rw [e] at h2 h3
  exact ⟨v', w', h1, A', c', h2, h3, h4⟩
end Go.Proofs.YtambkjnhfejfaacGreatDoor

namespace Go.Proofs.YtambkjnhfejfaacGreatDoor
open Go.RowKit

/-- Short strings in memory. -/
abbrev StrsAt (w : World) (P : Nat → Prop) (A : Option Addr) (l : List ByteArray) : Prop := SeqAt P 1 100000 (fun b o (k : ByteArray) => w.cell? ⟨b, o, none⟩ = some (.string k) ∧ k.size ≤ 6) A l
theorem SeqAt.strs {w w' : World} {P P' : Nat → Prop} {A : Option Addr} {l : List ByteArray} (h : StrsAt w P A l) (hP : ∀ b, P b → P' b) (hk : ∀ b k, P b → w'.cell? ⟨b, k, none⟩ = w.cell? ⟨b, k, none⟩) : StrsAt w' P' A l :=
  SeqAt.mono h hP fun b _ _ _ hb hx => ⟨(hk b _ hb).trans hx.1, hx.2⟩
/-- A slice of acts that goes out. -/
def ActsOut (l : List ActM) (w : World) (e : Ending) (w' : World) : Prop :=
  ∃ A c, e = .returned (.slice A l.length c) ∧ OwnsActs w' w.heap.size (.slice A l.length c) l ∧ Below w.heap.size w w'
def actB (k c : Int) : ActM := ⟨k, c, ⟨#[]⟩, ⟨#[]⟩⟩
/-- look at keys. -/
def lookM (c : Int) (keys : List ByteArray) : List ActM := actB 1 c :: keys.map fun k => ⟨2, c, k, ⟨#[]⟩⟩
theorem map_take_snoc {α β : Type} {d : α} (f : α → β) {l : List α} {k : Nat} (hk : k < l.length) : (l.take (k + 1)).map f = (l.take k).map f ++ [f (l.getD k d)] := by
  rw [List.take_succ_eq_append_getElem hk, List.map_append]
  simp [List.getD, hk]
theorem one_own (w : World) (a : ActM) : OwnsActs (w.alloc (.cells #[.int .i64 a.kind, .int .i64 a.c, .string a.key, .string a.val] 35)) w.heap.size (.slice (some ⟨w.heap.size, 0, none⟩) 1 1) [a] :=
  Cells.Owns.block (C := actCells) (l := [a]) (Nat.le_refl _) (heap_alloc_new w _) rfl (by simp)

/-- The value of a write. -/
def ofS (k : ByteArray) (c : Nat) : ByteArray := (⟨#[111, 102, 32]⟩ : ByteArray) ++ k ++ itoaS c
/-- put of keys, and so many steps. -/
def deedM (c : Nat) (steps : Nat) (keys : List ByteArray) : List ActM := (actB 1 c :: keys.map fun k => ⟨3, c, k, ofS k c⟩) ++ List.replicate steps (actB 4 c)
end Go.Proofs.YtambkjnhfejfaacGreatDoor

namespace Go.Proofs.YtambkjnhfejfaacGreatDoor
open Go.ChangeShapes Go.WideShapes Go.ChangeAt Go.RowKit Go.Deep

/-- Some numbers. -/
structure RawM where
  kind : Int
  a : Int
  b : Int
  c : Int
instance : Inhabited RawM := ⟨⟨0, 0, 0, 0⟩⟩
structure RawAt (w : World) (b o : Nat) (r : RawM) : Prop where
  k : w.cell? ⟨b, o, none⟩ = some (.int .i64 r.kind)
  a : w.cell? ⟨b, o + 1, none⟩ = some (.int .i64 r.a)
  bb : w.cell? ⟨b, o + 2, none⟩ = some (.int .i64 r.b)
  c : w.cell? ⟨b, o + 3, none⟩ = some (.int .i64 r.c)
  ok : i64 r.kind ∧ i64 r.a ∧ i64 r.b ∧ i64 r.c
abbrev RawsAt (w : World) (P : Nat → Prop) (A : Option Addr) (l : List RawM) : Prop := SeqAt P 4 4398046511104 (RawAt w) A l
theorem RawAt.keep {w w' : World} {b o : Nat} {x : RawM} (h : RawAt w b o x) (hk : ∀ k, w'.cell? ⟨b, k, none⟩ = w.cell? ⟨b, k, none⟩) : RawAt w' b o x := ⟨(hk _).trans h.k, (hk _).trans h.a, (hk _).trans h.bb, (hk _).trans h.c, h.ok⟩
theorem SeqAt.raws {w w' : World} {P P' : Nat → Prop} {A : Option Addr} {l : List RawM} (h : RawsAt w P A l) (hP : ∀ b, P b → P' b) (hk : ∀ b k, P b → w'.cell? ⟨b, k, none⟩ = w.cell? ⟨b, k, none⟩) : RawsAt w' P' A l :=
  SeqAt.mono h hP fun b _ _ _ hb hx => hx.keep fun k => hk b k hb
/-- The value of a write that the i-th act makes. -/
def vS (i : Nat) : ByteArray := (⟨#[118]⟩ : ByteArray) ++ itoaS i
def actOf (clients : Int) (i : Nat) (r : RawM) : ActM :=
  if pickM r.kind 30 < 5 then actB 1 (pickM r.c clients)
  else if pickM r.kind 30 < 9 then ⟨2, pickM r.c clients, keyOf r.a, ⟨#[]⟩⟩
  else if pickM r.kind 30 < 15 then ⟨3, pickM r.c clients, keyOf r.a, vS i⟩
  else if pickM r.kind 30 < 27 then actB 4 (pickM r.c clients)
  else if pickM r.kind 30 = 27 then actB 5 (pickM r.c clients)
  else ⟨6, pickM r.c clients, keyOf r.a, ⟨#[]⟩⟩
/-- The first k acts. -/
def actsM (clients : Int) (l : List RawM) (k : Nat) : List ActM := (List.range k).map fun i => actOf clients i (l.getD i default)
theorem actsM_succ (clients : Int) (l : List RawM) (k : Nat) : actsM clients l (k + 1) = actsM clients l k ++ [actOf clients k (l.getD k default)] := by
  rw [actsM, actsM, List.range_succ, List.map_append]; rfl
theorem actsM_len (clients : Int) (l : List RawM) (k : Nat) : (actsM clients l k).length = k := by simp [actsM]
theorem vS_size {i : Nat} (h : i < 100) : (vS i).size ≤ 3 := by
  have h1 := itoa_size i h
  have h2 : (⟨#[118]⟩ : ByteArray).size = 1 := rfl
  simp only [vS, ByteArray.size_append]
  omega
theorem actOf_ok {clients : Int} {i : Nat} (h : i < 100) (r : RawM) : ActOk (actOf clients i r) := by
  have h1 := keys4_size _ (keyOf_mem r.a)
  have h2 := vS_size h
  have e : (⟨#[]⟩ : ByteArray).size = 0 := rfl
  have hk : (keyOf r.a).size ≤ maxLen := by simp only [maxLen]; omega
  have hv : (vS i).size ≤ maxLen := by simp only [maxLen]; omega
  have hz : (⟨#[]⟩ : ByteArray).size ≤ maxLen := by rw [e]; exact Nat.zero_le _
  unfold actOf
  repeat' split
  all_goals first | exact ⟨hz, hz⟩ | exact ⟨hk, hz⟩ | exact ⟨hk, hv⟩
theorem actsM_ok {clients : Int} {l : List RawM} {k : Nat} (h : k ≤ 100) : ∀ a ∈ actsM clients l k, ActOk a := by
  intro a ha
  obtain ⟨i, hi, rfl⟩ := List.mem_map.1 ha
  exact actOf_ok (by have := List.mem_range.1 hi; omega) _

theorem cells_raw : Tryz.prog.cellsOf 58 = 4 := by kernel_rfl
theorem bytes_raw : Tryz.prog.bytesOf 58 = 32 := by kernel_rfl
theorem cells_rawsS : Tryz.prog.cellsOf 22 = 1 := by kernel_rfl
section
variable {H : Type} {enc : TypeId × Value → H} {W : World}
set_option maxRecDepth 100000 in
theorem open_rawAt {n b o : Nat} {cs : List Value} {x : DataW H × List MemPlace} (hc : W.cells? 0 ⟨b, o, none⟩ 4 = some cs) (h : DataW.trod enc Tryz.prog W 0 (fun _ => true) true n 58 cs = some x) : ∃ r : RawM, RawAt W b o r := by
  obtain ⟨_, hcl, hat⟩ := World.cells?_some hc
  obtain ⟨ys, n', _, hx, hlen, hyl, hg⟩ := DataW.trod_struct Tryz.underlying58 h
  match cs, hcl with
  | [v0, v1, v2, v3], _ =>
    have f0 : DataW.trod enc Tryz.prog W 0 (fun _ => true) true n' 3 (([v0, v1, v2, v3].drop 0).take (Tryz.prog.cellsOf 3)) = ys[0]? := hg 0 _ rfl
    have f1 : DataW.trod enc Tryz.prog W 0 (fun _ => true) true n' 3 (([v0, v1, v2, v3].drop 1).take (Tryz.prog.cellsOf 3)) = ys[1]? := hg 1 _ rfl
    have f2 : DataW.trod enc Tryz.prog W 0 (fun _ => true) true n' 3 (([v0, v1, v2, v3].drop 2).take (Tryz.prog.cellsOf 3)) = ys[2]? := hg 2 _ rfl
    have f3 : DataW.trod enc Tryz.prog W 0 (fun _ => true) true n' 3 (([v0, v1, v2, v3].drop 3).take (Tryz.prog.cellsOf 3)) = ys[3]? := hg 3 _ rfl
    rw [cells_int] at f0 f1 f2 f3
    match ys, hyl with
    | [y0, y1, y2, y3], _ =>
      simp only [List.drop_zero, List.take_succ_cons, List.take_zero, List.drop_succ_cons, List.getElem?_cons_zero, List.getElem?_cons_succ] at f0 f1 f2 f3
      obtain ⟨p, e0, _, w0⟩ := DataW.trod_int Tryz.underlying3 f0
      obtain ⟨s, e1, _, w1⟩ := DataW.trod_int Tryz.underlying3 f1
      obtain ⟨m, e2, _, w2⟩ := DataW.trod_int Tryz.underlying3 f2
      obtain ⟨a, e3, _, w3⟩ := DataW.trod_int Tryz.underlying3 f3
      simp only [List.cons.injEq, and_true] at e0 e1 e2 e3
      subst e0 e1 e2 e3
      exact ⟨⟨p, s, m, a⟩, by simpa [Addr.add] using hat 0 (by omega), by simpa [Addr.add] using hat 1 (by omega), by simpa [Addr.add] using hat 2 (by omega), by simpa [Addr.add] using hat 3 (by omega), i64_of_wf w0, i64_of_wf w1, i64_of_wf w2, i64_of_wf w3⟩
set_option maxRecDepth 100000 in
/-- A slice of raw numbers that came in. -/
theorem open_raws {r0 : Reach} {base : Nat} {v : Value} {d : DataW H} {p : List MemPlace} (hv : Value.okWide Tryz.prog W r0 base 22 v) (h : DataW.Trod enc Tryz.prog W 0 (fun _ => true) true 22 v d p)
    (hz : ∀ k ∈ d.weights Tryz.prog 22, k ≤ reachBytes) : ∃ (l : List RawM) (A : Option Addr) (c : Nat), v = .slice A l.length c ∧ RawsAt W (· < W.heap.size) A l := by
  obtain ⟨fuel, hf⟩ := h
  obtain ⟨A, n, c, rfl⟩ := okWide_slice Tryz.underlying22 hv
  obtain ⟨l, hl, hr, hcap⟩ := open_seq (E := RawAt W) (sz := 4) (by_ := 32) (mx := 4398046511104) Tryz.underlying22 cells_raw (by omega) bytes_raw (fun n h => by unfold reachBytes at h; omega) hf hz (fun b o n' cs y hc ht _ => open_rawAt hc ht)
  exact ⟨l, A, c, by rw [hl], hr⟩
end
end Go.Proofs.YtambkjnhfejfaacGreatDoor

namespace Go.Proofs.YtambkjnhfejfaacGreatDoor
open Go.RowKit

def rowKey : ByteArray := ⟨#[114, 111, 119]⟩
/-- The Start that is committed. -/
def rowSt (x : RawM) (r : RowM) : Int := if r.ls = 0 then 1 + pickM x.a 30 else r.ls
def rowOp (x : RawM) (r : RowM) : RowM × Int :=
  if pickM x.kind 5 < 2 then lockOp (1 + pickM x.a 30) (keyOf x.b) (vS (pickM x.c 9).toNat) r
  else if pickM x.kind 5 < 4 then commitOp (rowSt x r) (rowSt x r + 1 + pickM x.b 10) r
  else undoOp (1 + pickM x.a 30) r
def rowNext (x : RawM) (r : RowM) : RowM := if (rowOp x r).2 = 0 then (rowOp x r).1 else r
/-- The row behind the first k of the numbers. -/
def rowsM (l : List RawM) : Nat → RowM
  | 0 => freshRow rowKey
  | k + 1 => rowNext (l.getD k default) (rowsM l k)

/-- What the row keeps. -/
structure RowKeep (k : Nat) (r : RowM) : Prop where
  ok : r.ok = true
  key : r.key = rowKey
  sz : RowOk r
  ls : 0 ≤ r.ls ∧ r.ls ≤ 30
  recs : ∀ y ∈ r.recs, y.s ≤ 30 ∧ y.c ≤ 41
  len : r.recs.length ≤ k
theorem lock_fst {st : Int} {pk pv : ByteArray} {r : RowM} (e : (lockOp st pk pv r).2 = 0) : lockE r.key r.ls r.lp r.val r.recs st pk pv = 0 ∧ (lockOp st pk pv r).1 = ⟨r.key, st, pk, pv, r.recs⟩ := by
  unfold lockOp at e ⊢
  by_cases h : lockE r.key r.ls r.lp r.val r.recs st pk pv = 0
  · rw [if_pos h]; exact ⟨h, rfl⟩
  · rw [if_neg h] at e; exact absurd e h
theorem commit_fst {st cm : Int} {r : RowM} (e : (commitOp st cm r).2 = 0) : commitE r.key r.ls r.lp r.val r.recs st cm = 0 ∧ (commitOp st cm r).1 = ⟨r.key, 0, emptyS, emptyS, endRec r.recs ⟨st, cm, r.val⟩⟩ := by
  unfold commitOp at e ⊢
  by_cases h : commitE r.key r.ls r.lp r.val r.recs st cm = 0
  · rw [if_pos h]; exact ⟨h, rfl⟩
  · rw [if_neg h] at e; exact absurd e h
theorem undo_fst {st : Int} {r : RowM} (e : (undoOp st r).2 = 0) : undoE r.key r.ls r.lp r.val r.recs st = 0 ∧ (undoOp st r).1 = undoneR st r := by
  unfold undoOp at e ⊢
  by_cases h : undoE r.key r.ls r.lp r.val r.recs st = 0
  · rw [if_pos h]; exact ⟨h, rfl⟩
  · rw [if_neg h] at e; exact absurd e h
theorem vS9 (n : Int) : (vS (pickM n 9).toNat).size ≤ 3 := vS_size (by have := pick_bd n (show (0 : Int) < 9 by decide); omega)
theorem end_keep {l : List RecM} {s c : Int} {v : ByteArray} {k : Nat} (h : ∀ y ∈ l, y.s ≤ 30 ∧ y.c ≤ 41) (hl : l.length ≤ k) (hs : s ≤ 30) (hc : c ≤ 41) : (∀ y ∈ endRec l ⟨s, c, v⟩, y.s ≤ 30 ∧ y.c ≤ 41) ∧ (endRec l ⟨s, c, v⟩).length ≤ k + 1 := by
  refine ⟨fun y hy => ?_, Nat.le_trans (endRec_len l _) (by omega)⟩
  rcases mem_endRec.1 hy with rfl | ⟨hy, _⟩
  · exact ⟨hs, hc⟩
  · exact h y hy
theorem rowSt_bd {x : RawM} {r : RowM} (h : 0 ≤ r.ls ∧ r.ls ≤ 30) : 1 ≤ rowSt x r ∧ rowSt x r ≤ 30 := by
  have := pick_bd x.a (show (0 : Int) < 30 by decide)
  unfold rowSt
  split <;> omega
theorem rowNext_keep {k : Nat} {r : RowM} (x : RawM) (h : RowKeep k r) : RowKeep (k + 1) (rowNext x r) := by
  unfold rowNext
  split
  · rename_i e
    have ha := pick_bd x.a (show (0 : Int) < 30 by decide)
    have hb := pick_bd x.b (show (0 : Int) < 10 by decide)
    have hs := rowSt_bd (x := x) h.ls
    unfold rowOp at e ⊢
    by_cases h2 : pickM x.kind 5 < 2
    · rw [if_pos h2] at e ⊢
      have hg := lockOp_good _ _ _ r h.ok e
      have hk := keys4_size _ (keyOf_mem x.b)
      have hv := vS9 x.c
      have ho := lockOp_ok h.sz (show i64 (1 + pickM x.a 30) by unfold i64; omega) (show (keyOf x.b).size ≤ maxLen by simp only [maxLen]; omega) (show (vS (pickM x.c 9).toNat).size ≤ maxLen by simp only [maxLen]; omega) e
      have hf := (lock_fst e).2
      refine ⟨hg.1, hg.2.trans h.key, ho, ?_, ?_, ?_⟩
      · rw [hf]; exact ⟨by show (0 : Int) ≤ 1 + _; omega, by show 1 + pickM x.a 30 ≤ 30; omega⟩
      · rw [hf]; exact h.recs
      · rw [hf]; exact Nat.le_succ_of_le h.len
    · rw [if_neg h2] at e ⊢
      by_cases h4 : pickM x.kind 5 < 4
      · rw [if_pos h4] at e ⊢
        have hg := commitOp_good _ _ r h.ok e
        have ho := commitOp_ok h.sz e
        have hf := (commit_fst e).2
        have hr := end_keep (v := r.val) h.recs h.len hs.2 (show rowSt x r + 1 + pickM x.b 10 ≤ 41 by omega)
        refine ⟨hg.1, hg.2.trans h.key, ho, ?_, ?_, ?_⟩
        · rw [hf]; exact ⟨Int.le_refl 0, by show (0 : Int) ≤ 30; omega⟩
        · rw [hf]; exact hr.1
        · rw [hf]; exact hr.2
      · rw [if_neg h4] at e ⊢
        have hg := undoOp_good _ r h.ok e
        have ho := undoOp_ok h.sz e
        have hf := (undo_fst e).2
        have hr := end_keep (v := emptyS) h.recs h.len (show 1 + pickM x.a 30 ≤ 30 by omega) (show (0 : Int) ≤ 41 by omega)
        refine ⟨hg.1, hg.2.trans h.key, ho, ?_, ?_, ?_⟩
        · rw [hf]; unfold undoneR
          split
          · exact h.ls
          · split
            · exact ⟨Int.le_refl 0, by show (0 : Int) ≤ 30; omega⟩
            · exact h.ls
        · rw [hf]; unfold undoneR
          split
          · exact h.recs
          · split
            · exact hr.1
            · exact hr.1
        · rw [hf]; unfold undoneR
          split
          · exact Nat.le_succ_of_le h.len
          · split
            · exact hr.2
            · exact hr.2
  · exact ⟨h.ok, h.key, h.sz, h.ls, h.recs, Nat.le_succ_of_le h.len⟩
theorem rowsM_keep (l : List RawM) : ∀ k, RowKeep k (rowsM l k)
  | 0 => ⟨fresh_valid (by decide +kernel), rfl, fresh_ok (by decide), ⟨Int.le_refl 0, by show (0 : Int) ≤ 30; omega⟩, fun _ h => (by cases h), Nat.le_refl 0⟩
  | k + 1 => rowNext_keep _ (rowsM_keep l k)
end Go.Proofs.YtambkjnhfejfaacGreatDoor
