/-
  Contracts of functions of the program and words for memory, several texts in one: TOwn4, TPutMem. Conditions: those stated with each.
-/
import Derived.Test.YtambkjnhfejfaacGreatDoorG02
import Derived.Test.YtambkjnhfejfaacGreatDoorG13
namespace Go.Proofs.YtambkjnhfejfaacGreatDoor
open Go.RowKit

/-- The cells of a row, and their values. -/
theorem RowAt.five {w : World} {P : Nat → Prop} {b o : Nat} {r : RowM} (h : RowAt w P b o r) : ∀ k, k < 5 → ∃ v, w.cell? ⟨b, o + k, none⟩ = some v ∧ v.oneCell' = true := by
  intro k hk
  obtain ⟨A, c, h4, _, _⟩ := h.cr
  match k, hk with
  | 0, _ => exact ⟨_, h.ck, rfl⟩
  | 1, _ => exact ⟨_, h.cs, rfl⟩
  | 2, _ => exact ⟨_, h.cp, rfl⟩
  | 3, _ => exact ⟨_, h.cv, rfl⟩
  | 4, _ => exact ⟨_, h4, rfl⟩
/-- A row whose cells read the same elsewhere. -/
theorem RowAt.move {w w' : World} {P P' : Nat → Prop} {b o b' o' : Nat} {r : RowM} (h : RowAt w P b o r) (hP : ∀ b, P b → P' b) (hk : ∀ b k, P b → w'.cell? ⟨b, k, none⟩ = w.cell? ⟨b, k, none⟩) (hb : ∀ k, k < 5 → w'.cell? ⟨b', o' + k, none⟩ = w.cell? ⟨b, o + k, none⟩) : RowAt w' P' b' o' r := by
  obtain ⟨A, c, h4, hc, hr⟩ := h.cr
  exact ⟨(hb 0 (by omega)).trans h.ck, (hb 1 (by omega)).trans h.cs, (hb 2 (by omega)).trans h.cp, (hb 3 (by omega)).trans h.cv, ⟨A, c, (hb 4 (by omega)).trans h4, hc, hr.mono hP hk⟩, h.ok⟩
/-- All cells of a block of rows. -/
theorem rows_cells {w : World} {P : Nat → Prop} {b : Nat} {l : List RowM} (h : ∀ i r, l[i]? = some r → RowAt w P b (i * 5) r) : ∃ cs : List Value, cs.length = l.length * 5 ∧ CellsAt w b 0 cs ∧ ∀ v ∈ cs, v.oneCell' = true := by
  have hx : ∀ j, j < l.length * 5 → ∃ v, w.cell? ⟨b, j, none⟩ = some v ∧ v.oneCell' = true := by
    intro j hj
    have hi : j / 5 < l.length := by omega
    obtain ⟨v, hv, h1⟩ := (h (j / 5) _ (List.getElem?_eq_getElem hi)).five (j % 5) (by omega)
    rw [show j / 5 * 5 + j % 5 = j by omega] at hv
    exact ⟨v, hv, h1⟩
  refine ⟨(List.range (l.length * 5)).map fun j => (w.cell? ⟨b, j, none⟩).getD undef, by simp, fun j v hj => ?_, fun v hv => ?_⟩
  · have hjl : j < l.length * 5 := by have := (List.getElem?_eq_some_iff.1 hj).1; simpa using this
    obtain ⟨u, hu, _⟩ := hx j hjl
    rw [Nat.zero_add, hu]
    simp [hjl, hu] at hj
    rw [hj]
  · obtain ⟨j, hj, rfl⟩ := List.mem_map.1 hv
    obtain ⟨u, hu, h1⟩ := hx j (List.mem_range.1 hj)
    rw [hu]; exact h1

section
variable {w1 w w' : World} {t : Bool} {Z : Nat → Prop} {B bx bC bR : Nat} {wo : WoM}
/-- The block of the rows. -/
theorem Own.open_ (h : Own w t Z B bx bC wo) {n rc : Nat} (h0 : w.cell? ⟨bx, 0, none⟩ = some (.slice (some ⟨bR, 0, none⟩) n rc)) : ∃ wb, n = wo.rows.length ∧ n ≤ rc ∧ (t = true → rc = n) ∧ Core w B (fun b => b = bx ∨ Z b) bR bC wb wo := by
  obtain ⟨bR', rc', wb, c0, hrc, ht, hco⟩ := h.core
  rw [h0] at c0
  injection c0 with c0
  injection c0 with e1 e2 e3
  injection e1 with e1
  injection e1 with e1
  subst e1 e2 e3
  exact ⟨wb, rfl, hrc, ht, hco⟩
/-- One row is another. -/
theorem Own.row (h1 : Own w1 t Z B bx bC wo) (hb : Below w1.heap.size w1 w) {n rc : Nat} (h0 : w1.cell? ⟨bx, 0, none⟩ = some (.slice (some ⟨bR, 0, none⟩) n rc)) {i : Nat} {r : RowM} (hi : i < wo.rows.length) (hs : Same w w' (five bR (i * 5))) {A : Option Addr} {c : Nat}
    (a0 : w'.cell? ⟨bR, i * 5, none⟩ = some (.string r.key)) (a1 : w'.cell? ⟨bR, i * 5 + 1, none⟩ = some (.int .i64 r.ls)) (a2 : w'.cell? ⟨bR, i * 5 + 2, none⟩ = some (.string r.lp)) (a3 : w'.cell? ⟨bR, i * 5 + 3, none⟩ = some (.string r.val)) (a4 : w'.cell? ⟨bR, i * 5 + 4, none⟩ = some (.slice A r.recs.length c))
    (hc : r.recs.length ≤ c) (hrec : RecsAt w w.heap.size A r.recs) (hnew : NewAt w1.heap.size A) (hok : RowOk r) : Own w' t Z B bx bC { wo with rows := wo.rows.set i r } := by
  obtain ⟨wb, hn, hrc, ht, hco1⟩ := h1.open_ h0
  have hco := hco1.upto (X' := fun b => b = bx ∨ Z b) hb fun _ _ h => h
  have hw := h1.upto hb
  have hne : bx ≠ bR := fun e => hco1.rB.2.2 (.inl e.symm)
  have hx : ∀ o, w'.cell? ⟨bx, o, none⟩ = w.cell? ⟨bx, o, none⟩ := fun o => hs.cell _ fun e => hne e.1
  have hx0 : w.cell? ⟨bx, 0, none⟩ = some (.slice (some ⟨bR, 0, none⟩) n rc) := (hb.cell (p := ⟨bx, 0, none⟩) h1.xB.2).trans h0
  refine ⟨⟨hw.xB.1, by rw [hs.sz]; exact hw.xB.2⟩, hw.xZ, fun b e => by rw [hs.sz]; exact hw.zlt b e, fun o => (hs.fr _).trans (hw.xf o), (hx 1).trans hw.x1, (hx 2).trans hw.x2, bR, rc, wb, ?_, by simpa [← hn] using hrc, fun e => by simpa [← hn] using ht e, hco.row hi hs ⟨a0, a1, a2, a3, ⟨A, c, a4, hc, ?_⟩, hok⟩⟩
  · rw [hx 0, hx0, hn]; simp
  · refine (RecsAt.in_ (P := OwnP w.heap.size (fun b => b = bx ∨ Z b) bR bC wb wo.cls.length) hrec fun ad hA hlt => ?_).mono (fun _ h => h) fun b k hp => hs.cell _ fun e => hp.2.2.1 e.1
    have hge := hnew ad hA
    refine ⟨hlt, fun e => ?_, ?_, ?_, fun j hj => ?_⟩
    · rcases e with e | e
      · have := h1.xB.2; omega
      · have := h1.zlt _ e; omega
    · have := hco1.rB.2.1; omega
    · have := hco1.cB.2.1; omega
    · have := (hco1.wB j hj).2.1; omega
/-- A row is laid into the rows, which lie in a new block now. -/
theorem Own.ins (h1 : Own w1 t Z B bx bC wo) (hb : Below w1.heap.size w1 w) {n rc : Nat} (h0 : w1.cell? ⟨bx, 0, none⟩ = some (.slice (some ⟨bR, 0, none⟩) n rc)) {i g cg : Nat} {r : RowM} (hi : i ≤ wo.rows.length) {cs vs : List Value} (hcl : cs.length = wo.rows.length * 5) (hvl : vs.length = 5) (hcs : CellsAt w1 bR 0 cs)
    (hg : w1.heap.size ≤ g) (hgw : g < w.heap.size) (hgf : ∀ o, w.frozen? ⟨g, o, none⟩ = false) (hcap : wo.rows.length + 1 ≤ cg) (hcells : CellsAt w g 0 (cs.take (i * 5) ++ vs ++ cs.drop (i * 5))) {A : Option Addr} {c : Nat} (hv : vs = [.string r.key, .int .i64 r.ls, .string r.lp, .string r.val, .slice A r.recs.length c])
    (hc : r.recs.length ≤ c) {s : Nat} (hrec : RecsAt w s A r.recs) (hsg : s ≤ g) (hnew : NewAt w1.heap.size A) (hok : RowOk r) (hlen : wo.rows.length + 1 ≤ 1759218604441) :
    Own (w.setCell ⟨bx, 0, none⟩ (.slice (some ⟨g, 0, none⟩) (wo.rows.length + 1) cg)) false Z B bx bC { wo with rows := wo.rows.take i ++ r :: wo.rows.drop i } := by
  obtain ⟨wb, hn, hrc, ht, hco1⟩ := h1.open_ h0
  have hw := h1.upto hb
  have hs := set1_same w ⟨bx, 0, none⟩ (.slice (some ⟨g, 0, none⟩) (wo.rows.length + 1) cg)
  have hx0 : w.cell? ⟨bx, 0, none⟩ = some (.slice (some ⟨bR, 0, none⟩) n rc) := (hb.cell (p := ⟨bx, 0, none⟩) h1.xB.2).trans h0
  have hlen' : (wo.rows.take i ++ r :: wo.rows.drop i).length = wo.rows.length + 1 := by simp; omega
  have hb1 : ∀ b o, b < w1.heap.size → b ≠ bx → (w.setCell ⟨bx, 0, none⟩ (.slice (some ⟨g, 0, none⟩) (wo.rows.length + 1) cg)).cell? ⟨b, o, none⟩ = w1.cell? ⟨b, o, none⟩ := fun b o h hne => (hs.cell _ fun e => hne (congrArg Addr.block e)).trans (hb.cell (p := ⟨b, o, none⟩) h)
  have hbx := h1.xB.2
  have hgx : g ≠ bx := by omega
  have hgc : ∀ o, (w.setCell ⟨bx, 0, none⟩ (.slice (some ⟨g, 0, none⟩) (wo.rows.length + 1) cg)).cell? ⟨g, o, none⟩ = w.cell? ⟨g, o, none⟩ := fun o => hs.cell _ fun e => hgx (congrArg Addr.block e)
  have hfr : ∀ b o, b < w1.heap.size → w.frozen? ⟨b, o, none⟩ = w1.frozen? ⟨b, o, none⟩ := (bcell hb).2
  have hsz := hb.size
  refine ⟨⟨hw.xB.1, by rw [hs.sz]; exact hw.xB.2⟩, hw.xZ, fun b e => by rw [hs.sz]; exact hw.zlt b e, fun o => (hs.fr _).trans (hw.xf o), (hs.cell _ (cell_ne _ _ _ (by omega))).trans hw.x1, (hs.cell _ (cell_ne _ _ _ (by omega))).trans hw.x2, g, cg, wb, ?_, by rw [hlen']; exact hcap, (fun e => by cases e), ?_⟩
  · rw [World.cell?_setCell_same _ _ _ hx0, hlen']
  have hPold : ∀ b, OwnP w1.heap.size (fun b => b = bx ∨ Z b) bR bC wb wo.cls.length b → OwnP (w.setCell ⟨bx, 0, none⟩ (.slice (some ⟨g, 0, none⟩) (wo.rows.length + 1) cg)).heap.size (fun b => b = bx ∨ Z b) g bC wb wo.cls.length b := fun b hp => ⟨by rw [hs.sz]; have := hp.1; omega, hp.2.1, by have := hp.1; omega, hp.2.2.2⟩
  refine ⟨⟨by have := h1.base; omega, by rw [hs.sz]; exact hgw, fun e => ?_⟩, ⟨hco1.cB.1, by rw [hs.sz]; have := hco1.cB.2.1; omega, hco1.cB.2.2⟩, by have := hco1.cB.2.1; omega, fun j hj => ?_, hco1.inj, fun o => (hs.fr _).trans (hgf o), fun o => ((hs.fr _).trans (hfr _ o hco1.cB.2.1)).trans (hco1.cf o), fun j o hj => ((hs.fr _).trans (hfr _ o (hco1.wB j hj).2.1)).trans (hco1.wf j o hj), fun j x hx => ?_, fun j x hx => ?_, by rw [hlen']; exact hlen, hco1.cl, hco1.ck⟩
  · rcases e with e | e
    · omega
    · have := h1.zlt _ e; omega
  · obtain ⟨q1, q2, q3, q4, q5⟩ := hco1.wB j hj
    exact ⟨q1, by rw [hs.sz]; omega, q3, by omega, q5⟩
  · have hj : j < wo.rows.length + 1 := by rw [← hlen']; exact (List.getElem?_eq_some_iff.1 hx).1
    rcases Nat.lt_trichotomy j i with hji | hji | hji
    · have hx' : wo.rows[j]? = some x := by
        rw [List.getElem?_append_left (by simp; omega), List.getElem?_take, if_pos hji] at hx; exact hx
      refine (hco1.rows j x hx').move hPold (fun b k hp => hb1 b k hp.1 fun e => hp.2.1 (.inl e)) fun k hk => ?_
      rw [hgc]
      obtain ⟨v, hv', _⟩ := (hco1.rows j x hx').five k hk
      rw [hv']
      have hjk : cs[j * 5 + k]? = some v := by
        have hlt : j * 5 + k < cs.length := by rw [hcl]; omega
        have := hcs _ _ (List.getElem?_eq_getElem hlt)
        rw [Nat.zero_add, hv'] at this
        rw [List.getElem?_eq_getElem hlt, ← this]
      have := hcells (j * 5 + k) v (by
        rw [List.append_assoc, List.getElem?_append_left (by rw [List.length_take, hcl]; omega), List.getElem?_take, if_pos (by omega)]; exact hjk)
      rwa [Nat.zero_add] at this
    · subst hji
      have hxr : x = r := by
        rw [List.getElem?_append_right (by simp; omega), List.length_take, show j - min j wo.rows.length = 0 by omega, List.getElem?_cons_zero] at hx
        injection hx with hx; exact hx.symm
      subst hxr
      have hk : ∀ k v, vs[k]? = some v → w.cell? ⟨g, j * 5 + k, none⟩ = some v := fun k v hkv => by
        have := hcells (j * 5 + k) v (by
          have hkl := (List.getElem?_eq_some_iff.1 hkv).1
          rw [List.append_assoc, List.getElem?_append_right (by rw [List.length_take, hcl]; omega), List.length_take, hcl, List.getElem?_append_left (by omega)]
          rw [show j * 5 + k - min (j * 5) (wo.rows.length * 5) = k by omega]; exact hkv)
        rwa [Nat.zero_add] at this
      refine ⟨(hgc _).trans (hk 0 _ (by rw [hv]; rfl)), (hgc _).trans (hk 1 _ (by rw [hv]; rfl)), (hgc _).trans (hk 2 _ (by rw [hv]; rfl)), (hgc _).trans (hk 3 _ (by rw [hv]; rfl)), ⟨A, c, (hgc _).trans (hk 4 _ (by rw [hv]; rfl)), hc, ?_⟩, hok⟩
      refine (RecsAt.in_ (P := OwnP (w.setCell ⟨bx, 0, none⟩ (.slice (some ⟨g, 0, none⟩) (wo.rows.length + 1) cg)).heap.size (fun b => b = bx ∨ Z b) g bC wb wo.cls.length) hrec fun ad hA hlt => ?_).mono (fun _ h => h) fun b k hp => hs.cell _ fun e => hp.2.1 (.inl (congrArg Addr.block e))
      have hge := hnew ad hA
      refine ⟨by rw [hs.sz]; omega, fun e => ?_, by omega, ?_, fun j hj => ?_⟩
      · rcases e with e | e
        · omega
        · have := h1.zlt _ e; omega
      · have := hco1.cB.2.1; omega
      · have := (hco1.wB j hj).2.1; omega
    · have hx' : wo.rows[j - 1]? = some x := by
        rw [List.getElem?_append_right (by simp; omega), List.length_take, show j - min i wo.rows.length = (j - 1 - i) + 1 by omega, List.getElem?_cons_succ, List.getElem?_drop, show i + (j - 1 - i) = j - 1 by omega] at hx; exact hx
      refine (hco1.rows (j - 1) x hx').move hPold (fun b k hp => hb1 b k hp.1 fun e => hp.2.1 (.inl e)) fun k hk => ?_
      rw [hgc]
      obtain ⟨v, hv', _⟩ := (hco1.rows (j - 1) x hx').five k hk
      rw [hv']
      have hjk : cs[(j - 1) * 5 + k]? = some v := by
        have hlt : (j - 1) * 5 + k < cs.length := by rw [hcl]; omega
        have := hcs _ _ (List.getElem?_eq_getElem hlt)
        rw [Nat.zero_add, hv'] at this
        rw [List.getElem?_eq_getElem hlt, ← this]
      have := hcells (j * 5 + k) v (by
        rw [List.append_assoc, List.getElem?_append_right (by rw [List.length_take, hcl]; omega), List.length_take, hcl, List.getElem?_append_right (by omega), hvl, List.getElem?_drop]
        rw [show i * 5 + (j * 5 + k - min (i * 5) (wo.rows.length * 5) - 5) = (j - 1) * 5 + k by omega]; exact hjk)
      rwa [Nat.zero_add] at this
  · have hj := (List.getElem?_eq_some_iff.1 hx).1
    refine (hco1.cls j x hx).mono (fun _ h => h) (fun b k hp => hb1 b k (by rw [hp]; exact (hco1.wB j hj).2.1) (by rw [hp]; exact fun e => (hco1.wB j hj).2.2.1 (.inl e))) (fun k _ _ => hb1 _ k hco1.cB.2.1 fun e => hco1.cB.2.2 (.inl e))
end
end Go.Proofs.YtambkjnhfejfaacGreatDoor

namespace Go.Proofs.YtambkjnhfejfaacGreatDoor
open Go.RowKit

theorem wrsC_take (l : List WrM) (i : Nat) : (wrsC l).take (i * 2) = wrsC (l.take i) := by
  induction l generalizing i with
  | nil => simp [wrsC]
  | cons x l ih =>
    cases i with
    | zero => simp [wrsC]
    | succ i =>
      rw [List.take_succ_cons, wrsC_cons, wrsC_cons, show (i + 1) * 2 = i * 2 + 1 + 1 by omega, List.take_succ_cons, List.take_succ_cons, ih]
theorem wrsC_drop (l : List WrM) (i : Nat) : (wrsC l).drop (i * 2) = wrsC (l.drop i) := by
  induction l generalizing i with
  | nil => simp [wrsC]
  | cons x l ih =>
    cases i with
    | zero => simp [wrsC]
    | succ i =>
      rw [List.drop_succ_cons, wrsC_cons, show (i + 1) * 2 = i * 2 + 1 + 1 by omega, List.drop_succ_cons, List.drop_succ_cons, ih]
theorem wrsC_ins (l : List WrM) (i : Nat) (x : WrM) : wrsC (l.take i ++ x :: l.drop i) = (wrsC l).take (i * 2) ++ [.string x.k, .string x.v] ++ (wrsC l).drop (i * 2) := by
  rw [wrsC_append, wrsC_cons, wrsC_take, wrsC_drop]; simp
theorem wrsAt_cells {w : World} {P : Nat → Prop} {g : Nat} {l : List WrM} (hlen : l.length ≤ 4398046511104) (hok : ∀ x ∈ l, x.k.size ≤ maxLen ∧ x.v.size ≤ maxLen) (hB : P g) (hc : CellsAt w g 0 (wrsC l)) : WrsAt w P (some ⟨g, 0, none⟩) l :=
  SeqAt.block hlen hB fun i r hr => by
    obtain ⟨a0, a1⟩ := wrsC_at hr
    have h0 := hc _ _ a0
    have h1 := hc _ _ a1
    rw [Nat.zero_add] at h0 h1
    exact ⟨h0, h1, hok r (List.mem_of_getElem? hr)⟩

section
variable {w w1 : World} {t : Bool} {Z : Nat → Prop} {B bx bC : Nat} {wo : WoM} {C : Nat} {c : ClM}
theorem Own.xlt (h : Own w t Z B bx bC wo) : ∀ b, (b = bx ∨ Z b) → b < w.heap.size := fun b e => e.elim (fun e => by rw [e]; exact h.xB.2) (h.zlt b)
/-- The value of a write is another. -/
theorem Own.wrSet (h : Own w t Z B bx bC wo) (hc : wo.cls[C]? = some c) {k b o i : Nat} (c3 : w.cell? ⟨bC, C * 5 + 3, none⟩ = some (.slice (some ⟨b, o, none⟩) c.ws.length k)) (hi : i < c.ws.length) {v : ByteArray} (hv : v.size ≤ maxLen) :
    Own (w.setCell ⟨b, o + i * 2 + 1, none⟩ (.string v)) t Z B bx bC (wo.setC C { c with ws := c.ws.set i ⟨(c.ws.getD i default).k, v⟩ }) ∧ B ≤ b ∧ ¬ Z b ∧ ∀ o, w.frozen? ⟨b, o, none⟩ = false := by
  obtain ⟨bR, rc, wb, x0, hrc, ht, hco⟩ := h.core
  have hC := (List.getElem?_eq_some_iff.1 hc).1
  have hcl := hco.cls C c hc
  obtain ⟨A', k', c3', hq, hw⟩ := hcl.cw
  rw [c3] at c3'
  injection c3' with c3'
  injection c3' with e1 _ e2
  subst e1 e2
  obtain ⟨b', o', hA, hb', hold⟩ := SeqAt.at_ hw (getD_some (d := default) hi)
  obtain ⟨rfl, rfl⟩ : b = b' ∧ o = o' := by injection hA with e; injection e with e1 e2; exact ⟨e1, e2⟩
  have hb : b = wb C := hb'
  obtain ⟨q1, q2, q3, q4, q5⟩ := hco.wB C hC
  rw [← hb] at q1 q2 q3 q4 q5
  have hs := set1_same w ⟨b, o + i * 2 + 1, none⟩ (.string v)
  have hne : ∀ b' o', b' ≠ b → (w.setCell ⟨b, o + i * 2 + 1, none⟩ (.string v)).cell? ⟨b', o', none⟩ = w.cell? ⟨b', o', none⟩ := fun b' o' hn => hs.cell _ fun e => hn (congrArg Addr.block e)
  have hxne : bx ≠ b := fun e => q3 (.inl e.symm)
  have hwf : ∀ o, w.frozen? ⟨b, o, none⟩ = false := fun o => by rw [hb]; exact hco.wf C o hC
  refine ⟨⟨⟨h.xB.1, by rw [hs.sz]; exact h.xB.2⟩, h.xZ, fun b e => by rw [hs.sz]; exact h.zlt b e, fun o => (hs.fr _).trans (h.xf o), (hne _ _ hxne).trans h.x1, ?_, bR, rc, _, (hne _ _ hxne).trans x0, hrc, ht, hco.writes (g := wb C) hC (fun b' o' _ _ hn => hne b' o' (by rw [hb]; exact hn)) (fun o' _ => hne _ _ (fun e => q5 e.symm)) (fun _ _ _ => hs.fr _) (by rw [hs.sz]; exact Nat.le_refl _) h.xlt (.inl rfl) (by rw [hs.sz, ← hb]; exact q2) (fun o => by rw [hs.fr, ← hb]; exact hwf o) (by have := h.xB; omega) ?_⟩, q1, fun e => q3 (.inr e), hwf⟩
  · rw [hne _ _ hxne, h.x2]; simp [WoM.setC]
  · have hbC : ∀ o', (w.setCell ⟨b, o + i * 2 + 1, none⟩ (.string v)).cell? ⟨bC, o', none⟩ = w.cell? ⟨bC, o', none⟩ := fun o' => hne _ _ fun e => q5 e.symm
    refine ⟨(hbC _).trans hcl.cp, (hbC _).trans hcl.cs, (hbC _).trans hcl.cm, ⟨some ⟨b, o, none⟩, k, ?_, by simpa using hq, ?_⟩, (hbC _).trans hcl.ca, hcl.ok.p, hcl.ok.s, hcl.ok.m, hcl.ok.a⟩
    · rw [hbC, c3]; simp
    · refine ⟨by simpa using hw.1, fun _ => ⟨b, o, rfl, hb, fun j x hx => ?_⟩⟩
      have hcell : ∀ o', o' ≠ o + i * 2 + 1 → (w.setCell ⟨b, o + i * 2 + 1, none⟩ (.string v)).cell? ⟨b, o', none⟩ = w.cell? ⟨b, o', none⟩ := fun o' hn => hs.cell _ (cell_ne _ _ _ hn)
      rw [List.getElem?_set] at hx
      by_cases e : i = j
      · subst e
        rw [if_pos rfl, if_pos hi] at hx
        injection hx with hx
        subst hx
        exact ⟨(hcell _ (by omega)).trans hold.k, World.cell?_setCell_same _ _ _ hold.v, hold.ok.1, hv⟩
      · rw [if_neg e] at hx
        obtain ⟨b2, o2, hA2, _, hx2⟩ := SeqAt.at_ hw hx
        obtain ⟨rfl, rfl⟩ : b = b2 ∧ o = o2 := by injection hA2 with e; injection e with e1 e2; exact ⟨e1, e2⟩
        exact ⟨(hcell _ (by omega)).trans hx2.k, (hcell _ (by omega)).trans hx2.v, hx2.ok⟩
/-- A write is laid into the writes, which lie in a new block now. -/
theorem Own.wrIns (h : Own w1 t Z B bx bC wo) (hb : Below w1.heap.size w1 w) (hc : wo.cls[C]? = some c) {i g cg : Nat} {x : WrM} (hi : i ≤ c.ws.length) (hx : x.k.size ≤ maxLen ∧ x.v.size ≤ maxLen) (hg : w1.heap.size ≤ g) (hg' : g < w.heap.size) (hgf : ∀ o, w.frozen? ⟨g, o, none⟩ = false) (hcap : c.ws.length + 1 ≤ cg) (hlen : c.ws.length + 1 ≤ 4398046511104)
    (hcells : CellsAt w g 0 ((wrsC c.ws).take (i * 2) ++ [.string x.k, .string x.v] ++ (wrsC c.ws).drop (i * 2))) :
    Own (w.setCell ⟨bC, C * 5 + 3, none⟩ (.slice (some ⟨g, 0, none⟩) (c.ws.length + 1) cg)) t Z B bx bC (wo.setC C { c with ws := c.ws.take i ++ x :: c.ws.drop i }) := by
  obtain ⟨bR, rc, wb, x0, hrc, ht, hco⟩ := h.core
  have hC := (List.getElem?_eq_some_iff.1 hc).1
  have hcl := hco.cls C c hc
  obtain ⟨A', k', c3, hq, hw⟩ := hcl.cw
  have hs := set1_same w ⟨bC, C * 5 + 3, none⟩ (.slice (some ⟨g, 0, none⟩) (c.ws.length + 1) cg)
  obtain ⟨m1, m2⟩ := below_mem hb
  have hfr : ∀ b o, b < w1.heap.size → w.frozen? ⟨b, o, none⟩ = w1.frozen? ⟨b, o, none⟩ := (bcell hb).2
  have hne : ∀ b' o', b' < w1.heap.size → b' ≠ bC → (w.setCell ⟨bC, C * 5 + 3, none⟩ (.slice (some ⟨g, 0, none⟩) (c.ws.length + 1) cg)).cell? ⟨b', o', none⟩ = w1.cell? ⟨b', o', none⟩ := fun b' o' hl hn => (hs.cell _ fun e => hn (congrArg Addr.block e)).trans (m2 _ _ hl)
  have hxne : bx ≠ bC := fun e => hco.cB.2.2 (.inl e.symm)
  have hbClt := hco.cB.2.1
  have hcC : ∀ o', o' ≠ C * 5 + 3 → (w.setCell ⟨bC, C * 5 + 3, none⟩ (.slice (some ⟨g, 0, none⟩) (c.ws.length + 1) cg)).cell? ⟨bC, o', none⟩ = w1.cell? ⟨bC, o', none⟩ := fun o' hn => (hs.cell _ (cell_ne _ _ _ hn)).trans (m2 _ _ hbClt)
  have hl' : (c.ws.take i ++ x :: c.ws.drop i).length = c.ws.length + 1 := by simp; omega
  have hgC : g ≠ bC := by omega
  refine ⟨⟨h.xB.1, by rw [hs.sz]; exact m1 _ h.xB.2⟩, h.xZ, fun b e => by rw [hs.sz]; exact m1 _ (h.zlt b e), fun o => ((hs.fr _).trans (hfr _ o h.xB.2)).trans (h.xf o), (hne _ _ h.xB.2 hxne).trans h.x1, ?_, bR, rc, _, (hne _ _ h.xB.2 hxne).trans x0, hrc, ht, hco.writes (g := g) hC (fun b' o' hl hn _ => hne b' o' hl hn) (fun o' ho => hcC o' (by omega)) (fun b o hl => (hs.fr _).trans (hfr b o hl)) (by rw [hs.sz]; exact hb.size) h.xlt (.inr hg) (by rw [hs.sz]; exact hg') (fun o => (hs.fr _).trans (hgf o)) (by have := h.xB; omega) ?_⟩
  · rw [hne _ _ h.xB.2 hxne, h.x2]; simp [WoM.setC]
  · refine ⟨(hcC _ (by omega)).trans hcl.cp, (hcC _ (by omega)).trans hcl.cs, (hcC _ (by omega)).trans hcl.cm, ⟨some ⟨g, 0, none⟩, cg, ?_, by rw [hl']; exact hcap, ?_⟩, (hcC _ (by omega)).trans hcl.ca, hcl.ok.p, hcl.ok.s, hcl.ok.m, hcl.ok.a⟩
    · rw [hl']; exact World.cell?_setCell_same _ _ _ ((m2 _ _ hbClt).trans c3)
    · refine wrsAt_cells (by rw [hl']; exact hlen) (fun y hy => ?_) rfl ?_
      · rcases List.mem_append.1 hy with hy | hy
        · exact SeqAt.wrOk hw y (List.mem_of_mem_take hy)
        · rcases List.mem_cons.1 hy with rfl | hy
          · exact hx
          · exact SeqAt.wrOk hw y (List.mem_of_mem_drop hy)
      · rw [wrsC_ins]
        exact hcells.keep fun k => hs.cell _ fun e => hgC (congrArg Addr.block e)
end
end Go.Proofs.YtambkjnhfejfaacGreatDoor
