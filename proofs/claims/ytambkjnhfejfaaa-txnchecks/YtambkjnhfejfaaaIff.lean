/-
  Plain mathematics: the two ways of saying that a row is valid (P1.2) say the same. Conditions: none.
-/
import Derived.Test.YtambkjnhfejfaaaMem
namespace Go.Proofs.Ytambkjnhfejfaaa
open Go.RowKit

theorem recsFrom_iff (l : List RecM) : ∀ s c : Int, recsFrom s c l = true ↔
    (∀ r ∈ l, recB r = true ∧ s < r.s ∧ (r.c ≠ 0 → c ≤ r.s)) ∧ l.Pairwise (fun a b => a.s < b.s ∧ (b.c ≠ 0 → a.c ≤ b.s)) := by
  induction l with
  | nil => simp [recsFrom]
  | cons r l ih =>
    intro s c
    simp only [recsFrom, Bool.and_eq_true, decide_eq_true_eq, ih, List.pairwise_cons, List.mem_cons, forall_eq_or_imp]
    constructor
    · rintro ⟨⟨⟨h1, h2⟩, h3⟩, h4, h5⟩
      have h3' : r.c ≠ 0 → c ≤ r.s := by
        intro h
        simp only [Bool.not_eq_true', Bool.and_eq_false_iff, bne_eq_false_iff_eq, decide_eq_false_iff_not] at h3
        rcases h3 with h3 | h3
        · exact absurd h3 h
        · omega
      refine ⟨⟨⟨h2, h1, h3'⟩, fun x hx => ?_⟩, fun x hx => ?_, h5⟩
      · obtain ⟨a, b, d⟩ := h4 x hx
        exact ⟨a, by omega, fun hc => by have := d hc; split at this <;> omega⟩
      · obtain ⟨a, b, d⟩ := h4 x hx
        exact ⟨b, fun hc => by have := d hc; split at this <;> omega⟩
    · rintro ⟨⟨⟨h2, h1, h3⟩, h4⟩, h5, h6⟩
      refine ⟨⟨⟨h1, h2⟩, ?_⟩, fun x hx => ?_, h6⟩
      · simp only [Bool.not_eq_true', Bool.and_eq_false_iff, bne_eq_false_iff_eq, decide_eq_false_iff_not]
        by_cases hc : r.c = 0
        · exact .inl hc
        · exact .inr (by have := h3 hc; omega)
      · obtain ⟨a, b, d⟩ := h4 x hx
        obtain ⟨e, f⟩ := h5 x hx
        exact ⟨a, e, fun hc => by have := d hc; have := f hc; split <;> omega⟩

/-- What the reference asks of the record with index i. -/
structure RecMay (l : List RecM) (ls : Int) (i : Nat) : Prop where
  time : inB (l.getD i default).s 1 1099511627776 = true
  value : (l.getD i default).v.size ≤ 20
  prev : 0 < i → (l.getD (i - 1) default).s < (l.getD i default).s
  undone : (l.getD i default).c = 0 → (l.getD i default).v.toList.isEmpty = true
  done : (l.getD i default).c ≠ 0 → inB (l.getD i default).c ((l.getD i default).s + 1) 1099511627776 = true
  before : ∀ k, k < i → (l.getD i default).c ≠ 0 → (l.getD k default).c ≤ (l.getD i default).s
  lock : ls ≠ 0 → (l.getD i default).c ≤ ls

theorem isEmpty_size {b : ByteArray} (h : b.toList.isEmpty = true) : b.size = 0 := by
  have h1 : b.toList = [] := by simpa using h
  have h2 : b.toList = b.data.toList := ByteArray.toList_eq b
  rw [h2] at h1
  have : b.data.toList.length = 0 := by rw [h1]; rfl
  simpa using this

theorem recMay_of {l : List RecM} {ls : Int} (h : recsFrom 0 0 l = true) (hl : ls ≠ 0 → ∀ r ∈ l, r.c ≤ ls) {i : Nat} (hi : i < l.length) : RecMay l ls i := by
  obtain ⟨ha, hp⟩ := (recsFrom_iff l 0 0).1 h
  have hg : ∀ j (hj : j < l.length), l.getD j default = l[j] := fun j hj => by simp [List.getD, hj]
  have hm : l.getD i default ∈ l := by rw [hg i hi]; exact List.getElem_mem hi
  obtain ⟨hb, _, _⟩ := ha _ hm
  rw [List.pairwise_iff_getElem] at hp
  simp only [recB, Bool.and_eq_true] at hb
  obtain ⟨ht, hv⟩ := hb
  refine ⟨ht, ?_, fun h0 => ?_, fun hc => ?_, fun hc => ?_, fun k hk hc => ?_, fun h0 => hl h0 _ hm⟩
  · split at hv
    · rw [isEmpty_size hv]; omega
    · simp only [Bool.and_eq_true, decide_eq_true_eq] at hv; exact hv.2
  · have := (hp (i - 1) i (by omega) hi (by omega)).1
    rw [hg _ (by omega), hg _ hi]; exact this
  · rw [if_pos hc] at hv; exact hv
  · rw [if_neg hc] at hv
    simp only [Bool.and_eq_true, decide_eq_true_eq] at hv
    exact inB_true.2 ⟨by omega, hv.1.2⟩
  · rw [hg _ hi] at hc ⊢
    rw [hg _ (by omega)]
    exact (hp k i (by omega) hi hk).2 hc

theorem recs_of_may {l : List RecM} {ls : Int} (h : ∀ i, i < l.length → RecMay l ls i) : recsFrom 0 0 l = true := by
  rw [recsFrom_iff]
  have hg : ∀ j (hj : j < l.length), l.getD j default = l[j] := fun j hj => by simp [List.getD, hj]
  refine ⟨fun r hr => ?_, ?_⟩
  · obtain ⟨i, hi, rfl⟩ := List.getElem_of_mem hr
    have M := h i hi
    have ht := inB_true.1 M.time
    rw [hg i hi] at ht
    refine ⟨?_, by omega, fun _ => by omega⟩
    have t := M.time; have v := M.value; have u := M.undone; have d := M.done
    rw [hg i hi] at t v u d
    simp only [recB, t, Bool.true_and]
    split
    · exact u ‹_›
    · have := inB_true.1 (d ‹_›)
      simp only [Bool.and_eq_true, decide_eq_true_eq]
      exact ⟨⟨by omega, this.2⟩, v⟩
  · rw [List.pairwise_iff_getElem]
    intro i j hi hj hij
    refine ⟨?_, fun hc => ?_⟩
    · have key : ∀ d, i + d + 1 < l.length → (l.getD i default).s < (l.getD (i + d + 1) default).s := by
        intro d
        induction d with
        | zero => intro hd; exact (h (i + 1) hd).prev (by omega)
        | succ d ih =>
          intro hd
          have h1 := ih (by omega)
          have h2 := (h (i + (d + 1) + 1) hd).prev (by omega)
          have e : i + (d + 1) + 1 - 1 = i + d + 1 := by omega
          rw [e] at h2
          exact Int.lt_trans h1 h2
      have := key (j - i - 1) (by omega)
      rw [show i + (j - i - 1) + 1 = j by omega, hg _ hi, hg _ hj] at this
      exact this
    · have := (h j hj).before i hij (by rw [hg _ hj]; exact hc)
      rw [hg _ hi, hg _ hj] at this
      exact this

theorem hasRec_false {st : Int} {l : List RecM} : hasRec st l = false ↔ ∀ r ∈ l, r.s ≠ st := by
  unfold hasRec firstOf
  rw [Option.isSome_eq_false_iff, Option.isNone_iff_eq_none, List.find?_eq_none]
  simp

/-- What the reference asks of a row. -/
structure RowMay (key : ByteArray) (ls : Int) (lp val : ByteArray) (l : List RecM) : Prop where
  key : keyB key = true
  value : val.size ≤ 20
  free : ls = 0 → lp.toList.isEmpty = true ∧ val.toList.isEmpty = true
  held : ls ≠ 0 → hasRec ls l = false ∧ inB ls 1 1099511627776 = true ∧ keyB lp = true
  room : (l.length : Int) ≤ roomOf ls
  recs : ∀ i, i < l.length → RecMay l ls i

theorem rowB_iff (key : ByteArray) (ls : Int) (lp val : ByteArray) (l : List RecM) : rowB key ls lp val l = true ↔ RowMay key ls lp val l := by
  simp only [rowB, Bool.and_eq_true, decide_eq_true_eq]
  constructor
  · rintro ⟨⟨⟨h1, h2⟩, h3⟩, h4⟩
    by_cases h0 : ls = 0
    · rw [lockB, if_pos h0, Bool.and_eq_true] at h4
      exact ⟨h1, by rw [isEmpty_size h4.2]; omega, fun _ => h4, fun h => absurd h0 h, h2, fun i hi => recMay_of h3 (fun h => absurd h0 h) hi⟩
    · rw [lockB, if_neg h0] at h4
      simp only [Bool.and_eq_true, decide_eq_true_eq, lastIx_neg, Bool.or_eq_false_iff, decide_eq_false_iff_not, beq_eq_false_iff_ne] at h4
      obtain ⟨⟨⟨a, b⟩, d⟩, e⟩ := h4
      exact ⟨h1, d, fun h => absurd h h0, fun _ => ⟨hasRec_false.2 fun r hr => (e r hr).1, a, b⟩, h2, fun i hi => recMay_of h3 (fun _ r hr => by have := (e r hr).2; omega) hi⟩
  · rintro ⟨h1, h2, h3, h4, h5, h6⟩
    refine ⟨⟨⟨h1, h5⟩, recs_of_may h6⟩, ?_⟩
    by_cases h0 : ls = 0
    · rw [lockB, if_pos h0, Bool.and_eq_true]; exact h3 h0
    · rw [lockB, if_neg h0]
      simp only [Bool.and_eq_true, decide_eq_true_eq, lastIx_neg, Bool.or_eq_false_iff, decide_eq_false_iff_not, beq_eq_false_iff_ne]
      obtain ⟨a, b, d⟩ := h4 h0
      refine ⟨⟨⟨b, d⟩, h2⟩, fun r hr => ⟨hasRec_false.1 a r hr, ?_⟩⟩
      obtain ⟨i, hi, rfl⟩ := List.getElem_of_mem hr
      have := (h6 i hi).lock h0
      have hg : l.getD i default = l[i] := by simp [List.getD, hi]
      rw [hg] at this; omega
theorem rowB_no {key : ByteArray} {ls : Int} {lp val : ByteArray} {l : List RecM} (h : ¬ RowMay key ls lp val l) : rowB key ls lp val l = false := by
  cases e : rowB key ls lp val l
  · rfl
  · exact absurd ((rowB_iff ..).1 e) h

section
variable {key : ByteArray} {ls : Int} {lp val : ByteArray} {l : List RecM} {k : Nat} {rs rc : Int} {rv : ByteArray}
theorem recMay_mk (HR : (⟨rs, rc, rv⟩ : RecM) = l.getD k default) (q1 : inB rs 1 1099511627776 = true) (q2 : rv.size ≤ 20) (q3 : 0 < k → (l.getD (k - 1) default).s < rs) (q4 : rc = 0 → rv.toList.isEmpty = true)
    (q5 : rc ≠ 0 → inB rc (rs + 1) 1099511627776 = true) (q6 : ∀ j, j < k → rc ≠ 0 → (l.getD j default).c ≤ rs) (q7 : ls ≠ 0 → rc ≤ ls) : RecMay l ls k :=
  ⟨by rw [← HR]; exact q1, by rw [← HR]; exact q2, by rw [← HR]; exact q3, by rw [← HR]; exact q4, by rw [← HR]; exact q5, by rw [← HR]; exact q6, by rw [← HR]; exact q7⟩
theorem no_time (hm : k < l.length) (HR : (⟨rs, rc, rv⟩ : RecM) = l.getD k default) (h : inB rs 1 1099511627776 = false) : rowB key ls lp val l = false :=
  rowB_no fun M => by have := (M.recs k hm).time; rw [← HR, h] at this; cases this
theorem no_value (hm : k < l.length) (HR : (⟨rs, rc, rv⟩ : RecM) = l.getD k default) (h : 20 < rv.size) : rowB key ls lp val l = false :=
  rowB_no fun M => by have := (M.recs k hm).value; rw [← HR] at this; simp only at this; omega
theorem no_prev (hm : k < l.length) (HR : (⟨rs, rc, rv⟩ : RecM) = l.getD k default) (h0 : 0 < k) (h : rs ≤ (l.getD (k - 1) default).s) : rowB key ls lp val l = false :=
  rowB_no fun M => by have := (M.recs k hm).prev h0; rw [← HR] at this; simp only at this; omega
theorem no_undone (hm : k < l.length) (HR : (⟨rs, rc, rv⟩ : RecM) = l.getD k default) (h0 : rc = 0) (h : rv.toList.isEmpty = false) : rowB key ls lp val l = false :=
  rowB_no fun M => by have := (M.recs k hm).undone (by rw [← HR]; exact h0); rw [← HR, h] at this; cases this
theorem no_done (hm : k < l.length) (HR : (⟨rs, rc, rv⟩ : RecM) = l.getD k default) (h0 : rc ≠ 0) (h : inB rc (rs + 1) 1099511627776 = false) : rowB key ls lp val l = false :=
  rowB_no fun M => by have := (M.recs k hm).done (by rw [← HR]; exact h0); rw [← HR, h] at this; cases this
theorem no_before (hm : k < l.length) (HR : (⟨rs, rc, rv⟩ : RecM) = l.getD k default) {j : Nat} (hj : j < k) (h0 : rc ≠ 0) (h : rs < (l.getD j default).c) : rowB key ls lp val l = false :=
  rowB_no fun M => by have := (M.recs k hm).before j hj (by rw [← HR]; exact h0); rw [← HR] at this; simp only at this; omega
theorem no_lock (hm : k < l.length) (HR : (⟨rs, rc, rv⟩ : RecM) = l.getD k default) (h0 : ls ≠ 0) (h : ls < rc) : rowB key ls lp val l = false :=
  rowB_no fun M => by have := (M.recs k hm).lock h0; rw [← HR] at this; simp only at this; omega
theorem yes_of (a : keyB key = true) (b : val.size ≤ 20) (c : ls = 0 → lp.toList.isEmpty = true ∧ val.toList.isEmpty = true) (d : ls ≠ 0 → hasRec ls l = false ∧ inB ls 1 1099511627776 = true ∧ keyB lp = true) (e : (l.length : Int) ≤ roomOf ls)
    (f : ∀ i, i < l.length → RecMay l ls i) : rowB key ls lp val l = true := (rowB_iff ..).2 ⟨a, b, c, d, e, f⟩
end
end Go.Proofs.Ytambkjnhfejfaaa
