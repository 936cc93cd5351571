/-
  Contracts of functions of the program and words for memory, several texts in one: BestPure, KKeep3. Conditions: those stated with each.
-/
import Derived.Test.YtambkjnhfejfaabDoorG31
namespace Go.Proofs.YtambkjnhfejfaabDoor
open Go.RowKit

theorem lastD_snoc (l : List RecM) (x d : RecM) : (l ++ [x]).getLastD d = x := by simp [List.getLastD_eq_getLast?]
def zeroRec : RecM := ⟨0, 0, ⟨#[]⟩⟩
theorem bestUpto_eq (at_ : Int) (l : List RecM) : ∀ k, k ≤ l.length → bestUpto at_ l k = ((l.take k).filter (upTo at_)).getLastD zeroRec
  | 0, _ => rfl
  | k + 1, h => by
    have ih := bestUpto_eq at_ l k (by omega)
    have e : l.take (k + 1) = l.take k ++ [l.getD k default] := by rw [List.take_succ_eq_append_getElem (by omega), getD_get (by omega)]
    rw [e, List.filter_append]
    simp only [bestUpto]
    by_cases hu : upTo at_ (l.getD k default) = true
    · rw [if_pos hu, List.filter_cons_of_pos hu, List.filter_nil, lastD_snoc]
    · rw [if_neg hu, List.filter_cons_of_neg hu, List.filter_nil, List.append_nil]; exact ih
theorem bestOf_eq (at_ : Int) (l : List RecM) : bestOf at_ l = (l.filter (upTo at_)).getLastD zeroRec := by
  have := bestUpto_eq at_ l l.length (Nat.le_refl _)
  rwa [List.take_length] at this
/-- A record that is not read. -/
theorem best_old {l : List RecM} {x : RecM} {at_ : Int} (h : recsFrom 0 0 l = true) (hn : hasRec x.s l = false) (hu : upTo at_ x = false) : bestOf at_ (endRec l x) = bestOf at_ l := by
  rw [← ins_eq_end h x hn, bestOf_eq, bestOf_eq]
  unfold insRec
  rw [List.filter_append, List.filter_append, List.filter_cons_of_neg (by rw [hu]; decide), List.filter_nil, List.append_nil, ← List.filter_append, List.take_append_drop]
/-- A record behind all others. -/
theorem best_new {l : List RecM} {x : RecM} {at_ : Int} (h : recsFrom 0 0 l = true) (hc : ∀ r ∈ l, r.c ≤ x.s) (hu : upTo at_ x = true) : bestOf at_ (endRec l x) = x := by
  rw [bestOf_eq]
  unfold endRec
  have e : (l.filter (fun y => decide (x.s < y.s))).filter (upTo at_) = [] := by
    rw [List.filter_eq_nil_iff]
    intro y hy hu'
    obtain ⟨hy, hlt⟩ := List.mem_filter.1 hy
    have hlt : x.s < y.s := by simpa using hlt
    simp only [upTo, Bool.and_eq_true, bne_iff_ne, ne_eq] at hu'
    have h1 := (recB_parts (((recsOk_iff _).1 h).1 y hy)).2.2 hu'.1
    have := hc y hy
    omega
  rw [List.filter_append, e, List.append_nil, List.filter_append, List.filter_cons_of_pos hu, List.filter_nil, lastD_snoc]
theorem first_end (l : List RecM) (x : RecM) : firstOf x.s (endRec l x) = some x := by
  unfold firstOf endRec
  rw [List.append_assoc, List.find?_append, List.find?_eq_none.2 (fun y hy => by
    have := (List.mem_filter.1 hy).2
    have : y.s < x.s := by simpa using this
    simp; omega)]
  simp
theorem st_end {ls : Int} (l : List RecM) (x : RecM) (h : ¬ ls = x.s) : stOf ls x.s (endRec l x) = if x.c = 0 then 3 else 2 := stOf_at h (first_end l x)
end Go.Proofs.YtambkjnhfejfaabDoor

namespace Go.Proofs.YtambkjnhfejfaabDoor
open Go.RowKit

theorem row_recs {r : RowM} (h : r.ok = true) : recsFrom 0 0 r.recs = true := (rowB_parts.1 (show rowB r.key r.ls r.lp r.val r.recs = true from h)).2.2.1
theorem row_locked {r : RowM} (h : r.ok = true) (h0 : r.ls ≠ 0) : inB r.ls 1 1099511627776 = true ∧ ∀ x ∈ r.recs, x.s ≠ r.ls ∧ x.c ≤ r.ls := by
  have := (lockB_iff h0).1 (rowB_parts.1 (show rowB r.key r.ls r.lp r.val r.recs = true from h)).2.2.2
  exact ⟨this.1, this.2.2.2⟩
theorem readA_free {r : RowM} {t : Int} (h : inB r.ls 1 t = false) : readA r t = ⟨0, decide (0 < (bestOf t r.recs).c), (bestOf t r.recs).v, 0, 0⟩ := by rw [readA, if_neg (by rw [h]; decide)]
theorem readA_code {r : RowM} {t : Int} (h : (readA r t).code = 0) : inB r.ls 1 t = false := by
  unfold readA at h
  split at h
  · exact absurd h (by decide)
  · rename_i h'; simpa using h'
section
variable {r : RowM} {k : Nat} {s t : Int}
theorem undo_err (hk : RowKeep k r) (h40 : k ≤ 40) (hs : inB s 1 1099511627776 = true) (h : (undoOp s r).2 ≠ 0) : stOf r.ls s r.recs = 2 ∧ (undoOp s r).2 = 6 := by
  have hok : rowB r.key r.ls r.lp r.val r.recs = true := hk.ok
  have hroom : (99 : Int) ≤ roomOf r.ls := (roomOf_bd r.ls).1
  have hl := hk.len
  unfold undoOp at h ⊢
  by_cases e : undoE r.key r.ls r.lp r.val r.recs s = 0
  · rw [if_pos e] at h; exact absurd rfl h
  · rw [if_neg e]
    unfold undoE at e ⊢
    rw [if_neg (by rw [hok]; decide), if_neg (by rw [hs]; decide)] at e ⊢
    by_cases h2 : stOf r.ls s r.recs = 2
    · rw [if_pos h2]; exact ⟨h2, rfl⟩
    · exfalso
      rw [if_neg h2] at e
      split at e
      · exact e rfl
      · split at e
        · exact e rfl
        · rw [if_neg (by omega)] at e; exact e rfl
theorem undo_again (hok : r.ok = true) (hs : inB s 1 1099511627776 = true) (h3 : stOf r.ls s r.recs = 3) : undoOp s r = (r, 0) := by
  have e : undoE r.key r.ls r.lp r.val r.recs s = 0 := by
    unfold undoE
    rw [if_neg (by rw [show rowB r.key r.ls r.lp r.val r.recs = true from hok]; decide), if_neg (by rw [hs]; decide), if_neg (by rw [h3]; decide), if_pos h3]
  unfold undoOp
  rw [if_pos e, undoneR, if_pos h3]
/-- Undone: by now, and for good; what is read stays. -/
theorem undo_stays (hok : r.ok = true) (hs : inB s 1 1099511627776 = true) (h : (undoOp s r).2 = 0) :
    (undoOp s r).1.ok = true ∧ undoOp s (undoOp s r).1 = ((undoOp s r).1, 0) ∧ stOf (undoOp s r).1.ls s (undoOp s r).1.recs = 3 ∧ ((readA r t).code = 0 → readA (undoOp s r).1 t = readA r t) := by
  obtain ⟨he, hf⟩ := undo_fst h
  have hg := (undoOp_good s r hok h).1
  have hr := row_recs hok
  have key : stOf (undoOp s r).1.ls s (undoOp s r).1.recs = 3 ∧ ((readA r t).code = 0 → readA (undoOp s r).1 t = readA r t) := by
    rw [hf]
    unfold undoneR
    by_cases h3 : stOf r.ls s r.recs = 3
    · rw [if_pos h3]; exact ⟨h3, fun _ => rfl⟩
    · rw [if_neg h3]
      have hs1 := (inB_true.1 hs).1
      by_cases h1 : stOf r.ls s r.recs = 1
      · rw [if_pos h1]
        have hls := stOf_one.1 h1
        have hn : hasRec s r.recs = false := by rw [← hls]; exact (lock_free hok (by omega)).1
        refine ⟨(st_end (ls := 0) r.recs ⟨s, 0, emptyS⟩ (show ¬ (0 : Int) = s by omega)).trans (if_pos rfl), fun hc => ?_⟩
        have hfree := readA_code hc
        rw [readA_free hfree, readA_free (show inB (0 : Int) 1 t = false from inB_false.2 (.inl (by decide)))]
        dsimp only
        rw [best_old hr (x := ⟨s, 0, emptyS⟩) hn rfl]
      · rw [if_neg h1]
        have hls : ¬ r.ls = s := fun e => h1 (stOf_one.2 e)
        have h2 : stOf r.ls s r.recs ≠ 2 := by
          intro h2
          unfold undoE at he
          rw [if_neg (by rw [show rowB r.key r.ls r.lp r.val r.recs = true from hok]; decide), if_neg (by rw [hs]; decide), if_pos h2] at he
          exact absurd he (by decide)
        have hn : hasRec s r.recs = false := by
          refine (stOf_zero hls).1 ?_
          unfold stOf at h1 h2 h3 ⊢
          rw [if_neg hls] at h1 h2 h3 ⊢
          by_cases hh : hasRec s r.recs = true
          · rw [if_pos hh] at h2 h3
            split at h3
            · exact absurd rfl h3
            · rename_i hc; rw [if_neg hc] at h2; exact absurd rfl h2
          · rw [if_neg hh]
        refine ⟨(st_end (ls := r.ls) r.recs ⟨s, 0, emptyS⟩ hls).trans (if_pos rfl), fun hc => ?_⟩
        have hfree := readA_code hc
        rw [readA_free hfree, readA_free (r := ⟨r.key, r.ls, r.lp, r.val, endRec r.recs ⟨s, 0, emptyS⟩⟩) hfree]
        dsimp only
        rw [best_old hr (x := ⟨s, 0, emptyS⟩) hn rfl]
  exact ⟨hg, undo_again hg hs key.1, key.1, key.2⟩

theorem lock_zero_parts {pk pv : ByteArray} (hok : r.ok = true) (h : (lockOp s pk pv r).2 = 0) : inB s 1 1099511627776 = true ∧ r.ls = 0 ∧ (∀ x ∈ r.recs, x.c ≤ s) ∧ hasRec s r.recs = false ∧ pv.size ≤ 20 ∧ keyB pk = true ∧ r.recs.length < 100 := by
  obtain ⟨he, hf⟩ := lock_fst h
  have hg := (lockOp_good s pk pv r hok h).1
  rw [hf] at hg
  have hr : rowB r.key r.ls r.lp r.val r.recs = true := hok
  unfold lockE at he
  rw [if_neg (by rw [hr]; decide)] at he
  split at he
  · omega
  rename_i q1
  split at he
  · omega
  rename_i q2
  split at he
  · omega
  rename_i q3
  split at he
  · omega
  split at he
  · omega
  rename_i q5
  split at he
  · omega
  rename_i q6
  split at he
  · omega
  have q1' : inB s 1 1099511627776 = true := by simpa using q1
  have hs1 := (inB_true.1 q1').1
  exact ⟨q1', by simpa using q6, lateB_false.1 (by simpa using q5), (lock_free (show rowB r.key s pk pv r.recs = true from hg) (by omega)).1, by omega, by simpa using q2, by omega⟩
/-- The lock of a transaction, committed. -/
theorem commit_held {pk pv : ByteArray} {c : Int} (hok : (⟨r.key, s, pk, pv, r.recs⟩ : RowM).ok = true) (hs : inB s 1 1099511627776 = true) (hc : inB c (s + 1) 1099511627776 = true) : commitOp s c ⟨r.key, s, pk, pv, r.recs⟩ = (⟨r.key, 0, emptyS, emptyS, endRec r.recs ⟨s, c, pv⟩⟩, 0) := by
  have e : commitE r.key s pk pv r.recs s c = 0 := by
    unfold commitE
    rw [if_neg (by rw [show rowB r.key s pk pv r.recs = true from hok]; decide), if_neg (by rw [hs]; decide), if_neg (by rw [hc]; decide), if_neg (by rw [stOf_one.2 rfl]; decide), if_neg (by simp)]
  unfold commitOp
  exact if_pos e
theorem read_new {l : List RecM} {key v : ByteArray} {c : Int} (h : recsFrom 0 0 l = true) (hc : ∀ x ∈ l, x.c ≤ s) (h1 : 0 < c) : readA ⟨key, 0, emptyS, emptyS, endRec l ⟨s, c, v⟩⟩ c = ⟨0, true, v, 0, 0⟩ := by
  rw [readA_free (show inB (0 : Int) 1 c = false from inB_false.2 (.inl (by decide)))]
  dsimp only
  rw [best_new h (x := ⟨s, c, v⟩) hc (by simp [upTo]; omega)]
  simp [h1]
theorem read_same {l : List RecM} {key key' lp val : ByteArray} {ls c : Int} {v : ByteArray} (h : recsFrom 0 0 l = true) (hn : hasRec s l = false) (hf : inB ls 1 t = false) (hc : t < c) : readA ⟨key, 0, emptyS, emptyS, endRec l ⟨s, c, v⟩⟩ t = readA ⟨key', ls, lp, val, l⟩ t := by
  rw [readA_free (r := ⟨key', ls, lp, val, l⟩) hf, readA_free (show inB (0 : Int) 1 t = false from inB_false.2 (.inl (by decide)))]
  dsimp only
  rw [best_old h (x := ⟨s, c, v⟩) hn (by simp [upTo]; omega)]
/-- ReadsStay, in these words. -/
theorem reads_stay {pk pv : ByteArray} (hok : r.ok = true) (hts : t < s) (hs' : s < 1099511627776) (hf : (readA r t).code = 0) (h : (lockOp s pk pv r).2 = 0) :
    ∃ last, commitOp s (s + 1) (lockOp s pk pv r).1 = (last, 0) ∧ last.ok = true ∧ (lockOp s pk pv r).1.ok = true ∧ readA (lockOp s pk pv r).1 t = readA r t ∧ readA last t = readA r t ∧ readA last (s + 1) = ⟨0, true, pv, 0, 0⟩ ∧ (readA (lockOp s pk pv r).1 s).code = 7 := by
  obtain ⟨hs, hls, hc, hn, _⟩ := lock_zero_parts hok h
  have hg := (lockOp_good s pk pv r hok h).1
  have hfst := (lock_fst h).2
  have hr := row_recs hok
  have hfree := readA_code hf
  rw [hfst] at hg ⊢
  have hcm := commit_held (c := s + 1) hg hs (inB_true.2 ⟨by omega, by omega⟩)
  have hgood := (commitOp_good s (s + 1) _ hg (by rw [hcm])).1
  refine ⟨_, hcm, by rw [hcm] at hgood; exact hgood, hg, ?_, ?_, read_new hr hc (by have := (inB_true.1 hs).1; omega), ?_⟩
  · rw [readA_free hfree, readA_free (r := ⟨r.key, s, pk, pv, r.recs⟩) (inB_false.2 (.inr hts))]
  · exact read_same (key' := r.key) (lp := r.lp) (val := r.val) hr hn hfree (by omega)
  · rw [readA, if_pos (inB_true.2 ⟨by have := (inB_true.1 hs).1; exact this, Int.le_refl _⟩)]; rfl
/-- LocksHold: why a lock is not given. -/
theorem lock_err {pk pv : ByteArray} (hk : RowKeep k r) (h40 : k ≤ 40) (hs : inB s 1 1099511627776 = true) (hp : keyB pk = true) (hv : pv.size ≤ 20) (h : (lockOp s pk pv r).2 ≠ 0) :
    (stOf r.ls s r.recs = 3 ∧ (lockOp s pk pv r).2 = 9) ∨ (stOf r.ls s r.recs ≠ 3 ∧ lateB s r.recs = true ∧ (lockOp s pk pv r).2 = 8) ∨ (stOf r.ls s r.recs ≠ 3 ∧ lateB s r.recs = false ∧ r.ls ≠ 0 ∧ (lockOp s pk pv r).2 = 7) := by
  have hok : rowB r.key r.ls r.lp r.val r.recs = true := hk.ok
  have hl := hk.len
  have e2 : (lockOp s pk pv r).2 = lockE r.key r.ls r.lp r.val r.recs s pk pv := by
    unfold lockOp
    split
    · rename_i e; exact e.symm
    · rfl
  rw [e2] at h ⊢
  unfold lockE at h ⊢
  rw [if_neg (by rw [hok]; decide), if_neg (by rw [hs]; decide), if_neg (by rw [hp]; decide), if_neg (by omega)] at h ⊢
  by_cases h3 : stOf r.ls s r.recs = 3
  · rw [if_pos h3]; exact .inl ⟨h3, rfl⟩
  · rw [if_neg h3] at h ⊢
    by_cases h8 : lateB s r.recs = true
    · rw [if_pos h8]; exact .inr (.inl ⟨h3, h8, rfl⟩)
    · rw [if_neg h8] at h ⊢
      by_cases h7 : r.ls = 0
      · rw [if_neg (by simpa using h7), if_neg (by omega)] at h; exact absurd rfl h
      · rw [if_pos h7]; exact .inr (.inr ⟨h3, by simpa using h8, h7, rfl⟩)
/-- LocksHold: a lock that is given. -/
theorem lock_holds {pk pv po : ByteArray} {p : Int} (hk : RowKeep k r) (hs60 : s ≤ 60) (hp : keyB pk = true) (hvo : po.size ≤ 20) (hp0 : 0 ≤ p) (hp50 : p < 50) (h : (lockOp s pk pv r).2 = 0) :
    ∃ a b c, lockOp s pk pv r = (a, 0) ∧ a.ok = true ∧ lockOp (100 + p) pk po a = (default, 7) ∧ stOf a.ls s a.recs = 1 ∧ commitOp s (s + 5) a = (b, 0) ∧ b.ok = true ∧ undoOp s a = (c, 0) ∧ c.ok = true ∧ readA b (s + 5) = ⟨0, true, pv, 0, 0⟩ ∧ undoOp s b = (default, 6) ∧ lockOp s pk pv c = (default, 9) ∧ commitOp s (s + 5) c = (default, 9) := by
  obtain ⟨hs, hls, hc, hn, hpv, _, _⟩ := lock_zero_parts hk.ok h
  have hs1 := (inB_true.1 hs).1
  have hg := (lockOp_good s pk pv r hk.ok h).1
  have hfst : lockOp s pk pv r = (⟨r.key, s, pk, pv, r.recs⟩, 0) := Prod.ext (lock_fst h).2 h
  have hr := row_recs hk.ok
  rw [hfst] at hg
  have hg' : rowB r.key s pk pv r.recs = true := hg
  have hcm := commit_held (c := s + 5) hg hs (inB_true.2 ⟨by omega, by omega⟩)
  have hb := (commitOp_good s (s + 5) _ hg (by rw [hcm])).1
  rw [hcm] at hb
  have hun : undoOp s ⟨r.key, s, pk, pv, r.recs⟩ = (⟨r.key, 0, emptyS, emptyS, endRec r.recs ⟨s, 0, emptyS⟩⟩, 0) := by
    have e : undoE r.key s pk pv r.recs s = 0 := by
      unfold undoE
      rw [if_neg (by rw [hg']; decide), if_neg (by rw [hs]; decide), if_neg (by rw [stOf_one.2 rfl]; decide), if_neg (by rw [stOf_one.2 rfl]; decide), if_pos rfl]
    unfold undoOp
    rw [if_pos e]
    unfold undoneR
    rw [if_neg (by rw [stOf_one.2 rfl]; decide), if_pos (stOf_one.2 rfl)]
  have hcg := (undoOp_good s _ hg (by rw [hun])).1
  rw [hun] at hcg
  have st3 : stOf 0 s (endRec r.recs ⟨s, 0, emptyS⟩) = 3 := (st_end (ls := 0) r.recs ⟨s, 0, emptyS⟩ (show ¬ (0 : Int) = s by omega)).trans (if_pos rfl)
  have st2 : stOf 0 s (endRec r.recs ⟨s, s + 5, pv⟩) = 2 := (st_end (ls := 0) r.recs ⟨s, s + 5, pv⟩ (show ¬ (0 : Int) = s by omega)).trans (if_neg (show ¬ s + 5 = 0 by omega))
  refine ⟨_, _, _, hfst, hg, ?_, stOf_one.2 rfl, hcm, hb, hun, hcg, read_new hr hc (by omega), ?_, ?_, ?_⟩
  · have e : lockE r.key s pk pv r.recs (100 + p) pk po = 7 := by
      unfold lockE
      have h3 : stOf s (100 + p) r.recs ≠ 3 := by
        have : hasRec (100 + p) r.recs = false := hasRec_false.2 fun x hx => by have := (hk.recs x hx).1; omega
        rw [(stOf_zero (by omega)).2 this]; decide
      have h8 : lateB (100 + p) r.recs = false := lateB_false.2 fun x hx => by have := (hk.recs x hx).2; omega
      rw [if_neg (by rw [hg']; decide), if_neg (by rw [inB_true.2 ⟨by omega, by omega⟩]; decide), if_neg (by rw [hp]; decide), if_neg (by omega), if_neg h3, if_neg (by rw [h8]; decide), if_pos (by omega)]
    unfold lockOp
    rw [if_neg (show ¬ lockE r.key s pk pv r.recs (100 + p) pk po = 0 by rw [e]; decide)]
    exact congrArg _ e
  · have e : undoE r.key 0 emptyS emptyS (endRec r.recs ⟨s, s + 5, pv⟩) s = 6 := by
      unfold undoE
      rw [if_neg (by rw [show rowB r.key 0 emptyS emptyS (endRec r.recs ⟨s, s + 5, pv⟩) = true from hb]; decide), if_neg (by rw [hs]; decide), if_pos st2]
    unfold undoOp
    rw [if_neg (show ¬ undoE r.key 0 emptyS emptyS (endRec r.recs ⟨s, s + 5, pv⟩) s = 0 by rw [e]; decide)]
    exact congrArg _ e
  · have e : lockE r.key 0 emptyS emptyS (endRec r.recs ⟨s, 0, emptyS⟩) s pk pv = 9 := by
      unfold lockE
      rw [if_neg (by rw [show rowB r.key 0 emptyS emptyS (endRec r.recs ⟨s, 0, emptyS⟩) = true from hcg]; decide), if_neg (by rw [hs]; decide), if_neg (by rw [hp]; decide), if_neg (by omega), if_pos st3]
    unfold lockOp
    rw [if_neg (show ¬ lockE r.key 0 emptyS emptyS (endRec r.recs ⟨s, 0, emptyS⟩) s pk pv = 0 by rw [e]; decide)]
    exact congrArg _ e
  · have e : commitE r.key 0 emptyS emptyS (endRec r.recs ⟨s, 0, emptyS⟩) s (s + 5) = 9 := by
      unfold commitE
      rw [if_neg (by rw [show rowB r.key 0 emptyS emptyS (endRec r.recs ⟨s, 0, emptyS⟩) = true from hcg]; decide), if_neg (by rw [hs]; decide), if_neg (by rw [inB_true.2 ⟨by omega, by omega⟩]; decide), if_pos st3]
    unfold commitOp
    rw [if_neg (show ¬ commitE r.key 0 emptyS emptyS (endRec r.recs ⟨s, 0, emptyS⟩) s (s + 5) = 0 by rw [e]; decide)]
    exact congrArg _ e
end
end Go.Proofs.YtambkjnhfejfaabDoor
