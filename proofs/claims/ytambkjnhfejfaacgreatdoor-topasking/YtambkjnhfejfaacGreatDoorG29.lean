/-
  Contracts of functions of the program and words for memory, several texts in one: BestPure, KConcat, KKeep3, GRows, GGood, GWorlds. Conditions: those stated with each.
-/
import Derived.Test.YtambkjnhfejfaacGreatDoorG28
namespace Go.Proofs.YtambkjnhfejfaacGreatDoor
open Go.RowKit

theorem lastD_snoc (l : List RecM) (x d : RecM) : (l ++ [x]).getLastD d = x := by simp [List.getLastD_eq_getLast?]
def zeroRec : RecM := ⟨0, 0, ⟨#[]⟩⟩
theorem bestUpto_eq (at_ : Int) (l : List RecM) : ∀ k, k ≤ l.length → bestUpto at_ l k = ((l.take k).filter (upTo at_)).getLastD zeroRec
  | 0, _ => rfl
  | k + 1, h => by
    have ih := bestUpto_eq at_ l k (by omega)
    have e : l.take (k + 1) = l.take k ++ [l.getD k default] := by rw [List.take_succ_eq_append_getElem (by omega), getD_get (by omega)]
    rw [e, List.filter_append]
    simp only [bestUpto]
    by_cases hu : upTo at_ (l.getD k default) = true
    · rw [if_pos hu, List.filter_cons_of_pos hu, List.filter_nil, lastD_snoc]
    · rw [if_neg hu, List.filter_cons_of_neg hu, List.filter_nil, List.append_nil]; exact ih
theorem bestOf_eq (at_ : Int) (l : List RecM) : bestOf at_ l = (l.filter (upTo at_)).getLastD zeroRec := by
  have := bestUpto_eq at_ l l.length (Nat.le_refl _)
  rwa [List.take_length] at this
/-- A record that is not read. -/
theorem best_old {l : List RecM} {x : RecM} {at_ : Int} (h : recsFrom 0 0 l = true) (hn : hasRec x.s l = false) (hu : upTo at_ x = false) : bestOf at_ (endRec l x) = bestOf at_ l := by
  rw [← ins_eq_end h x hn, bestOf_eq, bestOf_eq]
  unfold insRec
  rw [List.filter_append, List.filter_append, List.filter_cons_of_neg (by rw [hu]; decide), List.filter_nil, List.append_nil, ← List.filter_append, List.take_append_drop]
/-- A record behind all others. -/
theorem best_new {l : List RecM} {x : RecM} {at_ : Int} (h : recsFrom 0 0 l = true) (hc : ∀ r ∈ l, r.c ≤ x.s) (hu : upTo at_ x = true) : bestOf at_ (endRec l x) = x := by
  rw [bestOf_eq]
  unfold endRec
  have e : (l.filter (fun y => decide (x.s < y.s))).filter (upTo at_) = [] := by
    rw [List.filter_eq_nil_iff]
    intro y hy hu'
    obtain ⟨hy, hlt⟩ := List.mem_filter.1 hy
    have hlt : x.s < y.s := by simpa using hlt
    simp only [upTo, Bool.and_eq_true, bne_iff_ne, ne_eq] at hu'
    have h1 := (recB_parts (((recsOk_iff _).1 h).1 y hy)).2.2 hu'.1
    have := hc y hy
    omega
  rw [List.filter_append, e, List.append_nil, List.filter_append, List.filter_cons_of_pos hu, List.filter_nil, lastD_snoc]
theorem first_end (l : List RecM) (x : RecM) : firstOf x.s (endRec l x) = some x := by
  unfold firstOf endRec
  rw [List.append_assoc, List.find?_append, List.find?_eq_none.2 (fun y hy => by
    have := (List.mem_filter.1 hy).2
    have : y.s < x.s := by simpa using this
    simp; omega)]
  simp
theorem st_end {ls : Int} (l : List RecM) (x : RecM) (h : ¬ ls = x.s) : stOf ls x.s (endRec l x) = if x.c = 0 then 3 else 2 := stOf_at h (first_end l x)
end Go.Proofs.YtambkjnhfejfaacGreatDoor

namespace Go.Proofs.YtambkjnhfejfaacGreatDoor
open Go.RowKit

/-- append(nil, make(S, m)...). -/
theorem run_append_new {P : Program} {t ti ty e : TypeId} {i0 : TypeInfo} {z : Value} (ht : P.underlying t = some (.slice e)) (hti : P.underlying ti = some (.int .i64)) (hi : P.info? e = some i0) (hz : i0.zero = some z) (hs0 : 0 < i0.size) (hb : i0.bytes ≤ 1000)
    (w : World) (m : Nat) (hm0 : 0 < m) (hm : m ≤ 1000) :
    (Builtin.append_ #[t, ti] ty #[.slice none 0 0, .int .i64 m]).run P w =
      .ok (.slice (some ⟨w.heap.size, 0, none⟩) m (grownCap w m 0 e)) (w.drew.alloc (.cells (Builtin.zeroCells z.cells m ++ Builtin.zeroCells z.cells (grownCap w m 0 e - m)) e)) := by
  have h1 : IntKind.i64.wrap (m : Int) = (m : Int) := IntWalk.i64_in _ (by omega)
  have hn2 : ¬ (m = 0) := by omega
  have hnb : (m : Int) * (i0.bytes : Int) ≤ 1000 * 1000 := Int.mul_le_mul (by omega) (by omega) (by omega) (by omega)
  have h48 : ¬ ((281474976710656 : Int) < (m : Int) * (i0.bytes : Int)) := by omega
  have hfit : Builtin.nextslicecap m 0 * i0.bytes ≤ 281474976710656 := growslice_fits (by omega) (by
    have : m * i0.bytes ≤ 1000 * 1000 := Nat.mul_le_mul (by omega) hb
    omega)
  have h48' : ¬ (281474976710656 < Builtin.nextslicecap m 0 * i0.bytes) := by omega
  have h63' : ¬ (9223372036854775807 < (m : Int)) := by omega
  have hms : ¬ (m * i0.size = 0) := by
    intro h
    rcases Nat.mul_eq_zero.1 h with h | h <;> omega
  simp [Builtin.append_, run_underlying ht, run_underlying hti, sizeOf, typeInfo, zeroValue, hi, hz, hn2, h1, h48, h48', h63', Question.forced, newRow, grownCap, asInt, asIntOf, Builtin.firstCells]
  rw [if_neg (by omega)]
  try rw [if_neg hms]
  try rfl

/-- One part of what is joined. -/
structure PartM where
  A : Option Addr
  c : Nat
  l : List ActM
instance : Inhabited PartM := ⟨⟨none, 0, []⟩⟩
def PartAt (w : World) (b o : Nat) (p : PartM) : Prop := w.cell? ⟨b, o, none⟩ = some (.slice p.A p.l.length p.c) ∧ ActsAt w (· < w.heap.size) p.A p.l
abbrev PartsAt (w : World) (A : Option Addr) (l : List PartM) : Prop := SeqAt (· < w.heap.size) 1 100 (PartAt w) A l
theorem SeqAt.parts {w w' : World} {A : Option Addr} {l : List PartM} (h : PartsAt w A l) (hb : Below w.heap.size w w') : PartsAt w' A l :=
  SeqAt.mono h (below_mem hb).1 fun b _ _ _ hb' hx => ⟨((below_mem hb).2 b _ hb').trans hx.1, hx.2.acts (below_mem hb).1 (below_mem hb).2⟩
/-- The acts of parts. -/
def joinM (l : List PartM) : List ActM := l.flatMap PartM.l
theorem join_snoc {l : List PartM} {k : Nat} (hk : k < l.length) : joinM (l.take (k + 1)) = joinM (l.take k) ++ (l.getD k default).l := by
  rw [List.take_succ_eq_append_getElem hk, joinM, joinM, List.flatMap_append]
  simp [List.getD, hk]
theorem join_len (l : List PartM) (k : Nat) : (joinM (l.take k)).length ≤ (joinM l).length := by
  have : joinM l = joinM (l.take k) ++ joinM (l.drop k) := by rw [joinM, joinM, joinM, ← List.flatMap_append, List.take_append_drop]
  rw [this, List.length_append]; omega

/-- append of a part. -/
theorem app_part {ty : TypeId} (W w0 : World) (base c : Nat) (A : Option Addr) (l : List ActM) (p : PartM) (hown : OwnsActs W base (.slice A l.length c) l) (hp : ActsAt W (· < W.heap.size) p.A p.l) (hbd : l.length + p.l.length ≤ 1000) (hbase : base ≤ W.heap.size) (hb : Below base w0 W) :
    ∃ v' w', (Builtin.append_ #[23, 23] ty #[.slice A l.length c, .slice p.A p.l.length p.c]).run Tryz.prog W = .ok v' w' ∧ ∃ A' c', v' = .slice A' (l ++ p.l).length c' ∧ OwnsActs w' base (.slice A' (l ++ p.l).length c') (l ++ p.l) ∧ Below base w0 w' := by
  obtain ⟨i0, hi0, hz0, hz1, hz2⟩ := info_parts act_info
  obtain ⟨v', w', h1, A', c', h2, h3, h4, _⟩ := app_seq (C := actCells) (ty := ty) (bytes := 48) Tryz.underlying23 hi0 hz0 hz1 hz2 rfl W w0 base p.l.length p.c (.slice A l.length c) l p.A p.l _ hown rfl (acts_of hp) (by omega) (by omega) hbase hb
  exact ⟨v', w', h1, A', c', h2, h3, h4⟩
end Go.Proofs.YtambkjnhfejfaacGreatDoor

namespace Go.Proofs.YtambkjnhfejfaacGreatDoor
open Go.RowKit

theorem row_recs {r : RowM} (h : r.ok = true) : recsFrom 0 0 r.recs = true := (rowB_parts.1 (show rowB r.key r.ls r.lp r.val r.recs = true from h)).2.2.1
theorem row_locked {r : RowM} (h : r.ok = true) (h0 : r.ls ≠ 0) : inB r.ls 1 1099511627776 = true ∧ ∀ x ∈ r.recs, x.s ≠ r.ls ∧ x.c ≤ r.ls := by
  have := (lockB_iff h0).1 (rowB_parts.1 (show rowB r.key r.ls r.lp r.val r.recs = true from h)).2.2.2
  exact ⟨this.1, this.2.2.2⟩
theorem readA_free {r : RowM} {t : Int} (h : inB r.ls 1 t = false) : readA r t = ⟨0, decide (0 < (bestOf t r.recs).c), (bestOf t r.recs).v, 0, 0⟩ := by rw [readA, if_neg (by rw [h]; decide)]
theorem readA_code {r : RowM} {t : Int} (h : (readA r t).code = 0) : inB r.ls 1 t = false := by
  unfold readA at h
  split at h
  · exact absurd h (by decide)
  · rename_i h'; simpa using h'
section
variable {r : RowM} {k : Nat} {s t : Int}
theorem undo_err (hk : RowKeep k r) (h40 : k ≤ 40) (hs : inB s 1 1099511627776 = true) (h : (undoOp s r).2 ≠ 0) : stOf r.ls s r.recs = 2 ∧ (undoOp s r).2 = 6 := by
  have hok : rowB r.key r.ls r.lp r.val r.recs = true := hk.ok
  have hroom : (99 : Int) ≤ roomOf r.ls := (roomOf_bd r.ls).1
  have hl := hk.len
  unfold undoOp at h ⊢
  by_cases e : undoE r.key r.ls r.lp r.val r.recs s = 0
  · rw [if_pos e] at h; exact absurd rfl h
  · rw [if_neg e]
    unfold undoE at e ⊢
    rw [if_neg (by rw [hok]; decide), if_neg (by rw [hs]; decide)] at e ⊢
    by_cases h2 : stOf r.ls s r.recs = 2
    · rw [if_pos h2]; exact ⟨h2, rfl⟩
    · exfalso
      rw [if_neg h2] at e
      split at e
      · exact e rfl
      · split at e
        · exact e rfl
        · rw [if_neg (by omega)] at e; exact e rfl
theorem undo_again (hok : r.ok = true) (hs : inB s 1 1099511627776 = true) (h3 : stOf r.ls s r.recs = 3) : undoOp s r = (r, 0) := by
  have e : undoE r.key r.ls r.lp r.val r.recs s = 0 := by
    unfold undoE
    rw [if_neg (by rw [show rowB r.key r.ls r.lp r.val r.recs = true from hok]; decide), if_neg (by rw [hs]; decide), if_neg (by rw [h3]; decide), if_pos h3]
  unfold undoOp
  rw [if_pos e, undoneR, if_pos h3]
/-- Undone: by now, and for good; what is read stays. -/
theorem undo_stays (hok : r.ok = true) (hs : inB s 1 1099511627776 = true) (h : (undoOp s r).2 = 0) :
    (undoOp s r).1.ok = true ∧ undoOp s (undoOp s r).1 = ((undoOp s r).1, 0) ∧ stOf (undoOp s r).1.ls s (undoOp s r).1.recs = 3 ∧ ((readA r t).code = 0 → readA (undoOp s r).1 t = readA r t) := by
  obtain ⟨he, hf⟩ := undo_fst h
  have hg := (undoOp_good s r hok h).1
  have hr := row_recs hok
  have key : stOf (undoOp s r).1.ls s (undoOp s r).1.recs = 3 ∧ ((readA r t).code = 0 → readA (undoOp s r).1 t = readA r t) := by
    rw [hf]
    unfold undoneR
    by_cases h3 : stOf r.ls s r.recs = 3
    · rw [if_pos h3]; exact ⟨h3, fun _ => rfl⟩
    · rw [if_neg h3]
      have hs1 := (inB_true.1 hs).1
      by_cases h1 : stOf r.ls s r.recs = 1
      · rw [if_pos h1]
        have hls := stOf_one.1 h1
        have hn : hasRec s r.recs = false := by rw [← hls]; exact (lock_free hok (by omega)).1
        refine ⟨(st_end (ls := 0) r.recs ⟨s, 0, emptyS⟩ (show ¬ (0 : Int) = s by omega)).trans (if_pos rfl), fun hc => ?_⟩
        have hfree := readA_code hc
        rw [readA_free hfree, readA_free (show inB (0 : Int) 1 t = false from inB_false.2 (.inl (by decide)))]
        dsimp only
        rw [best_old hr (x := ⟨s, 0, emptyS⟩) hn rfl]
      · rw [if_neg h1]
        have hls : ¬ r.ls = s := fun e => h1 (stOf_one.2 e)
        have h2 : stOf r.ls s r.recs ≠ 2 := by
          intro h2
          unfold undoE at he
          rw [if_neg (by rw [show rowB r.key r.ls r.lp r.val r.recs = true from hok]; decide), if_neg (by rw [hs]; decide), if_pos h2] at he
          exact absurd he (by decide)
        have hn : hasRec s r.recs = false := by
          refine (stOf_zero hls).1 ?_
          unfold stOf at h1 h2 h3 ⊢
          rw [if_neg hls] at h1 h2 h3 ⊢
          by_cases hh : hasRec s r.recs = true
          · rw [if_pos hh] at h2 h3
            split at h3
            · exact absurd rfl h3
            · rename_i hc; rw [if_neg hc] at h2; exact absurd rfl h2
          · rw [if_neg hh]
        refine ⟨(st_end (ls := r.ls) r.recs ⟨s, 0, emptyS⟩ hls).trans (if_pos rfl), fun hc => ?_⟩
        have hfree := readA_code hc
        rw [readA_free hfree, readA_free (r := ⟨r.key, r.ls, r.lp, r.val, endRec r.recs ⟨s, 0, emptyS⟩⟩) hfree]
        dsimp only
        rw [best_old hr (x := ⟨s, 0, emptyS⟩) hn rfl]
  exact ⟨hg, undo_again hg hs key.1, key.1, key.2⟩

theorem lock_zero_parts {pk pv : ByteArray} (hok : r.ok = true) (h : (lockOp s pk pv r).2 = 0) : inB s 1 1099511627776 = true ∧ r.ls = 0 ∧ (∀ x ∈ r.recs, x.c ≤ s) ∧ hasRec s r.recs = false ∧ pv.size ≤ 20 ∧ keyB pk = true ∧ r.recs.length < 100 := by
  obtain ⟨he, hf⟩ := lock_fst h
  have hg := (lockOp_good s pk pv r hok h).1
  rw [hf] at hg
  have hr : rowB r.key r.ls r.lp r.val r.recs = true := hok
  unfold lockE at he
  rw [if_neg (by rw [hr]; decide)] at he
  split at he
  · omega
  rename_i q1
  split at he
  · omega
  rename_i q2
  split at he
  · omega
  rename_i q3
  split at he
  · omega
  split at he
  · omega
  rename_i q5
  split at he
  · omega
  rename_i q6
  split at he
  · omega
  have q1' : inB s 1 1099511627776 = true := by simpa using q1
  have hs1 := (inB_true.1 q1').1
  exact ⟨q1', by simpa using q6, lateB_false.1 (by simpa using q5), (lock_free (show rowB r.key s pk pv r.recs = true from hg) (by omega)).1, by omega, by simpa using q2, by omega⟩
/-- The lock of a transaction, committed. -/
theorem commit_held {pk pv : ByteArray} {c : Int} (hok : (⟨r.key, s, pk, pv, r.recs⟩ : RowM).ok = true) (hs : inB s 1 1099511627776 = true) (hc : inB c (s + 1) 1099511627776 = true) : commitOp s c ⟨r.key, s, pk, pv, r.recs⟩ = (⟨r.key, 0, emptyS, emptyS, endRec r.recs ⟨s, c, pv⟩⟩, 0) := by
  have e : commitE r.key s pk pv r.recs s c = 0 := by
    unfold commitE
    rw [if_neg (by rw [show rowB r.key s pk pv r.recs = true from hok]; decide), if_neg (by rw [hs]; decide), if_neg (by rw [hc]; decide), if_neg (by rw [stOf_one.2 rfl]; decide), if_neg (by simp)]
  unfold commitOp
  exact if_pos e
theorem read_new {l : List RecM} {key v : ByteArray} {c : Int} (h : recsFrom 0 0 l = true) (hc : ∀ x ∈ l, x.c ≤ s) (h1 : 0 < c) : readA ⟨key, 0, emptyS, emptyS, endRec l ⟨s, c, v⟩⟩ c = ⟨0, true, v, 0, 0⟩ := by
  rw [readA_free (show inB (0 : Int) 1 c = false from inB_false.2 (.inl (by decide)))]
  dsimp only
  rw [best_new h (x := ⟨s, c, v⟩) hc (by simp [upTo]; omega)]
  simp [h1]
theorem read_same {l : List RecM} {key key' lp val : ByteArray} {ls c : Int} {v : ByteArray} (h : recsFrom 0 0 l = true) (hn : hasRec s l = false) (hf : inB ls 1 t = false) (hc : t < c) : readA ⟨key, 0, emptyS, emptyS, endRec l ⟨s, c, v⟩⟩ t = readA ⟨key', ls, lp, val, l⟩ t := by
  rw [readA_free (r := ⟨key', ls, lp, val, l⟩) hf, readA_free (show inB (0 : Int) 1 t = false from inB_false.2 (.inl (by decide)))]
  dsimp only
  rw [best_old h (x := ⟨s, c, v⟩) hn (by simp [upTo]; omega)]
/-- ReadsStay, in these words. -/
theorem reads_stay {pk pv : ByteArray} (hok : r.ok = true) (hts : t < s) (hs' : s < 1099511627776) (hf : (readA r t).code = 0) (h : (lockOp s pk pv r).2 = 0) :
    ∃ last, commitOp s (s + 1) (lockOp s pk pv r).1 = (last, 0) ∧ last.ok = true ∧ (lockOp s pk pv r).1.ok = true ∧ readA (lockOp s pk pv r).1 t = readA r t ∧ readA last t = readA r t ∧ readA last (s + 1) = ⟨0, true, pv, 0, 0⟩ ∧ (readA (lockOp s pk pv r).1 s).code = 7 := by
  obtain ⟨hs, hls, hc, hn, _⟩ := lock_zero_parts hok h
  have hg := (lockOp_good s pk pv r hok h).1
  have hfst := (lock_fst h).2
  have hr := row_recs hok
  have hfree := readA_code hf
  rw [hfst] at hg ⊢
  have hcm := commit_held (c := s + 1) hg hs (inB_true.2 ⟨by omega, by omega⟩)
  have hgood := (commitOp_good s (s + 1) _ hg (by rw [hcm])).1
  refine ⟨_, hcm, by rw [hcm] at hgood; exact hgood, hg, ?_, ?_, read_new hr hc (by have := (inB_true.1 hs).1; omega), ?_⟩
  · rw [readA_free hfree, readA_free (r := ⟨r.key, s, pk, pv, r.recs⟩) (inB_false.2 (.inr hts))]
  · exact read_same (key' := r.key) (lp := r.lp) (val := r.val) hr hn hfree (by omega)
  · rw [readA, if_pos (inB_true.2 ⟨by have := (inB_true.1 hs).1; exact this, Int.le_refl _⟩)]; rfl
/-- LocksHold: why a lock is not given. -/
theorem lock_err {pk pv : ByteArray} (hk : RowKeep k r) (h40 : k ≤ 40) (hs : inB s 1 1099511627776 = true) (hp : keyB pk = true) (hv : pv.size ≤ 20) (h : (lockOp s pk pv r).2 ≠ 0) :
    (stOf r.ls s r.recs = 3 ∧ (lockOp s pk pv r).2 = 9) ∨ (stOf r.ls s r.recs ≠ 3 ∧ lateB s r.recs = true ∧ (lockOp s pk pv r).2 = 8) ∨ (stOf r.ls s r.recs ≠ 3 ∧ lateB s r.recs = false ∧ r.ls ≠ 0 ∧ (lockOp s pk pv r).2 = 7) := by
  have hok : rowB r.key r.ls r.lp r.val r.recs = true := hk.ok
  have hl := hk.len
  have e2 : (lockOp s pk pv r).2 = lockE r.key r.ls r.lp r.val r.recs s pk pv := by
    unfold lockOp
    split
    · rename_i e; exact e.symm
    · rfl
  rw [e2] at h ⊢
  unfold lockE at h ⊢
  rw [if_neg (by rw [hok]; decide), if_neg (by rw [hs]; decide), if_neg (by rw [hp]; decide), if_neg (by omega)] at h ⊢
  by_cases h3 : stOf r.ls s r.recs = 3
  · rw [if_pos h3]; exact .inl ⟨h3, rfl⟩
  · rw [if_neg h3] at h ⊢
    by_cases h8 : lateB s r.recs = true
    · rw [if_pos h8]; exact .inr (.inl ⟨h3, h8, rfl⟩)
    · rw [if_neg h8] at h ⊢
      by_cases h7 : r.ls = 0
      · rw [if_neg (by simpa using h7), if_neg (by omega)] at h; exact absurd rfl h
      · rw [if_pos h7]; exact .inr (.inr ⟨h3, by simpa using h8, h7, rfl⟩)
/-- LocksHold: a lock that is given. -/
theorem lock_holds {pk pv po : ByteArray} {p : Int} (hk : RowKeep k r) (hs60 : s ≤ 60) (hp : keyB pk = true) (hvo : po.size ≤ 20) (hp0 : 0 ≤ p) (hp50 : p < 50) (h : (lockOp s pk pv r).2 = 0) :
    ∃ a b c, lockOp s pk pv r = (a, 0) ∧ a.ok = true ∧ lockOp (100 + p) pk po a = (default, 7) ∧ stOf a.ls s a.recs = 1 ∧ commitOp s (s + 5) a = (b, 0) ∧ b.ok = true ∧ undoOp s a = (c, 0) ∧ c.ok = true ∧ readA b (s + 5) = ⟨0, true, pv, 0, 0⟩ ∧ undoOp s b = (default, 6) ∧ lockOp s pk pv c = (default, 9) ∧ commitOp s (s + 5) c = (default, 9) := by
  obtain ⟨hs, hls, hc, hn, hpv, _, _⟩ := lock_zero_parts hk.ok h
  have hs1 := (inB_true.1 hs).1
  have hg := (lockOp_good s pk pv r hk.ok h).1
  have hfst : lockOp s pk pv r = (⟨r.key, s, pk, pv, r.recs⟩, 0) := Prod.ext (lock_fst h).2 h
  have hr := row_recs hk.ok
  rw [hfst] at hg
  have hg' : rowB r.key s pk pv r.recs = true := hg
  have hcm := commit_held (c := s + 5) hg hs (inB_true.2 ⟨by omega, by omega⟩)
  have hb := (commitOp_good s (s + 5) _ hg (by rw [hcm])).1
  rw [hcm] at hb
  have hun : undoOp s ⟨r.key, s, pk, pv, r.recs⟩ = (⟨r.key, 0, emptyS, emptyS, endRec r.recs ⟨s, 0, emptyS⟩⟩, 0) := by
    have e : undoE r.key s pk pv r.recs s = 0 := by
      unfold undoE
      rw [if_neg (by rw [hg']; decide), if_neg (by rw [hs]; decide), if_neg (by rw [stOf_one.2 rfl]; decide), if_neg (by rw [stOf_one.2 rfl]; decide), if_pos rfl]
    unfold undoOp
    rw [if_pos e]
    unfold undoneR
    rw [if_neg (by rw [stOf_one.2 rfl]; decide), if_pos (stOf_one.2 rfl)]
  have hcg := (undoOp_good s _ hg (by rw [hun])).1
  rw [hun] at hcg
  have st3 : stOf 0 s (endRec r.recs ⟨s, 0, emptyS⟩) = 3 := (st_end (ls := 0) r.recs ⟨s, 0, emptyS⟩ (show ¬ (0 : Int) = s by omega)).trans (if_pos rfl)
  have st2 : stOf 0 s (endRec r.recs ⟨s, s + 5, pv⟩) = 2 := (st_end (ls := 0) r.recs ⟨s, s + 5, pv⟩ (show ¬ (0 : Int) = s by omega)).trans (if_neg (show ¬ s + 5 = 0 by omega))
  refine ⟨_, _, _, hfst, hg, ?_, stOf_one.2 rfl, hcm, hb, hun, hcg, read_new hr hc (by omega), ?_, ?_, ?_⟩
  · have e : lockE r.key s pk pv r.recs (100 + p) pk po = 7 := by
      unfold lockE
      have h3 : stOf s (100 + p) r.recs ≠ 3 := by
        have : hasRec (100 + p) r.recs = false := hasRec_false.2 fun x hx => by have := (hk.recs x hx).1; omega
        rw [(stOf_zero (by omega)).2 this]; decide
      have h8 : lateB (100 + p) r.recs = false := lateB_false.2 fun x hx => by have := (hk.recs x hx).2; omega
      rw [if_neg (by rw [hg']; decide), if_neg (by rw [inB_true.2 ⟨by omega, by omega⟩]; decide), if_neg (by rw [hp]; decide), if_neg (by omega), if_neg h3, if_neg (by rw [h8]; decide), if_pos (by omega)]
    unfold lockOp
    rw [if_neg (show ¬ lockE r.key s pk pv r.recs (100 + p) pk po = 0 by rw [e]; decide)]
    exact congrArg _ e
  · have e : undoE r.key 0 emptyS emptyS (endRec r.recs ⟨s, s + 5, pv⟩) s = 6 := by
      unfold undoE
      rw [if_neg (by rw [show rowB r.key 0 emptyS emptyS (endRec r.recs ⟨s, s + 5, pv⟩) = true from hb]; decide), if_neg (by rw [hs]; decide), if_pos st2]
    unfold undoOp
    rw [if_neg (show ¬ undoE r.key 0 emptyS emptyS (endRec r.recs ⟨s, s + 5, pv⟩) s = 0 by rw [e]; decide)]
    exact congrArg _ e
  · have e : lockE r.key 0 emptyS emptyS (endRec r.recs ⟨s, 0, emptyS⟩) s pk pv = 9 := by
      unfold lockE
      rw [if_neg (by rw [show rowB r.key 0 emptyS emptyS (endRec r.recs ⟨s, 0, emptyS⟩) = true from hcg]; decide), if_neg (by rw [hs]; decide), if_neg (by rw [hp]; decide), if_neg (by omega), if_pos st3]
    unfold lockOp
    rw [if_neg (show ¬ lockE r.key 0 emptyS emptyS (endRec r.recs ⟨s, 0, emptyS⟩) s pk pv = 0 by rw [e]; decide)]
    exact congrArg _ e
  · have e : commitE r.key 0 emptyS emptyS (endRec r.recs ⟨s, 0, emptyS⟩) s (s + 5) = 9 := by
      unfold commitE
      rw [if_neg (by rw [show rowB r.key 0 emptyS emptyS (endRec r.recs ⟨s, 0, emptyS⟩) = true from hcg]; decide), if_neg (by rw [hs]; decide), if_neg (by rw [inB_true.2 ⟨by omega, by omega⟩]; decide), if_pos st3]
    unfold commitOp
    rw [if_neg (show ¬ commitE r.key 0 emptyS emptyS (endRec r.recs ⟨s, 0, emptyS⟩) s (s + 5) = 0 by rw [e]; decide)]
    exact congrArg _ e
end
end Go.Proofs.YtambkjnhfejfaacGreatDoor

namespace Go.Proofs.YtambkjnhfejfaacGreatDoor
open Go.RowKit

/-- The row with a key; a fresh one, where there is none. -/
def look (rows : List RowM) (k : ByteArray) : RowM := if hasK (rowKeys rows) k then rowAt rows k else freshRow k
theorem look_key (rows : List RowM) (k : ByteArray) : (look rows k).key = k := by
  unfold look
  split
  · rename_i h; exact rowAt_key h
  · rfl
theorem look_mem {rows : List RowM} (h : RowsOk rows) {r : RowM} (hr : r ∈ rows) : look rows r.key = r := by
  obtain ⟨i, hi, rfl⟩ := List.getElem_of_mem hr
  have hi' : i < (rowKeys rows).length := by simpa using hi
  have e : lowIx (rowKeys rows) rows[i].key = i := lowIx_eq (by omega) (fun j hj => by
    have := inc_lt h.inc hj hi'
    simpa [List.getD, hi, show j < rows.length by omega] using this) (fun _ => by simp [List.getD, hi, ltS_irrefl])
  have hk : hasK (rowKeys rows) rows[i].key = true := (hasK_iff h.inc).2 (List.mem_map.2 ⟨_, hr, rfl⟩)
  rw [look, if_pos hk, rowAt, e]
  simp [List.getD, hi]
theorem look_or (rows : List RowM) (k : ByteArray) : look rows k ∈ rows ∨ look rows k = freshRow k := by
  unfold look
  split
  · rename_i hk; exact .inl (rowAt_mem hk)
  · exact .inr rfl
theorem look_valid {rows : List RowM} (h : RowsOk rows) {k : ByteArray} (hk : keyB k = true) : (look rows k).ok = true := by
  rcases look_or rows k with h' | h'
  · exact h.ok _ h'
  · rw [h']; exact fresh_valid hk
theorem look_recs {rows : List RowM} (h : RowsOk rows) (k : ByteArray) : recsFrom 0 0 (look rows k).recs = true := by
  rcases look_or rows k with h' | h'
  · exact row_recs (h.ok _ h')
  · rw [h']; rfl
theorem look_locked {rows : List RowM} (h : RowsOk rows) {k : ByteArray} (h0 : (look rows k).ls ≠ 0) : (look rows k).ok = true ∧ inB (look rows k).ls 1 1099511627776 = true ∧ ∀ x ∈ (look rows k).recs, x.s ≠ (look rows k).ls ∧ x.c ≤ (look rows k).ls := by
  rcases look_or rows k with h' | h'
  · exact ⟨h.ok _ h', row_locked (h.ok _ h') h0⟩
  · rw [h'] at h0; exact absurd rfl h0
theorem rec_parts {l : List RecM} (h : recsFrom 0 0 l = true) {x : RecM} (hx : x ∈ l) : 1 ≤ x.s ∧ x.s ≤ 1099511627776 ∧ (x.c ≠ 0 → x.s < x.c) := recB_parts (((recsOk_iff _).1 h).1 x hx)
/-- Two records of one row with one Start are one. -/
theorem rec_one {l : List RecM} (h : recsFrom 0 0 l = true) {x y : RecM} (hx : x ∈ l) (hy : y ∈ l) (e : x.s = y.s) : x = y := by
  have hp := List.pairwise_iff_getElem.1 ((recsOk_iff _).1 h).2
  obtain ⟨i, hi, rfl⟩ := List.getElem_of_mem hx
  obtain ⟨j, hj, rfl⟩ := List.getElem_of_mem hy
  rcases Nat.lt_trichotomy i j with hij | hij | hij
  · have := (hp i j hi hj hij).1; omega
  · subst hij; rfl
  · have := (hp j i hj hi hij).1; omega
/-- Of two committed ones, one was committed ahead of the other's Start. -/
theorem rec_apart {l : List RecM} (h : recsFrom 0 0 l = true) {x y : RecM} (hx : x ∈ l) (hy : y ∈ l) (hxc : x.c ≠ 0) (hyc : y.c ≠ 0) (ne : x.s ≠ y.s) : x.c ≤ y.s ∨ y.c ≤ x.s := by
  have hp := List.pairwise_iff_getElem.1 ((recsOk_iff _).1 h).2
  obtain ⟨i, hi, rfl⟩ := List.getElem_of_mem hx
  obtain ⟨j, hj, rfl⟩ := List.getElem_of_mem hy
  rcases Nat.lt_trichotomy i j with hij | hij | hij
  · exact .inl ((hp i j hi hj hij).2 hyc)
  · subst hij; exact absurd rfl ne
  · exact .inr ((hp j i hj hi hij).2 hxc)
theorem hasRec_true {s : Int} {l : List RecM} (h : recsFrom 0 0 l = true) {x : RecM} (hx : x ∈ l) (e : x.s = s) : hasRec s l = true ∧ recOf s l = x := by
  have hh : hasRec s l = true := by
    cases hh : hasRec s l with
    | true => rfl
    | false => exact absurd e (hasRec_false.1 hh x hx)
  refine ⟨hh, ?_⟩
  unfold hasRec at hh
  obtain ⟨y, hy⟩ := Option.isSome_iff_exists.1 hh
  have h1 := List.mem_of_find?_eq_some hy
  have h2 : y.s = s := by have := List.find?_some hy; simpa using this
  unfold recOf
  rw [hy]
  exact rec_one h h1 hx (h2.trans e.symm)
/-- The status, of a row whose records are in order. -/
theorem st_cases {s ls : Int} (l : List RecM) (hne : ls ≠ s) :
    (stOf ls s l = 0 ∧ ∀ x ∈ l, x.s ≠ s) ∨ (∃ x ∈ l, x.s = s ∧ ((x.c = 0 ∧ stOf ls s l = 3) ∨ (x.c ≠ 0 ∧ stOf ls s l = 2 ∧ cmOf ls s l = x.c))) := by
  by_cases hh : hasRec s l = true
  · right
    have hm : recOf s l ∈ l ∧ (recOf s l).s = s := by
      have hf := hh
      unfold hasRec at hf
      obtain ⟨y, hy⟩ := Option.isSome_iff_exists.1 hf
      unfold recOf
      rw [hy]
      exact ⟨List.mem_of_find?_eq_some hy, by have := List.find?_some hy; simpa using this⟩
    refine ⟨recOf s l, hm.1, hm.2, ?_⟩
    unfold stOf cmOf
    rw [if_neg hne, if_pos hh, if_neg hne]
    by_cases hc : (recOf s l).c = 0
    · exact .inl ⟨hc, if_pos hc⟩
    · exact .inr ⟨hc, if_neg hc, rfl⟩
  · have hf : hasRec s l = false := by simpa using hh
    exact .inl ⟨(stOf_zero hne).2 hf, hasRec_false.1 hf⟩

/-- What an operation on a row turns: that row alone. -/
theorem chg_look {rows : List RowM} {key : ByteArray} {op : RowM → RowM × Int} (h : RowsOk rows) (hop : OpGood op) (hk : hasK (rowKeys rows) key = true ∨ keyB key = true) (e : (chgRow rows key op).2 = 0) :
    (op (look rows key)).2 = 0 ∧ ∀ k, look (chgRow rows key op).1 k = if k = key then (op (look rows key)).1 else look rows k := by
  have hok' := chg_ok h hop hk
  -- a row of the new rows is what one finds by its key
  by_cases hh : hasK (rowKeys rows) key = true
  · have hl : look rows key = rowAt rows key := by rw [look, if_pos hh]
    have e2 : (op (rowAt rows key)).2 = 0 := by rw [chgRow, if_pos hh] at e; exact e
    have hrows : (chgRow rows key op).1 = rows.set (lowIx (rowKeys rows) key) (op (rowAt rows key)).1 := by rw [chgRow, if_pos hh]; dsimp only; rw [if_pos e2]
    have hg := hop _ (h.ok _ (rowAt_mem hh)) e2
    have hkey : (op (rowAt rows key)).1.key = key := hg.2.trans (rowAt_key hh)
    rw [hl]
    refine ⟨e2, fun k => ?_⟩
    have hkeys : rowKeys (chgRow rows key op).1 = rowKeys rows := by
      rw [hrows]
      exact keys_set fun hi => hg.2.trans (by simp [rowAt, List.getD, hi])
    have hlt := hasK_lt hh
    split
    · rename_i ek
      rw [ek]
      have hm : (op (rowAt rows key)).1 ∈ (chgRow rows key op).1 := by rw [hrows]; exact List.mem_set hlt _
      have := look_mem hok' hm
      rwa [hkey] at this
    · rename_i ek
      unfold look
      rw [hkeys]
      split
      · rename_i hk'
        unfold rowAt
        rw [hkeys, hrows]
        have hne : lowIx (rowKeys rows) key ≠ lowIx (rowKeys rows) k := by
          intro e'
          have h1 := rowAt_key hh
          have h2 := rowAt_key hk'
          unfold rowAt at h1 h2
          rw [e'] at h1
          exact ek (h2.symm.trans h1)
        simp [List.getD, hne]
      · rfl
  · have hh' : hasK (rowKeys rows) key = false := by simpa using hh
    have hkb := hk.resolve_left hh
    have hl : look rows key = freshRow key := by rw [look, if_neg hh]
    have h40 : ¬ 40 ≤ rows.length := by
      intro h40
      rw [chgRow, if_neg hh, if_pos h40] at e
      exact absurd (show (1 : Int) = 0 from e) (by decide)
    have e2 : (op (freshRow key)).2 = 0 := by rw [chgRow, if_neg hh, if_neg h40] at e; exact e
    have hrows : (chgRow rows key op).1 = rows.take (lowIx (rowKeys rows) key) ++ (op (freshRow key)).1 :: rows.drop (lowIx (rowKeys rows) key) := by rw [chgRow, if_neg hh, if_neg h40]; dsimp only; rw [if_pos e2]
    have hkey : (op (freshRow key)).1.key = key := (hop _ (fresh_valid hkb) e2).2
    rw [hl]
    refine ⟨e2, fun k => ?_⟩
    split
    · rename_i ek
      rw [ek]
      have hm : (op (freshRow key)).1 ∈ (chgRow rows key op).1 := by rw [hrows]; simp
      have := look_mem hok' hm
      rwa [hkey] at this
    · rename_i ek
      by_cases hk' : hasK (rowKeys rows) k = true
      · have hm := rowAt_mem hk'
        have hm' : rowAt rows k ∈ (chgRow rows key op).1 := by
          rw [hrows]
          have hsplit : rowAt rows k ∈ rows.take (lowIx (rowKeys rows) key) ++ rows.drop (lowIx (rowKeys rows) key) := by rw [List.take_append_drop]; exact hm
          rcases List.mem_append.1 hsplit with hm | hm
          · exact List.mem_append.2 (.inl hm)
          · exact List.mem_append.2 (.inr (List.mem_cons_of_mem _ hm))
        have := look_mem hok' hm'
        rw [rowAt_key hk'] at this
        rw [this, look, if_pos hk']
      · have hf : hasK (rowKeys (chgRow rows key op).1) k = false := by
          cases hq : hasK (rowKeys (chgRow rows key op).1) k with
          | false => rfl
          | true =>
            exfalso
            have hm := (hasK_iff hok'.inc).1 hq
            obtain ⟨r, hr, er⟩ := List.mem_map.1 hm
            rw [hrows] at hr
            have hin : r ∈ rows ∨ r = (op (freshRow key)).1 := by
              rcases List.mem_append.1 hr with hr | hr
              · exact .inl (List.mem_of_mem_take hr)
              · rcases List.mem_cons.1 hr with hr | hr
                · exact .inr hr
                · exact .inl (List.mem_of_mem_drop hr)
            rcases hin with hin | hin
            · exact hk' ((hasK_iff h.inc).2 (List.mem_map.2 ⟨r, hin, er⟩))
            · rw [hin, hkey] at er; exact ek er.symm
        rw [look, if_neg (by rw [hf]; decide), look, if_neg hk']
/-- An operation that fails turns nothing. -/
theorem chg_none {rows : List RowM} {key : ByteArray} {op : RowM → RowM × Int} (e : (chgRow rows key op).2 ≠ 0) : (chgRow rows key op).1 = rows := by
  unfold chgRow at e ⊢
  split
  · rename_i hh
    rw [if_pos hh] at e
    exact if_neg e
  · rename_i hh
    rw [if_neg hh] at e
    split
    · rfl
    · rename_i h40
      rw [if_neg h40] at e
      exact if_neg e
theorem stat_look {rows : List RowM} (key : ByteArray) {st : Int} (h1 : 1 ≤ st) : statIn rows key st = (stOf (look rows key).ls st (look rows key).recs, cmOf (look rows key).ls st (look rows key).recs) := by
  unfold statIn look
  split
  · rfl
  · have h0 : ¬ (0 : Int) = st := by omega
    simp [freshRow, stOf, cmOf, h0, hasRec, firstOf, recOf]
end Go.Proofs.YtambkjnhfejfaacGreatDoor

namespace Go.Proofs.YtambkjnhfejfaacGreatDoor
open Go.RowKit

/-- P2.1, as propositions. -/
structure WrsOk (l : List WrM) : Prop where
  len : l.length ≤ 6
  inc : Inc (wrKeys l)
  each : ∀ x ∈ l, keyB x.k = true ∧ x.v.size ≤ 20
theorem wrsB_iff {l : List WrM} : wrsB l = true ↔ WrsOk l := by
  constructor
  · intro h
    have hinc := wrs_inc h
    simp only [wrsB, Bool.and_eq_true, decide_eq_true_eq] at h
    have hr := h.2
    rw [all_range_iff] at hr
    refine ⟨h.1, hinc, fun x hx => ?_⟩
    obtain ⟨i, hi, rfl⟩ := List.getElem_of_mem hx
    have := hr i hi
    simp only [wrAtB, Bool.and_eq_true, decide_eq_true_eq] at this
    have e : l.getD i default = l[i] := by simp [List.getD, hi]
    rw [e] at this
    exact ⟨this.1.1, this.2⟩
  · intro h
    simp only [wrsB, Bool.and_eq_true, decide_eq_true_eq]
    refine ⟨h.len, all_range_iff.2 fun i hi => ?_⟩
    have e : l.getD i default = l[i] := by simp [List.getD, hi]
    have h1 := h.each l[i] (List.getElem_mem hi)
    simp only [wrAtB, Bool.and_eq_true, Bool.or_eq_true, beq_iff_eq, decide_eq_true_eq, e]
    refine ⟨⟨h1.1, ?_⟩, h1.2⟩
    rcases Nat.eq_zero_or_pos i with h0 | h0
    · exact .inl h0
    · right
      have := inc_lt h.inc (show i - 1 < i by omega) (by simpa using hi)
      simpa [List.getD, hi, show i - 1 < l.length by omega] using this
structure Up (clock : Int) (r : RowM) : Prop where
  recs : ∀ x ∈ r.recs, x.s ≤ clock ∧ x.c ≤ clock
  lock : r.ls ≤ clock
theorem upTo_iff {r : RowM} {clock : Int} : r.upTo clock = true ↔ Up clock r := by
  unfold RowM.upTo
  simp only [Bool.and_eq_true, List.all_eq_true, decide_eq_true_eq]
  exact ⟨fun h => ⟨h.1, h.2⟩, fun h => ⟨h.1, h.2⟩⟩
structure Good (wo : WoM) : Prop where
  c0 : 0 ≤ wo.clock
  c1 : wo.clock ≤ 1099511627376
  rows : RowsOk wo.rows
  up : ∀ r ∈ wo.rows, Up wo.clock r
  cl5 : wo.cls.length ≤ 5
  cls : ∀ c ∈ wo.cls, clB wo.clock c = true
theorem good_iff {wo : WoM} : wo.ok = true ↔ Good wo := by
  constructor
  · intro h
    have h1 := ok_clock h
    refine ⟨h1.1, h1.2, ok_rows h, fun r hr => ?_, ?_, fun c hc => ?_⟩
    · simp only [WoM.ok, Bool.and_eq_true, rowsB, decide_eq_true_eq] at h
      have hr' := h.1.2.2
      rw [all_range_iff] at hr'
      obtain ⟨i, hi, rfl⟩ := List.getElem_of_mem hr
      have := hr' i hi
      have e : wo.rows.getD i default = wo.rows[i] := by simp [List.getD, hi]
      simp only [rowAtB, Bool.and_eq_true, e] at this
      exact upTo_iff.1 this.2
    · simp only [WoM.ok, Bool.and_eq_true, clsB, decide_eq_true_eq] at h
      exact h.2.1
    · obtain ⟨i, hi⟩ := List.getElem?_of_mem hc
      exact ok_client h hi
  · intro h
    simp only [WoM.ok, Bool.and_eq_true, rowsB, clsB, decide_eq_true_eq]
    refine ⟨⟨⟨h.c0, h.c1⟩, h.rows.len, all_range_iff.2 fun i hi => ?_⟩, h.cl5, all_range_iff.2 fun i hi => ?_⟩
    · have e : wo.rows.getD i default = wo.rows[i] := by simp [List.getD, hi]
      have hm := List.getElem_mem hi
      simp only [rowAtB, Bool.and_eq_true, Bool.or_eq_true, beq_iff_eq, e]
      refine ⟨⟨h.rows.ok _ hm, ?_⟩, upTo_iff.2 (h.up _ hm)⟩
      rcases Nat.eq_zero_or_pos i with h0 | h0
      · exact .inl h0
      · right
        have := inc_lt h.rows.inc (show i - 1 < i by omega) (by simpa using hi)
        simpa [List.getD, hi, show i - 1 < wo.rows.length by omega] using this
    · have e : wo.cls.getD i default = wo.cls[i] := by simp [List.getD, hi]
      rw [e]
      exact h.cls _ (List.getElem_mem hi)

theorem chg_all {P : RowM → Prop} {rows : List RowM} {key : ByteArray} {op : RowM → RowM × Int} (h : ∀ r ∈ rows, P r) (hf : P (freshRow key)) (hop : ∀ r, P r → (op r).2 = 0 → P (op r).1) : ∀ r ∈ (chgRow rows key op).1, P r := by
  intro r hr
  unfold chgRow at hr
  split at hr
  · rename_i hh
    dsimp only at hr
    split at hr
    · rename_i e
      rcases List.mem_or_eq_of_mem_set hr with hr | rfl
      · exact h r hr
      · exact hop _ (h _ (rowAt_mem hh)) e
    · exact h r hr
  · split at hr
    · exact h r hr
    · dsimp only at hr
      split at hr
      · rename_i e
        rcases List.mem_append.1 hr with hr | hr
        · exact h r (List.mem_of_mem_take hr)
        · rcases List.mem_cons.1 hr with rfl | hr
          · exact hop _ hf e
          · exact h r (List.mem_of_mem_drop hr)
      · exact h r hr
theorem up_fresh {clock : Int} (h : 0 ≤ clock) (k : ByteArray) : Up clock (freshRow k) := ⟨fun _ hx => (by cases hx), h⟩
theorem up_end {clock : Int} {l : List RecM} {x : RecM} (h : ∀ y ∈ l, y.s ≤ clock ∧ y.c ≤ clock) (hx : x.s ≤ clock ∧ x.c ≤ clock) : ∀ y ∈ endRec l x, y.s ≤ clock ∧ y.c ≤ clock := by
  intro y hy
  rcases mem_endRec.1 hy with rfl | ⟨hy, _⟩
  · exact hx
  · exact h y hy
theorem up_lock {clock st : Int} (pk pv : ByteArray) (h : st ≤ clock) (r : RowM) (hr : Up clock r) (e : (lockOp st pk pv r).2 = 0) : Up clock (lockOp st pk pv r).1 := by
  rw [(lock_fst e).2]; exact ⟨hr.recs, h⟩
theorem up_commit {clock st cm : Int} (h0 : 0 ≤ clock) (h : st ≤ clock) (hc : cm ≤ clock) (r : RowM) (hr : Up clock r) (e : (commitOp st cm r).2 = 0) : Up clock (commitOp st cm r).1 := by
  rw [(commit_fst e).2]; exact ⟨up_end hr.recs ⟨h, hc⟩, h0⟩
theorem up_undo {clock st : Int} (h0 : 0 ≤ clock) (h : st ≤ clock) (r : RowM) (hr : Up clock r) (e : (undoOp st r).2 = 0) : Up clock (undoOp st r).1 := by
  rw [(undo_fst e).2]
  unfold undoneR
  split
  · exact hr
  · split
    · exact ⟨up_end hr.recs ⟨h, h0⟩, h0⟩
    · exact ⟨up_end hr.recs ⟨h, h0⟩, hr.lock⟩
theorem Up.more {clock clock' : Int} {r : RowM} (h : Up clock r) (hc : clock ≤ clock') : Up clock' r :=
  ⟨fun x hx => ⟨Int.le_trans (h.recs x hx).1 hc, Int.le_trans (h.recs x hx).2 hc⟩, Int.le_trans h.lock hc⟩
theorem clB_more {clock clock' : Int} {c : ClM} (h : clB clock c = true) (hc : clock ≤ clock') : clB clock' c = true := by
  simp only [clB, Bool.and_eq_true] at h ⊢
  refine ⟨⟨h.1.1, ?_⟩, h.2⟩
  have ht := h.1.2
  unfold timesB at ht ⊢
  split
  · rename_i h0; rwa [if_pos h0] at ht
  · rename_i h0
    rw [if_neg h0] at ht
    split
    · rename_i h1
      rw [if_pos h1] at ht
      simp only [Bool.and_eq_true, decide_eq_true_eq] at ht ⊢
      exact ⟨ht.1, by omega⟩
    · rename_i h1
      rw [if_neg h1] at ht
      simp only [Bool.and_eq_true, decide_eq_true_eq] at ht ⊢
      exact ⟨⟨ht.1.1, by omega⟩, ht.2⟩

/-- A valid client, by its phase. -/
structure ClGood (clock : Int) (c : ClM) : Prop where
  ws : WrsOk c.ws
  ph : (c.ph = 0 ∧ c.st = 0 ∧ c.cm = 0 ∧ c.ws = [] ∧ c.at_ = 0) ∨ (c.ph = 1 ∧ 1 ≤ c.st ∧ c.st ≤ clock ∧ c.cm = 0 ∧ c.at_ = 0)
    ∨ (c.ph = 2 ∧ 1 ≤ c.st ∧ c.st ≤ clock ∧ c.cm = 0 ∧ 1 ≤ c.ws.length ∧ 0 ≤ c.at_ ∧ c.at_ ≤ c.ws.length)
    ∨ (c.ph = 3 ∧ 1 ≤ c.st ∧ c.st < c.cm ∧ c.cm ≤ clock ∧ 1 ≤ c.ws.length ∧ c.at_ = 0)
    ∨ (c.ph = 4 ∧ 1 ≤ c.st ∧ c.st < c.cm ∧ c.cm ≤ clock ∧ 1 ≤ c.at_ ∧ c.at_ ≤ (c.ws.length : Int) - 1)
theorem clB_iff {clock : Int} {c : ClM} : clB clock c = true ↔ ClGood clock c := by
  obtain ⟨ph, st, cm, ws, at_⟩ := c
  simp only [clB, Bool.and_eq_true, wrsB_iff]
  constructor
  · rintro ⟨⟨hw, ht⟩, ha⟩
    refine ⟨hw, ?_⟩
    unfold timesB at ht
    unfold atB at ha
    dsimp only at ht ha ⊢
    by_cases h0 : ph = 0
    · rw [if_pos h0] at ht ha
      simp only [Bool.and_eq_true, beq_iff_eq, List.isEmpty_iff] at ht ha
      exact .inl ⟨h0, ht.1, ht.2, ha.1, ha.2⟩
    · rw [if_neg h0] at ht ha
      by_cases h1 : ph = 1
      · rw [if_neg (by omega)] at ht
        rw [if_pos h1] at ha
        simp only [Bool.and_eq_true, beq_iff_eq, decide_eq_true_eq] at ht ha
        exact .inr (.inl ⟨h1, ht.1.1, ht.1.2, ht.2, ha⟩)
      · rw [if_neg h1] at ha
        by_cases h2 : ph = 2
        · rw [if_neg (by omega)] at ht
          rw [if_pos h2] at ha
          simp only [Bool.and_eq_true, beq_iff_eq, decide_eq_true_eq] at ht ha
          exact .inr (.inr (.inl ⟨h2, ht.1.1, ht.1.2, ht.2, by omega, ha.1.2, ha.2⟩))
        · rw [if_neg h2] at ha
          by_cases h3 : ph = 3
          · rw [if_pos (.inl h3)] at ht
            rw [if_pos h3] at ha
            simp only [Bool.and_eq_true, beq_iff_eq, decide_eq_true_eq] at ht ha
            exact .inr (.inr (.inr (.inl ⟨h3, ht.1.1, ht.1.2, ht.2, by omega, ha.2⟩)))
          · rw [if_neg h3] at ha
            by_cases h4 : ph = 4
            · rw [if_pos (.inr h4)] at ht
              rw [if_pos h4] at ha
              simp only [Bool.and_eq_true, decide_eq_true_eq] at ht ha
              exact .inr (.inr (.inr (.inr ⟨h4, ht.1.1, ht.1.2, ht.2, ha.1, ha.2⟩)))
            · rw [if_neg h4] at ha; cases ha
  · rintro ⟨hw, h⟩
    dsimp only at h hw
    refine ⟨⟨hw, ?_⟩, ?_⟩
    · unfold timesB
      dsimp only
      rcases h with h | h | h | h | h
      · rw [if_pos h.1]; simp [h.2.1, h.2.2.1]
      · rw [if_neg (by omega), if_neg (by omega)]; simp [h.2.1, h.2.2.1, h.2.2.2.1]
      · rw [if_neg (by omega), if_neg (by omega)]; simp [h.2.1, h.2.2.1, h.2.2.2.1]
      · rw [if_neg (by omega), if_pos (.inl h.1)]; simp [h.2.1, h.2.2.1, h.2.2.2.1]
      · rw [if_neg (by omega), if_pos (.inr h.1)]; simp [h.2.1, h.2.2.1, h.2.2.2.1]
    · unfold atB
      dsimp only
      rcases h with h | h | h | h | h
      · rw [if_pos h.1]; simp [h.2.2.2.1, h.2.2.2.2]
      · rw [if_neg (by omega), if_pos h.1]; simp [h.2.2.2.2]
      · rw [if_neg (by omega), if_neg (by omega), if_pos h.1]
        simp only [Bool.and_eq_true, decide_eq_true_eq]
        omega
      · rw [if_neg (by omega), if_neg (by omega), if_neg (by omega), if_pos h.1]
        simp only [Bool.and_eq_true, decide_eq_true_eq, beq_iff_eq]
        omega
      · rw [if_neg (by omega), if_neg (by omega), if_neg (by omega), if_neg (by omega), if_pos h.1]
        simp only [Bool.and_eq_true, decide_eq_true_eq]
        omega
theorem idle_ok (clock : Int) : clB clock idleC = true := clB_iff.2 ⟨⟨Nat.zero_le _, List.Pairwise.nil, fun _ h => by cases h⟩, .inl ⟨rfl, rfl, rfl, rfl, rfl⟩⟩
/-- Rows and clocks of a world, one client anew. -/
theorem Good.set {wo : WoM} (h : Good wo) {rows : List RowM} {clock : Int} {C : Nat} {c : ClM} (hc : wo.clock ≤ clock) (hc' : clock ≤ 1099511627376) (hr : RowsOk rows) (hu : ∀ r ∈ rows, Up clock r) (hcl : clB clock c = true) : Good ⟨rows, clock, wo.cls.set C c⟩ := by
  have := h.c0
  have h5 := h.cl5
  refine ⟨by show 0 ≤ clock; omega, hc', hr, hu, by simpa using h5, fun d hd => ?_⟩
  rcases List.mem_or_eq_of_mem_set hd with hd | rfl
  · exact clB_more (h.cls d hd) hc
  · exact hcl
theorem Good.rows' {wo : WoM} (h : Good wo) {rows : List RowM} (hr : RowsOk rows) (hu : ∀ r ∈ rows, Up wo.clock r) : Good { wo with rows := rows } := ⟨h.c0, h.c1, hr, hu, h.cl5, h.cls⟩
theorem Good.setC {wo : WoM} (h : Good wo) {C : Nat} {c : ClM} (hcl : clB wo.clock c = true) : Good (wo.setC C c) := h.set (Int.le_refl _) h.c1 h.rows h.up hcl
theorem fail_up {clock st : Int} (h0 : 0 ≤ clock) (hs : st ≤ clock) {l : List WrM} {rows : List RowM} (h : ∀ r ∈ rows, Up clock r) : ∀ r ∈ failRows st l rows, Up clock r := by
  induction l generalizing rows with
  | nil => exact h
  | cons x l ih =>
    refine ih ?_
    split
    · exact chg_all h (up_fresh h0 _) (up_undo h0 hs)
    · exact h
theorem Good.fail {wo : WoM} (h : Good wo) (C : Nat) {c : ClM} (hs : c.st ≤ wo.clock) : Good (failW wo C c) :=
  h.set (Int.le_refl _) h.c1 (failRows_ok h.rows) (fail_up h.c0 hs h.up) (idle_ok _)
theorem lock_good {wo : WoM} (h : Good wo) (C : Nat) {c : ClM} (hc : ClGood wo.clock c) (h2 : c.ph = 2) (hat : c.at_ < c.ws.length) : Good (lockW wo C c).1 := by
  obtain ⟨hw, hph⟩ := hc
  have hph : 1 ≤ c.st ∧ c.st ≤ wo.clock ∧ c.cm = 0 ∧ 1 ≤ c.ws.length ∧ 0 ≤ c.at_ ∧ c.at_ ≤ c.ws.length := by omega
  have hmem : c.ws.getD c.at_.toNat default ∈ c.ws := getD_mem (by omega)
  have hk := (hw.each _ hmem).1
  unfold lockW
  dsimp only
  split
  · refine h.set (Int.le_refl _) h.c1 (chg_ok h.rows (lockOp_good _ _ _) (.inr hk)) (chg_all h.up (up_fresh h.c0 _) (up_lock _ _ hph.2.1)) (clB_iff.2 ⟨hw, .inr (.inr (.inl ⟨h2, hph.1, hph.2.1, hph.2.2.1, hph.2.2.2.1, ?_, ?_⟩))⟩)
    · show (0 : Int) ≤ c.at_ + 1; omega
    · show c.at_ + 1 ≤ c.ws.length; omega
  · split
    · exact h.setC (clB_iff.2 ⟨hw, .inr (.inr (.inl ⟨h2, hph⟩))⟩)
    · exact h.fail C hph.2.1
theorem commit_good {wo : WoM} (h : Good wo) (C : Nat) {c : ClM} (hc : ClGood wo.clock c) (h34 : c.ph = 3 ∨ c.ph = 4) : Good (commitW wo C c).1 := by
  obtain ⟨hw, hph⟩ := hc
  have hph : 1 ≤ c.st ∧ c.st < c.cm ∧ c.cm ≤ wo.clock ∧ 0 ≤ c.at_ ∧ c.at_ < c.ws.length := by omega
  have hmem : c.ws.getD c.at_.toNat default ∈ c.ws := getD_mem (by omega)
  have hk := (hw.each _ hmem).1
  have hr := chg_ok h.rows (commitOp_good c.st c.cm) (key := (c.ws.getD c.at_.toNat default).k) (.inr hk)
  have hu := chg_all (key := (c.ws.getD c.at_.toNat default).k) h.up (up_fresh h.c0 _) (up_commit h.c0 (st := c.st) (cm := c.cm) (by omega) (by omega))
  unfold commitW
  dsimp only
  split
  · exact h.fail C (by omega)
  · split
    · exact h.set (Int.le_refl _) h.c1 hr hu (idle_ok _)
    · refine h.set (Int.le_refl _) h.c1 hr hu (clB_iff.2 ⟨hw, .inr (.inr (.inr (.inr ⟨rfl, hph.1, hph.2.1, hph.2.2.1, ?_, ?_⟩)))⟩)
      · show (1 : Int) ≤ c.at_ + 1; omega
      · show c.at_ + 1 ≤ (c.ws.length : Int) - 1; omega
theorem step_good {wo : WoM} (h : Good wo) (hlt : wo.clock < 1099511627376) (C : Nat) {c : ClM} (hc : ClGood wo.clock c) : Good (stepW wo C c).1 := by
  have hw := hc.ws
  have hph := hc.ph
  unfold stepW
  split
  · rename_i h1
    split
    · exact h.setC (idle_ok _)
    · rename_i hl
      exact lock_good h C ⟨hw, .inr (.inr (.inl ⟨rfl, by show 1 ≤ c.st; omega, by show c.st ≤ _; omega, by show c.cm = 0; omega, by show 1 ≤ c.ws.length; omega, by show 0 ≤ c.at_; omega, by show c.at_ ≤ c.ws.length; omega⟩))⟩ rfl (by show c.at_ < c.ws.length; omega)
  · split
    · rename_i h2
      split
      · refine h.set (by omega) (by omega) h.rows (fun r hr => (h.up r hr).more (by omega)) (clB_iff.2 ⟨hw, .inr (.inr (.inr (.inl ⟨rfl, by show 1 ≤ c.st; omega, by show c.st < wo.clock + 1; omega, Int.le_refl _, by show 1 ≤ c.ws.length; omega, rfl⟩)))⟩)
      · exact lock_good h C hc h2 (by omega)
    · split
      · rename_i h34; exact commit_good h C hc h34
      · exact h
theorem resolve_good {wo : WoM} (h : Good wo) (key : ByteArray) : Good (resolveW wo key).1 := by
  unfold resolveW
  dsimp only
  split
  · exact h
  rename_i hk
  split
  · exact h
  rename_i hh
  split
  · exact h
  rename_i hls
  have hh' : hasK (rowKeys wo.rows) key = true := by simpa using hh
  have hm := rowAt_mem hh'
  have hl := (h.up _ hm).lock
  have hlk := (lockB_iff hls).1 (rowB_parts.1 (show rowB _ _ _ _ _ = true from h.rows.ok _ hm)).2.2.2
  split
  · rename_i h2
    refine h.rows' (chg_ok h.rows (commitOp_good _ _) (.inl hh')) (chg_all h.up (up_fresh h.c0 _) (up_commit h.c0 hl ?_))
    have h2' := h2
    unfold statIn at h2 ⊢
    split
    · rename_i hp
      have hm2 := rowAt_mem hp
      rw [if_pos hp] at h2
      dsimp only at h2 ⊢
      by_cases e : (rowAt wo.rows (rowAt wo.rows key).lp).ls = (rowAt wo.rows key).ls
      · rw [stOf_one.2 e] at h2; exact absurd h2 (by decide)
      · rcases st_cases _ e with ⟨h0, _⟩ | ⟨x, hx, _, ⟨_, h3⟩ | ⟨_, _, hcm⟩⟩
        · rw [h0] at h2; exact absurd h2 (by decide)
        · rw [h3] at h2; exact absurd h2 (by decide)
        · rw [hcm]; exact ((h.up _ hm2).recs x hx).2
    · exact h.c0
  · have hr1 := chg_ok h.rows (undoOp_good (rowAt wo.rows key).ls) (key := (rowAt wo.rows key).lp) (.inr hlk.2.1)
    have hu1 := chg_all (key := (rowAt wo.rows key).lp) h.up (up_fresh h.c0 _) (up_undo h.c0 hl)
    split
    · exact h
    · exact h.rows' (chg_ok hr1 (undoOp_good _) (.inr (by simpa using hk))) (chg_all hu1 (up_fresh h.c0 _) (up_undo h.c0 hl))
theorem put_ok {c : ClM} {clock : Int} (h : ClGood clock c) (key val : ByteArray) : ClGood clock (putC c key val).1 := by
  unfold putC
  split
  · exact h
  rename_i ha
  split
  · exact h
  rename_i hv
  have hacc : c.ph = 1 ∧ keyB key = true := by
    have ha : accessE c key = 0 := by simpa using ha
    unfold accessE at ha
    split at ha
    · omega
    · rename_i h1
      split at ha
      · omega
      · rename_i h2; exact ⟨by simpa using h1, by simpa using h2⟩
  have hph := h.ph
  split
  · rename_i hk
    have hlt : lowIx (wrKeys c.ws) key < c.ws.length := by simp only [hasK, Bool.and_eq_true, decide_eq_true_eq, List.length_map] at hk; exact hk.1
    have hmem : wrAt c.ws key ∈ c.ws := getD_mem hlt
    refine ⟨⟨by simpa using h.ws.len, ?_, fun x hx => ?_⟩, .inr (.inl ?_)⟩
    · have e : wrKeys (c.ws.set (lowIx (wrKeys c.ws) key) ⟨(wrAt c.ws key).k, val⟩) = wrKeys c.ws := by
        apply List.ext_getElem?
        intro j
        simp only [wrKeys, List.getElem?_map, List.getElem?_set]
        by_cases e : lowIx (wrKeys c.ws) key = j
        · subst e
          simp [hlt, wrAt, List.getD]
        · simp [e]
      show Inc (wrKeys (c.ws.set _ _))
      rw [e]; exact h.ws.inc
    · rcases List.mem_or_eq_of_mem_set hx with hx | rfl
      · exact h.ws.each x hx
      · exact ⟨(h.ws.each _ hmem).1, by show val.size ≤ 20; omega⟩
    · exact ⟨hacc.1, by show 1 ≤ c.st; omega, by show c.st ≤ clock; omega, by show c.cm = 0; omega, by show c.at_ = 0; omega⟩
  · rename_i hk
    split
    · exact h
    rename_i h6
    have hk' : hasK (wrKeys c.ws) key = false := by simpa using hk
    refine ⟨⟨?_, ?_, fun x hx => ?_⟩, .inr (.inl ?_)⟩
    · show (c.ws.take (lowIx (wrKeys c.ws) key) ++ ⟨key, val⟩ :: c.ws.drop (lowIx (wrKeys c.ws) key)).length ≤ 6
      simp only [List.length_append, List.length_cons, List.length_take, List.length_drop]
      omega
    · have e : wrKeys (c.ws.take (lowIx (wrKeys c.ws) key) ++ ⟨key, val⟩ :: c.ws.drop (lowIx (wrKeys c.ws) key)) = (wrKeys c.ws).take (lowIx (wrKeys c.ws) key) ++ key :: (wrKeys c.ws).drop (lowIx (wrKeys c.ws) key) := by
        simp only [wrKeys, List.map_append, List.map_cons, List.map_take, List.map_drop]
      show Inc (wrKeys (_ ++ _))
      rw [e]; exact inc_ins h.ws.inc hk'
    · rcases List.mem_append.1 hx with hx | hx
      · exact h.ws.each x (List.mem_of_mem_take hx)
      · rcases List.mem_cons.1 hx with rfl | hx
        · exact ⟨hacc.2, by show val.size ≤ 20; omega⟩
        · exact h.ws.each x (List.mem_of_mem_drop hx)
    · exact ⟨hacc.1, by show 1 ≤ c.st; omega, by show c.st ≤ clock; omega, by show c.cm = 0; omega, by show c.at_ = 0; omega⟩
/-- A valid world stays valid. -/
theorem do_good {wo : WoM} {a : ActM} (h : Good wo) (hlt : wo.clock < 1099511627376) (hC : a.c.toNat < wo.cls.length) : Good (doW wo a).1 := by
  show Good (performW wo a).1
  have hm : wo.cls.getD a.c.toNat default ∈ wo.cls := getD_mem hC
  have hc := clB_iff.1 (h.cls _ hm)
  unfold performW
  dsimp only
  split
  · unfold beginW
    split
    · exact h.set (by omega) (by omega) h.rows (fun r hr => (h.up r hr).more (by omega)) (clB_iff.2 ⟨⟨Nat.zero_le _, List.Pairwise.nil, fun _ h => by cases h⟩, .inr (.inl ⟨rfl, by show 1 ≤ wo.clock + 1; have := h.c0; omega, Int.le_refl _, rfl, rfl⟩)⟩)
    · exact h
  · split
    · exact h
    · split
      · exact h.setC (clB_iff.2 (put_ok hc _ _))
      · split
        · exact step_good h hlt _ hc
        · split
          · unfold dropW
            split
            · exact h
            · exact h.setC (idle_ok _)
          · exact resolve_good h _
theorem run_good1 {wo : WoM} (a : ActM) (h : Good wo) : Good (runA wo a).1 := by
  unfold runA
  split
  · rename_i e
    obtain ⟨_, _, _, h1, h2⟩ := act_zero e
    have h3 : wo.clock ≠ 1099511627376 := by
      intro e'
      unfold actE at e
      rw [if_neg (by rw [good_iff.2 h]; decide), if_neg (by omega), if_neg (by omega), if_pos e'] at e
      exact absurd e (by decide)
    have := h.c1
    exact do_good h (by omega) (by omega)
  · exact h
theorem start_good {n : Nat} (h : n ≤ 5) : Good (startW n) := by
  refine ⟨Int.le_refl _, (by show (0 : Int) ≤ _; decide), ⟨List.Pairwise.nil, fun _ h => (by cases h), Nat.zero_le _⟩, fun _ h => (by cases h), (by simpa [startW] using h), fun c hc => ?_⟩
  have : c = idleC := by simpa [startW] using (List.mem_replicate.1 hc).2
  rw [this]; exact idle_ok _
theorem run_good {l : List ActM} : ∀ {wo : WoM}, Good wo → Good (runWo wo l) := by
  induction l with
  | nil => intro wo h; exact h
  | cons a l ih => intro wo h; exact ih (run_good1 a h)
end Go.Proofs.YtambkjnhfejfaacGreatDoor

namespace Go.Proofs.YtambkjnhfejfaacGreatDoor
open Go.RowKit

theorem runA_len (wo : WoM) (a : ActM) : (runA wo a).1.cls.length = wo.cls.length := by
  unfold runA
  split
  · exact perform_len wo a
  · rfl
theorem runWo_len : ∀ (l : List ActM) (wo : WoM), (runWo wo l).cls.length = wo.cls.length
  | [], _ => rfl
  | a :: l, wo => by rw [runWo, runWo_len l, runA_len]
theorem runWo_app (l l' : List ActM) : ∀ wo, runWo wo (l ++ l') = runWo (runWo wo l) l' := by
  induction l with
  | nil => intro wo; rfl
  | cons a l ih => intro wo; exact ih _
theorem runAns_app (l l' : List ActM) : ∀ wo, runAns wo (l ++ l') = runAns wo l ++ runAns (runWo wo l) l' := by
  induction l with
  | nil => intro wo; rfl
  | cons a l ih => intro wo; simp only [List.cons_append, runAns, runWo, ih]
/-- WorldsGood, in these words. -/
theorem worlds_good {n : Nat} (h5 : n ≤ 5) (l : List ActM) (k : Int) (hk : 7 ≤ k) :
    (runWo (startW n) l).ok = true ∧ runWo (startW n) (l ++ [⟨k, 0, emptyS, emptyS⟩, ⟨2, n, emptyS, emptyS⟩]) = runWo (startW n) l ∧
      runAns (startW n) (l ++ [⟨k, 0, emptyS, emptyS⟩, ⟨2, n, emptyS, emptyS⟩]) = runAns (startW n) l ++ [ansCode 3, ansCode 2] := by
  have hg : Good (runWo (startW n) l) := run_good (start_good h5)
  have hl : (runWo (startW n) l).cls.length = n := by rw [runWo_len]; simp [startW]
  have hok := good_iff.2 hg
  obtain ⟨wo, hwo⟩ : ∃ wo, wo = runWo (startW n) l := ⟨_, rfl⟩
  rw [← hwo] at hg hl hok
  have e1 : actE wo ⟨k, 0, emptyS, emptyS⟩ = 3 := by
    unfold actE
    rw [if_neg (by rw [hok]; decide), if_pos (.inr (by show 6 < k; omega))]
  have e2 : actE wo ⟨2, n, emptyS, emptyS⟩ = 2 := by
    unfold actE
    rw [if_neg (by rw [hok]; decide), if_neg (by show ¬ ((2 : Int) < 1 ∨ (6 : Int) < 2); omega), if_pos (.inr (by show (wo.cls.length : Int) ≤ (n : Int); omega))]
  have r1 : runA wo ⟨k, 0, emptyS, emptyS⟩ = (wo, ansCode 3) := by unfold runA; rw [e1, if_neg (by decide)]
  have r2 : runA wo ⟨2, n, emptyS, emptyS⟩ = (wo, ansCode 2) := by unfold runA; rw [e2, if_neg (by decide)]
  refine ⟨by rw [← hwo]; exact hok, ?_, ?_⟩
  · rw [runWo_app, ← hwo]; simp only [runWo, r1, r2]
  · rw [runAns_app, ← hwo]; simp only [runAns, r1, r2]
end Go.Proofs.YtambkjnhfejfaacGreatDoor
