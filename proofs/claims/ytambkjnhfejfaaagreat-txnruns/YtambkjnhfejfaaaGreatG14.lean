/-
  Contracts of functions of the program and words for memory, several texts in one: TOwn1, TValid2, RPure, TOwn2, TOwn3, TOwn4, TPutMem. Conditions: those stated with each.
-/
import Derived.Test.YtambkjnhfejfaaaGreatG07
import Derived.Test.YtambkjnhfejfaaaGreatG13
namespace Go.Proofs.YtambkjnhfejfaaaGreat
open Go.RowKit
structure RowsOk (rows : List RowM) : Prop where
 inc : Inc (rowKeys rows)
 ok : ∀ r ∈ rows, r.ok = true
 len : rows.length ≤ 40
theorem hasK_lt {rows : List RowM} {key : ByteArray} (h : hasK (rowKeys rows) key = true) : lowIx (rowKeys rows) key < rows.length := by
 simp only [hasK, Bool.and_eq_true, decide_eq_true_eq, List.length_map] at h
 exact h.1
theorem rowAt_mem {rows : List RowM} {key : ByteArray} (h : hasK (rowKeys rows) key = true) : rowAt rows key ∈ rows := getD_mem (hasK_lt h)
theorem rowAt_get {rows : List RowM} {key : ByteArray} (h : hasK (rowKeys rows) key = true) : rows[lowIx (rowKeys rows) key]? = some (rowAt rows key) := getD_some (hasK_lt h)
theorem rowAt_key {rows : List RowM} {key : ByteArray} (h : hasK (rowKeys rows) key = true) : (rowAt rows key).key = key := by
 have hlt := hasK_lt h
 simp only [hasK, Bool.and_eq_true, decide_eq_true_eq] at h
 have := h.2
 simpa [List.getD, hlt, rowAt] using this
section
variable {w : World} {t : Bool} {Z : Nat → Prop} {B bx bC : Nat} {wo : WoM}
theorem Own.rowsAt (h : Own w t Z B bx bC wo) : ∃ bR rc, w.cell? ⟨bx, 0, none⟩ = some (.slice (some ⟨bR, 0, none⟩) wo.rows.length rc) ∧ RowsAt w (· < w.heap.size) (some ⟨bR, 0, none⟩) wo.rows := by
 obtain ⟨bR, rc, wb, c0, _, _, hco⟩ := h.core
 exact ⟨bR, rc, c0, (hco.in_ (Nat.le_refl _) (Nat.le_refl _)).rows⟩
set_option maxHeartbeats 1000000 in
theorem findRow_any (key : ByteArray) (h : Own w t Z B bx bC wo) (hs : Inc (rowKeys wo.rows)) :
 Calls Tryz.prog 49 #[.pointer (some ⟨bx, 0, none⟩), .string key] w fun e w' => e = .returned (.tuple #[.int .i64 (lowIx (rowKeys wo.rows) key), .bool (hasK (rowKeys wo.rows) key)]) ∧ Below w.heap.size w w' := by
 obtain ⟨bR, rc, c0, hr⟩ := h.rowsAt
 have HR := Lib.hid hr
 have HS := Lib.hid hs
 clear h hr hs
 go_enter Tryz.func49, Tryz.ntmps49
 go_wp2_with fail
 refine (searchRows_any wo.rows key _ _ rc w rfl HR.out HS.out).mono ?_
 rintro e w1 ⟨rfl, hb1⟩
 go_wp2
 go_ret2
 exact ⟨rfl, hb1⟩
set_option maxHeartbeats 1000000 in
theorem statusIn_any (key : ByteArray) (st : Int) (h : Own w t Z B bx bC wo) (hr : RowsOk wo.rows) (hst : inB st 1 1099511627776 = true) :
 Calls Tryz.prog 56 #[.pointer (some ⟨bx, 0, none⟩), .string key, .int .i64 st] w fun e w' => e = .returned (.tuple #[.int .i64 (statIn wo.rows key st).1, .int .i64 (statIn wo.rows key st).2]) ∧ Below w.heap.size w w' := by
 have HO := Lib.hid h
 have HR := Lib.hid hr
 clear h hr
 by_cases hk : hasK (rowKeys wo.rows) key = true
 ·obtain ⟨i, hi⟩ : ∃ i, i = lowIx (rowKeys wo.rows) key := ⟨_, rfl⟩
  have hlt : i < wo.rows.length := by rw [hi]; exact hasK_lt hk
  obtain ⟨r, hr0⟩ : ∃ r, r = rowAt wo.rows key := ⟨_, rfl⟩
  have hget : wo.rows[i]? = some r := by rw [hi, hr0]; exact rowAt_get hk
  have hok : r.ok = true := HR.out.ok r (by rw [hr0]; exact rowAt_mem hk)
  have HI := Lib.hid hi
  have HST := Lib.hid (show statIn wo.rows key st = (stOf r.ls st r.recs, cmOf r.ls st r.recs) by rw [statIn, if_pos hk, ← hr0])
  have j0 : (0 : Int) ≤ (i : Int) := by omega
  have j1 : (i : Int) < (wo.rows.length : Int) := by omega
  clear hi hr0
  go_enter Tryz.func56, Tryz.ntmps56
  go_wp2_with fail
  refine (findRow_any key HO.out HR.out.inc).mono ?_
  rw [← HI.out, hk]
  rintro e w1 ⟨rfl, hb1⟩
  obtain ⟨bR, rc, c0, hrows⟩ := (HO.out.upto hb1).rowsAt
  obtain ⟨b, o, hA, hbb, hrow⟩ := hrows.at_ hget
  obtain ⟨rfl, rfl⟩ : bR = b ∧ 0 = o := by injection hA with e; injection e with e1 e2; exact ⟨e1, e2⟩
  rw [Nat.zero_add] at hrow
  have d0 := hrow.ck
  have d1 := hrow.cs
  have d2 := hrow.cp
  have d3 := hrow.cv
  obtain ⟨A, q, d4, _, hri⟩ := hrow.rowIn (fun _ h => h)
  have HRI := Lib.hid hri
  have HT := Lib.hid (show rowB r.key r.ls r.lp r.val r.recs = true from hok)
  clear hrow hrows hA hri hget hok
  obtain ⟨rk, ls, lp, val, recs⟩ := r
  dsimp only at d0 d1 d2 d3 d4
  go_wp2_with fail
  refine (status_ok rk lp val ls A recs.length q recs st w1 HRI.out HT.out hst).mono ?_
  rintro e w2 ⟨rfl, hb2⟩
  go_wp2
  go_ret2
  exact ⟨ret_two (by rw [HST.out]) (by rw [HST.out]), below_next hb1 hb2⟩
 ·have hk : hasK (rowKeys wo.rows) key = false := by simpa using hk
  have HST := Lib.hid (show statIn wo.rows key st = (0, 0) by rw [statIn, hk]; rfl)
  go_enter Tryz.func56, Tryz.ntmps56
  go_wp2_with fail
  refine (findRow_any key HO.out HR.out.inc).mono ?_
  rw [hk]
  rintro e w1 ⟨rfl, hb1⟩
  go_wp2
  go_ret2
  exact ⟨ret_two (by rw [HST.out]) (by rw [HST.out]), hb1⟩
theorem set1_same (W : World) (p : Addr) (u : Value) : Same W (W.setCell p u) (fun q => q = p) := by
 refine Same.set (Same.refl W _) ?_ u
 rfl
theorem i64_small {n : Int} (h0 : 0 ≤ n) (h1 : n ≤ 1099511627776) : i64 n := by unfold i64; omega
set_option maxHeartbeats 1000000 in
theorem tick_any (h : Own w t Z B bx bC wo) (h0 : 0 ≤ wo.clock) (h1 : wo.clock ≤ 1099511627376) :
 Calls Tryz.prog 46 #[.pointer (some ⟨bx, 0, none⟩)] w fun e w' => e = .returned (.int .i64 (wo.clock + 1)) ∧ Own w' t Z B bx bC { wo with clock := wo.clock + 1 } ∧ Keeps B Z w w' := by
 have x1 := h.x1
 have f1 := h.xf 1
 have HO := Lib.hid h
 clear h
 go_enter Tryz.func46, Tryz.ntmps46
 go_wp2
 go_ret
 refine ⟨rfl, ?_, (Keeps.refl _ _ _).set HO.out.xB.1 HO.out.xZ _⟩
 have hs := set1_same w ⟨bx, 1, none⟩ (.int .i64 (wo.clock + 1))
 obtain ⟨bR, rc, wb, c0, hrc, ht, hco⟩ := HO.out.core
 refine ⟨⟨HO.out.xB.1, by rw [hs.sz]; exact HO.out.xB.2⟩, HO.out.xZ, fun b e => by rw [hs.sz]; exact HO.out.zlt b e, fun o => (hs.fr _).trans (HO.out.xf o), World.cell?_setCell_same _ _ _ x1, (hs.cell _ (by simp)).trans HO.out.x2, bR, rc, wb, (hs.cell _ (by simp)).trans c0, hrc, ht, hco.tick hs (fun p hp => by rw [hp]; exact .inl rfl) _ (i64_small (by omega) (by omega))⟩
end
theorem fresh_valid {key : ByteArray} (h : keyB key = true) : (freshRow key).ok = true := by
 show rowB key 0 emptyS emptyS [] = true
 exact rowB_parts.2 ⟨h, by simp [roomOf], rfl, lock_zero⟩
theorem inc_ins {ks : List ByteArray} {key : ByteArray} (h : Inc ks) (hk : hasK ks key = false) : Inc (ks.take (lowIx ks key) ++ key :: ks.drop (lowIx ks key)) := by
 unfold Inc
 rw [List.pairwise_append]
 have hlt : ∀ a ∈ ks.take (lowIx ks key), ltS a key = true := by
  intro a ha
  obtain ⟨j, hj, rfl⟩ := List.getElem_of_mem ha
  have hj' : j < lowIx ks key ∧ j < ks.length := by simp at hj; omega
  have := lowIx_lt hj'.1
  simpa [List.getD, hj'.2] using this
 have hgt : ∀ b ∈ ks.drop (lowIx ks key), ltS key b = true := by
  intro b hb
  obtain ⟨j, hj, rfl⟩ := List.getElem_of_mem hb
  have hj' : lowIx ks key + j < ks.length := by simp at hj; omega
  have hl : lowIx ks key < ks.length := by omega
  have h1 := lowIx_ge hl
  have h2 : ltS key (ks.getD (lowIx ks key) default) = true := by
   cases hh : ltS key (ks.getD (lowIx ks key) default) with
   | true => rfl
   | false =>
    have e := ltS_total h1 hh
    simp only [hasK, e, hl, decide_true, Bool.and_self] at hk
    cases hk
  have e : (ks.drop (lowIx ks key))[j] = ks.getD (lowIx ks key + j) default := by simp [List.getD, hj']
  rw [e]
  rcases Nat.eq_zero_or_pos j with h0 | h0
  ·subst h0; exact h2
  ·exact ltS_trans h2 (inc_lt h (by omega) hj')
 refine ⟨h.sublist (List.take_sublist _ _), ?_, ?_⟩
 ·rw [List.pairwise_cons]
  exact ⟨hgt, h.sublist (List.drop_sublist _ _)⟩
 ·intro a ha b hb
  rcases List.mem_cons.1 hb with rfl | hb
  ·exact hlt a ha
  ·exact ltS_trans (hlt a ha) (hgt b hb)
theorem keys_set {rows : List RowM} {i : Nat} {r' : RowM} (h : ∀ hi : i < rows.length, r'.key = rows[i].key) : rowKeys (rows.set i r') = rowKeys rows := by
 apply List.ext_getElem?
 intro j
 simp only [rowKeys, List.getElem?_map, List.getElem?_set]
 by_cases e : i = j
 ·subst e
  by_cases hi : i < rows.length
  ·simp [hi, h hi]
  ·simp [hi]
 ·simp [e]
def OpGood (op : RowM → RowM × Int) : Prop := ∀ r : RowM, r.ok = true → (op r).2 = 0 → (op r).1.ok = true ∧ (op r).1.key = r.key
theorem undoOp_good (st : Int) : OpGood (undoOp st) := fun _ h e => ⟨(undoOp_valid h e).1, (undoOp_valid h e).2.1⟩
theorem chg_ok {rows : List RowM} {key : ByteArray} {op : RowM → RowM × Int} (h : RowsOk rows) (hop : OpGood op) (hk : hasK (rowKeys rows) key = true ∨ keyB key = true) : RowsOk (chgRow rows key op).1 := by
 unfold chgRow
 by_cases hh : hasK (rowKeys rows) key = true
 ·rw [if_pos hh]
  dsimp only
  split
  ·rename_i e
   have hlt := hasK_lt hh
   have hmem := rowAt_mem hh
   obtain ⟨g1, g2⟩ := hop _ (h.ok _ hmem) e
   have hkeys : rowKeys (rows.set (lowIx (rowKeys rows) key) (op (rowAt rows key)).1) = rowKeys rows := keys_set fun hi => by rw [g2]; simp [rowAt, List.getD, hi]
   refine ⟨by rw [hkeys]; exact h.inc, fun r hr => ?_, by simpa using h.len⟩
   rcases List.mem_or_eq_of_mem_set hr with hr | rfl
   ·exact h.ok r hr
   ·exact g1
  ·exact h
 ·have hh' : hasK (rowKeys rows) key = false := by simpa using hh
  rw [if_neg hh]
  split
  ·exact h
  ·rename_i h40
   dsimp only
   split
   ·rename_i e
    have hkb := hk.resolve_left hh
    obtain ⟨g1, g2⟩ := hop _ (fresh_valid hkb) e
    refine ⟨?_, fun r hr => ?_, by simp; omega⟩
    ·have : rowKeys (rows.take (lowIx (rowKeys rows) key) ++ (op (freshRow key)).1 :: rows.drop (lowIx (rowKeys rows) key)) = (rowKeys rows).take (lowIx (rowKeys rows) key) ++ key :: (rowKeys rows).drop (lowIx (rowKeys rows) key) := by
      simp only [rowKeys, List.map_append, List.map_cons, List.map_take, List.map_drop, g2]; rfl
     rw [this]
     exact inc_ins h.inc hh'
    ·rcases List.mem_append.1 hr with hr | hr
     ·exact h.ok r (List.mem_of_mem_take hr)
     ·rcases List.mem_cons.1 hr with rfl | hr
      ·exact g1
      ·exact h.ok r (List.mem_of_mem_drop hr)
   ·exact h
theorem stat_has {rows : List RowM} {key : ByteArray} {st : Int} (h : (statIn rows key st).1 ≠ 0) : hasK (rowKeys rows) key = true := by
 cases hh : hasK (rowKeys rows) key with
 | true => rfl
 | false => rw [statIn, hh] at h; exact absurd rfl h
theorem failRows_snoc (st : Int) (l : List WrM) (x : WrM) (rows : List RowM) : failRows st (l ++ [x]) rows = (if (statIn (failRows st l rows) x.k st).1 = 1 then (chgRow (failRows st l rows) x.k (undoOp st)).1 else failRows st l rows) := by
 induction l generalizing rows with
 | nil => rfl
 | cons y l ih => exact ih _
theorem failRows_ok {st : Int} {l : List WrM} {rows : List RowM} (h : RowsOk rows) : RowsOk (failRows st l rows) := by
 induction l generalizing rows with
 | nil => exact h
 | cons x l ih =>
  refine ih ?_
  split
  ·rename_i e
   exact chg_ok h (undoOp_good st) (.inl (stat_has (by rw [e]; decide)))
  ·exact h
end Go.Proofs.YtambkjnhfejfaaaGreat
namespace Go.Proofs.YtambkjnhfejfaaaGreat
open Go.RowKit
set_option linter.unusedVariables false
def look (rows : List RowM) (k : ByteArray) : RowM := if hasK (rowKeys rows) k then rowAt rows k else freshRow k
theorem look_key (rows : List RowM) (k : ByteArray) : (look rows k).key = k := by
 unfold look
 split
 ·rename_i h; exact rowAt_key h
 ·rfl
theorem look_or (rows : List RowM) (k : ByteArray) : look rows k ∈ rows ∨ look rows k = freshRow k := by
 unfold look
 split
 ·rename_i hk; exact .inl (rowAt_mem hk)
 ·exact .inr rfl
theorem look_valid {rows : List RowM} (h : RowsOk rows) {k : ByteArray} (hk : keyB k = true) : (look rows k).ok = true := by
 rcases look_or rows k with h' | h'
 ·exact h.ok _ h'
 ·rw [h']; exact fresh_valid hk
theorem stat_look {rows : List RowM} (key : ByteArray) {st : Int} (h1 : 1 ≤ st) : statIn rows key st = (stOf (look rows key).ls st (look rows key).recs, cmOf (look rows key).ls st (look rows key).recs) := by
 unfold statIn look
 split
 ·rfl
 ·have h0 : ¬ (0 : Int) = st := by omega
  simp [freshRow, stOf, cmOf, h0, hasRec, firstOf, recOf]
theorem low_at {ks : List ByteArray} (h : Inc ks) {key : ByteArray} {k : Nat} (hk : k < ks.length) (e : ks.getD k default = key) : lowIx ks key = k ∧ hasK ks key = true := by
 have e1 : lowIx ks key = k := lowIx_eq (by omega) (fun j hj => by rw [← e]; exact inc_lt h hj hk) (fun _ => by rw [e, ltS_irrefl])
 exact ⟨e1, by unfold hasK; rw [e1, decide_eq_true hk, decide_eq_true e]; rfl⟩
theorem low_none {ks : List ByteArray} {key : ByteArray} (hn : ∀ i, i < ks.length → ks.getD i default ≠ key) : hasK ks key = false := by
 cases e : hasK ks key with
 | false => rfl
 | true =>
  simp only [hasK, Bool.and_eq_true, decide_eq_true_eq] at e
  exact absurd e.2 (hn _ e.1)
section
variable {α : Type} (f : α → ByteArray)
def insK (l : List α) (x : α) : List α := if hasK (l.map f) (f x) = true then l.set (lowIx (l.map f) (f x)) x else l.take (lowIx (l.map f) (f x)) ++ x :: l.drop (lowIx (l.map f) (f x))
def insP (l : List α) (x : α) (k : Nat) : List α := if k ≤ lowIx (l.map f) (f x) then l.take k else (insK f l x).take (if hasK (l.map f) (f x) = true then k else k + 1)
theorem take_next {α : Type} {m : List α} {j : Nat} {y : α} (h : m[j]? = some y) : m.take (j + 1) = m.take j ++ [y] := by
 obtain ⟨hj, e⟩ := List.getElem?_eq_some_iff.1 h
 rw [List.take_succ_eq_append_getElem hj, e]
variable {f} {l : List α} {x : α}
theorem map_getD {k : Nat} {y : α} (h : l[k]? = some y) : (l.map f).getD k default = f y := by simp [List.getD, h]
theorem insP_zero : insP f l x 0 = [] := by simp [insP]
theorem insP_low {k : Nat} {y : α} (hy : l[k]? = some y) (hk : k < lowIx (l.map f) (f x)) : insP f l x (k + 1) = insP f l x k ++ [y] ∧ ltS (f y) (f x) = true := by
 refine ⟨?_, ?_⟩
 ·rw [insP, if_pos (by omega), insP, if_pos (by omega), take_next hy]
 ·have := lowIx_lt hk
  rwa [map_getD hy] at this
theorem insP_same {y : α} (hy : l[lowIx (l.map f) (f x)]? = some y) (h : hasK (l.map f) (f x) = true) : insP f l x (lowIx (l.map f) (f x) + 1) = insP f l x (lowIx (l.map f) (f x)) ++ [x] ∧ f y = f x := by
 have hlt := (List.getElem?_eq_some_iff.1 hy).1
 refine ⟨?_, ?_⟩
 ·rw [insP, if_neg (by omega), insP, if_pos (Nat.le_refl _), if_pos h, insK, if_pos h]
  rw [take_next (y := x) (by simp [hlt])]
  congr 1
  rw [List.take_set_of_le (Nat.le_refl _)]
 ·simp only [hasK, Bool.and_eq_true, decide_eq_true_eq] at h
  rw [← h.2, map_getD hy]
theorem insP_new {y : α} (hy : l[lowIx (l.map f) (f x)]? = some y) (h : hasK (l.map f) (f x) = false) : insP f l x (lowIx (l.map f) (f x) + 1) = insP f l x (lowIx (l.map f) (f x)) ++ [x] ++ [y] ∧ f y ≠ f x ∧ ltS (f y) (f x) = false := by
 have hlt := (List.getElem?_eq_some_iff.1 hy).1
 have hfx : ¬ hasK (l.map f) (f x) = true := by rw [h]; decide
 have hlen : (l.take (lowIx (l.map f) (f x))).length = lowIx (l.map f) (f x) := by rw [List.length_take]; omega
 refine ⟨?_, ?_, ?_⟩
 ·rw [insP, if_neg (by omega), insP, if_pos (Nat.le_refl _), if_neg hfx, insK, if_neg hfx]
  rw [take_next (j := lowIx (l.map f) (f x) + 1) (y := y) (by rw [List.getElem?_append_right (by omega), hlen, show lowIx (l.map f) (f x) + 1 - lowIx (l.map f) (f x) = 0 + 1 by omega, List.getElem?_cons_succ, List.getElem?_drop, Nat.add_zero]; exact hy)]
  rw [take_next (j := lowIx (l.map f) (f x)) (y := x) (by rw [List.getElem?_append_right (by omega), hlen, Nat.sub_self, List.getElem?_cons_zero])]
  congr 2
  rw [List.take_append_of_le_length (by omega), List.take_take, Nat.min_self]
 ·intro e
  simp only [hasK, Bool.and_eq_false_iff, decide_eq_false_iff_not] at h
  rcases h with h | h
  ·rw [List.length_map] at h; exact h hlt
  ·exact h (by rw [map_getD hy, e])
 ·have := lowIx_ge (ks := l.map f) (key := f x) (by rw [List.length_map]; exact hlt)
  rwa [map_getD hy] at this
theorem insP_hi {k : Nat} (h : lowIx (l.map f) (f x) < k) : insP f l x k = (insK f l x).take (if hasK (l.map f) (f x) = true then k else k + 1) := if_neg (by omega)
theorem insP_high (hi : Inc (l.map f)) {k : Nat} {y : α} (hy : l[k]? = some y) (hk : lowIx (l.map f) (f x) < k) : insP f l x (k + 1) = insP f l x k ++ [y] ∧ f y ≠ f x := by
 have hlt := (List.getElem?_eq_some_iff.1 hy).1
 have hlen : (l.take (lowIx (l.map f) (f x))).length = lowIx (l.map f) (f x) := by rw [List.length_take]; omega
 refine ⟨?_, ?_⟩
 ·rw [insP_hi (show lowIx (l.map f) (f x) < k + 1 by omega), insP_hi hk]
  by_cases h : hasK (l.map f) (f x) = true
  ·rw [if_pos h, if_pos h, insK, if_pos h, take_next (y := y) (by rw [List.getElem?_set_ne (by omega)]; exact hy)]
  ·rw [if_neg h, if_neg h, insK, if_neg h]
   exact take_next (by rw [List.getElem?_append_right (by omega), hlen, show k + 1 - lowIx (l.map f) (f x) = (k - lowIx (l.map f) (f x)) + 1 by omega, List.getElem?_cons_succ, List.getElem?_drop, show lowIx (l.map f) (f x) + (k - lowIx (l.map f) (f x)) = k by omega]; exact hy)
 ·intro e
  have h1 := (low_at hi (key := f x) (k := k) (by rw [List.length_map]; exact hlt) (by rw [map_getD hy, e])).1
  omega
theorem insP_done (h : lowIx (l.map f) (f x) < l.length) : insP f l x l.length = insK f l x := by
 rw [insP, if_neg (by omega)]
 by_cases hh : hasK (l.map f) (f x) = true
 ·rw [if_pos hh, List.take_of_length_le]
  rw [insK, if_pos hh, List.length_set]; exact Nat.le_refl _
 ·rw [if_neg hh, List.take_of_length_le]
  rw [insK, if_neg hh, List.length_append, List.length_take, List.length_cons, List.length_drop]; omega
theorem insP_last (h : lowIx (l.map f) (f x) = l.length) : insP f l x l.length ++ [x] = insK f l x := by
 have hh : ¬ hasK (l.map f) (f x) = true := by
  simp only [hasK, Bool.and_eq_true, decide_eq_true_eq, List.length_map]
  omega
 rw [insP, if_pos (by omega), insK, if_neg hh, h, List.drop_length]
theorem insK_len : (insK f l x).length ≤ l.length + 1 := by
 have := lowIx_le (l.map f) (f x)
 rw [List.length_map] at this
 unfold insK
 split
 ·simp
 ·simp; omega
theorem insP_len (k : Nat) : (insP f l x k).length ≤ l.length + 1 := by
 unfold insP
 split
 ·rw [List.length_take]; omega
 ·rw [List.length_take]; have := insK_len (f := f) (l := l) (x := x); omega
theorem mem_insK {y : α} (h : y ∈ insK f l x) : y = x ∨ y ∈ l := by
 unfold insK at h
 split at h
 ·rcases List.mem_or_eq_of_mem_set h with h | h
  ·exact .inr h
  ·exact .inl h
 ·rcases List.mem_append.1 h with h | h
  ·exact .inr (List.mem_of_mem_take h)
  ·rcases List.mem_cons.1 h with h | h
   ·exact .inl h
   ·exact .inr (List.mem_of_mem_drop h)
end
theorem chg_ins {rows : List RowM} {key : ByteArray} {op : RowM → RowM × Int} (e : (op (look rows key)).2 = 0) (hr : hasK (rowKeys rows) key = true ∨ rows.length < 40) (hk : (op (look rows key)).1.key = key) : chgRow rows key op = (insK RowM.key rows (op (look rows key)).1, 0) := by
 unfold chgRow insK
 rw [hk]
 by_cases h : hasK (rowKeys rows) key = true
 ·have el : look rows key = rowAt rows key := by rw [look, if_pos h]
  rw [if_pos h, if_pos h]
  rw [el] at e ⊢
  rw [if_pos e, e]
 ·have el : look rows key = freshRow key := by rw [look, if_neg h]
  rw [if_neg h, if_neg h]
  rw [el] at e ⊢
  rw [if_neg (by rcases hr with hr | hr; exact absurd hr h; omega), if_pos e, e]
theorem chg_over {rows : List RowM} {key : ByteArray} {op : RowM → RowM × Int} (h : hasK (rowKeys rows) key = false) (hl : 40 ≤ rows.length) : chgRow rows key op = (rows, 1) := by
 unfold chgRow
 rw [if_neg (by rw [h]; decide), if_pos hl]
theorem chg_bad {rows : List RowM} {key : ByteArray} {op : RowM → RowM × Int} (e : (op (look rows key)).2 ≠ 0) (hr : hasK (rowKeys rows) key = true ∨ rows.length < 40) : chgRow rows key op = (rows, (op (look rows key)).2) := by
 unfold chgRow
 by_cases h : hasK (rowKeys rows) key = true
 ·have el : look rows key = rowAt rows key := by rw [look, if_pos h]
  rw [if_pos h]
  rw [el] at e ⊢
  rw [if_neg e]
 ·have el : look rows key = freshRow key := by rw [look, if_neg h]
  rw [if_neg h]
  rw [el] at e ⊢
  rw [if_neg (by rcases hr with hr | hr; exact absurd hr h; omega), if_neg e]
end Go.Proofs.YtambkjnhfejfaaaGreat
namespace Go.Proofs.YtambkjnhfejfaaaGreat
open Go.RowKit
theorem Same.mono {W W' : World} {S S' : Addr → Prop} (h : Same W W' S) (hS : ∀ p, S p → S' p) : Same W W' S' := ⟨fun p hp => h.cell p fun e => hp (hS p e), h.fr, h.sz⟩
theorem Same.trans {W W' W'' : World} {S : Addr → Prop} (h : Same W W' S) (h' : Same W' W'' S) : Same W W'' S := ⟨fun p hp => (h'.cell p hp).trans (h.cell p hp), fun p => (h'.fr p).trans (h.fr p), h'.sz.trans h.sz⟩
theorem getD_of_get {α : Type} {d c : α} {l : List α} {k : Nat} (h : l[k]? = some c) : l.getD k d = c := by simp [List.getD, h]
section
variable {w w' : World} {t : Bool} {Z : Nat → Prop} {B bx bC : Nat} {wo : WoM} {C : Nat} {c c' : ClM}
theorem Own.cl (h : Own w t Z B bx bC wo) (hc : wo.cls[C]? = some c) : w.cell? ⟨bC, C * 5, none⟩ = some (.int .i64 c.ph) ∧ w.cell? ⟨bC, C * 5 + 1, none⟩ = some (.int .i64 c.st) ∧ w.cell? ⟨bC, C * 5 + 2, none⟩ = some (.int .i64 c.cm) ∧ w.cell? ⟨bC, C * 5 + 4, none⟩ = some (.int .i64 c.at_) ∧
 (∃ A k, w.cell? ⟨bC, C * 5 + 3, none⟩ = some (.slice A c.ws.length k) ∧ c.ws.length ≤ k ∧ WrsAt w (· < w.heap.size) A c.ws) ∧ ClOk c ∧ (∀ o, w.frozen? ⟨bC, o, none⟩ = false) ∧ B ≤ bC ∧ ¬ Z bC ∧ C < wo.cls.length := by
 obtain ⟨bR, rc, wb, _, _, _, hco⟩ := h.core
 have hx := hco.cls C c hc
 have hi := (List.getElem?_eq_some_iff.1 hc).1
 obtain ⟨A, k, h3, hk, hw⟩ := hx.cw
 exact ⟨hx.cp, hx.cs, hx.cm, hx.ca, ⟨A, k, h3, hk, SeqAt.wrs hw (fun b hb => by rw [hb]; exact (hco.wB C hi).2.1) (fun _ _ _ => rfl)⟩, hx.ok, hco.cf, hco.cB.1, fun e => hco.cB.2.2 (.inr e), hi⟩
theorem Own.client (h : Own w t Z B bx bC wo) (hc : wo.cls[C]? = some c) (hs : Same w w' (five bC (C * 5))) (hn : ∀ b, ClAt w (· = b) bC (C * 5) c → b ≠ bC → ClAt w' (· = b) bC (C * 5) c') : Own w' t Z B bx bC (wo.setC C c') := by
 obtain ⟨bR, rc, wb, c0, hrc, ht, hco⟩ := h.core
 have hi := (List.getElem?_eq_some_iff.1 hc).1
 have hne : bx ≠ bC := fun e => hco.cB.2.2 (.inl e.symm)
 have hx : ∀ o, w'.cell? ⟨bx, o, none⟩ = w.cell? ⟨bx, o, none⟩ := fun o => hs.cell _ fun e => hne e.1
 refine ⟨⟨h.xB.1, by rw [hs.sz]; exact h.xB.2⟩, h.xZ, fun b e => by rw [hs.sz]; exact h.zlt b e, fun o => (hs.fr _).trans (h.xf o), (hx 1).trans h.x1, ?_, bR, rc, wb, (hx 0).trans c0, hrc, ht, hco.client hi hs (hn _ (hco.cls C c hc) (hco.wB C hi).2.2.2.2)⟩
 rw [hx 2, h.x2]
 simp [WoM.setC]
theorem ClAt.cells {b bC o : Nat} (h : ClAt w (· = b) bC o c) (hne : b ≠ bC) (hs : Same w w' (five bC o)) {A : Option Addr} {k : Nat} (h3 : w.cell? ⟨bC, o + 3, none⟩ = some (.slice A c.ws.length k)) : c.ws.length ≤ k ∧ WrsAt w' (· = b) A c.ws := by
 obtain ⟨A', k', h3', hk, hw⟩ := h.cw
 rw [h3] at h3'
 injection h3' with h3'
 injection h3' with e1 _ e2
 subst e1 e2
 exact ⟨hk, SeqAt.wrs hw (fun _ h => h) fun b' k' hb => hs.cell _ fun e => by
  have e1 : b' = bC := e.1
  have hb' : b' = b := hb
  exact hne (by omega)⟩
theorem i64_zero : i64 0 := by unfold i64; omega
theorem drop_idle (hc : w.cell? ⟨bC, C * 5, none⟩ = some (.int .i64 0)) : Calls Tryz.prog 33 #[.pointer (some ⟨bC, C * 5, none⟩)] w fun e w' => e = .returned (.int .i64 6) ∧ w = w' := by
 go_enter Tryz.func33, Tryz.ntmps33
 go_wp2
 go_ret
 exact ⟨rfl, rfl⟩
set_option maxHeartbeats 1000000 in
theorem drop_any (h : Own w t Z B bx bC wo) (hc : wo.cls[C]? = some c) (h0 : c.ph ≠ 0) :
 Calls Tryz.prog 33 #[.pointer (some ⟨bC, C * 5, none⟩)] w fun e w' => e = .returned (.int .i64 0) ∧ Own w' t Z B bx bC (wo.setC C idleC) ∧ Keeps B Z w w' := by
 obtain ⟨c0, c1, c2, c4, ⟨A, k, c3, _, _⟩, _, hf, hB, hZ, _⟩ := h.cl hc
 have f0 := hf (C * 5)
 have f1 := hf (C * 5 + 1)
 have f2 := hf (C * 5 + 2)
 have f3 := hf (C * 5 + 3)
 have f4 := hf (C * 5 + 4)
 have HO := Lib.hid h
 have HC := Lib.hid hc
 have h0' : (c.ph == 0) = false := by simpa using h0
 have HZ := Lib.hid hZ
 clear h hc hf h0 hZ
 go_enter Tryz.func33, Tryz.ntmps33
 go_wp2
 go_ret
 refine ⟨rfl, ?_, (Keeps.refl _ _ _).set5 hB HZ.out _ _ _ _ _ _⟩
 obtain ⟨a0, a1, a2, a3, a4⟩ := set5_at c0 c1 c2 c3 c4 (.int .i64 0) (.int .i64 0) (.int .i64 0) (.slice none 0 0) (.int .i64 0)
 exact HO.out.client HC.out (set5_same _ _ _ _ _ _ _ _) fun b _ _ => ⟨a0, a1, a2, ⟨none, 0, a3, Nat.le_refl _, SeqAt.nil_ _⟩, a4, i64_zero, i64_zero, i64_zero, i64_zero⟩
def AnsOut (t : Bool) (Z : Nat → Prop) (B bx bC : Nat) (x : WoM × AnsM) (w : World) (e : Ending) (w' : World) : Prop := e = .returned (ansV x.2) ∧ Own w' t Z B bx bC x.1 ∧ Keeps B Z w w'
def RowsTurn (bx : Nat) (w w' : World) : Prop := ∀ bR n rc, w.cell? ⟨bx, 0, none⟩ = some (.slice (some ⟨bR, 0, none⟩) n rc) → ∀ b, b < w.heap.size → b ≠ bR → w'.heap[b]? = w.heap[b]?
def NumOut (t : Bool) (Z : Nat → Prop) (B bx bC : Nat) (x : WoM × Int) (w : World) (e : Ending) (w' : World) : Prop := e = .returned (.int .i64 x.2) ∧ Own w' t Z B bx bC x.1 ∧ Keeps B Z w w'
def FoundOut (t : Bool) (Z : Nat → Prop) (B bx bC : Nat) (x : WoM × Int) (w : World) (e : Ending) (w' : World) : Prop := NumOut t Z B bx bC x w e w' ∧ RowsTurn bx w w'
end
theorem ans_new (w : World) : ∃ W0, W0 = w.alloc (.cells #[.int .i64 0, .bool false, .string ⟨#[]⟩, .int .i64 0, .int .i64 0] 31) ∧ Below w.heap.size w W0 ∧ W0.heap.size = w.heap.size + 1 ∧
 W0.cell? ⟨w.heap.size, 0, none⟩ = some (.int .i64 0) ∧ W0.cell? ⟨w.heap.size, 1, none⟩ = some (.bool false) ∧ W0.cell? ⟨w.heap.size, 2, none⟩ = some (.string ⟨#[]⟩) ∧ W0.cell? ⟨w.heap.size, 3, none⟩ = some (.int .i64 0) ∧ W0.cell? ⟨w.heap.size, 4, none⟩ = some (.int .i64 0) ∧ (∀ o, W0.frozen? ⟨w.heap.size, o, none⟩ = false) :=
 ⟨_, rfl, below_alloc (Below.refl _ _) _, by simp, by simp, by simp, by simp, by simp, by simp, fun o => by simp⟩
theorem ans_later {W0 W : World} {g B : Nat} {Z : Nat → Prop} (hk : Keeps B Z W0 W) (hg : g < W0.heap.size) (hz : Z g) (c0 : W0.cell? ⟨g, 0, none⟩ = some (.int .i64 0)) (c1 : W0.cell? ⟨g, 1, none⟩ = some (.bool false)) (c2 : W0.cell? ⟨g, 2, none⟩ = some (.string ⟨#[]⟩)) (c3 : W0.cell? ⟨g, 3, none⟩ = some (.int .i64 0)) (c4 : W0.cell? ⟨g, 4, none⟩ = some (.int .i64 0)) (f : ∀ o, W0.frozen? ⟨g, o, none⟩ = false) :
 W.cell? ⟨g, 0, none⟩ = some (.int .i64 0) ∧ W.cell? ⟨g, 1, none⟩ = some (.bool false) ∧ W.cell? ⟨g, 2, none⟩ = some (.string ⟨#[]⟩) ∧ W.cell? ⟨g, 3, none⟩ = some (.int .i64 0) ∧ W.cell? ⟨g, 4, none⟩ = some (.int .i64 0) ∧ W.frozen? ⟨g, 0, none⟩ = false ∧ W.frozen? ⟨g, 1, none⟩ = false ∧ W.frozen? ⟨g, 2, none⟩ = false ∧ W.frozen? ⟨g, 3, none⟩ = false ∧ W.frozen? ⟨g, 4, none⟩ = false :=
 ⟨(hk.cell hg hz 0).trans c0, (hk.cell hg hz 1).trans c1, (hk.cell hg hz 2).trans c2, (hk.cell hg hz 3).trans c3, (hk.cell hg hz 4).trans c4, (hk.frozen hg hz 0).trans (f 0), (hk.frozen hg hz 1).trans (f 1), (hk.frozen hg hz 2).trans (f 2), (hk.frozen hg hz 3).trans (f 3), (hk.frozen hg hz 4).trans (f 4)⟩
section
variable {w w' W W0 : World} {t : Bool} {Z : Nat → Prop} {B bx bC : Nat} {wo : WoM} {C : Nat} {c c' : ClM}
theorem Own.same {S : Addr → Prop} (h : Own w t Z B bx bC wo) (hs : Same w w' S) (hS : ∀ p, S p → Z p.block) : Own w' t Z B bx bC wo := by
 obtain ⟨bR, rc, wb, c0, hrc, ht, hco⟩ := h.core
 have hx : ∀ o, w'.cell? ⟨bx, o, none⟩ = w.cell? ⟨bx, o, none⟩ := fun o => hs.cell _ fun e => h.xZ (hS _ e)
 exact ⟨⟨h.xB.1, by rw [hs.sz]; exact h.xB.2⟩, h.xZ, fun b e => by rw [hs.sz]; exact h.zlt b e, fun o => (hs.fr _).trans (h.xf o), (hx 1).trans h.x1, (hx 2).trans h.x2, bR, rc, wb, (hx 0).trans c0, hrc, ht, hco.tick hs (fun p e => .inr (hS p e)) wo.clock hco.ck⟩
theorem Own.base (h : Own w t Z B bx bC wo) : B ≤ w.heap.size := by have := h.xB; omega
theorem i64_one : i64 1 := by unfold i64; omega
theorem ans_end {g : Nat} {t' : Bool} {c0 : WoM} (h0 : Own w t Z B bx bC c0) (hb0 : Below w.heap.size w W0) (hg : g = w.heap.size) (ho : Own W t' (fun b => Z b ∨ b = g) B bx bC wo) (hk : Keeps B (fun b => Z b ∨ b = g) W0 W) (v0 v1 v2 v3 v4 : Value) :
 Own (set5 W g 0 v0 v1 v2 v3 v4) t' Z B bx bC wo ∧ Keeps B Z w (set5 W g 0 v0 v1 v2 v3 v4) := by
 have hzg : ¬ Z g := fun e => by have := h0.zlt g e; omega
 have hB := h0.base
 refine ⟨(ho.same (set5_same W g 0 v0 v1 v2 v3 v4) fun p e => .inr e.1).less fun b e => .inl e, ?_⟩
 exact ((Keeps.new hB hb0).trans (hk.less fun b e => .inl e)).set5 (by omega) hzg _ _ _ _ _ _
theorem setC_get (hC : C < wo.cls.length) : (wo.setC C c').cls[C]? = some c' := by simp [WoM.setC, hC]
theorem setC_setC {c1 c2 : ClM} : (wo.setC C c1).setC C c2 = wo.setC C c2 := by simp [WoM.setC]
theorem cell_ne (b o o' : Nat) (h : o ≠ o') : (⟨b, o, none⟩ : Addr) ≠ ⟨b, o', none⟩ := fun e => h (by injection e)
theorem Own.ph (h : Own w t Z B bx bC wo) (hc : wo.cls[C]? = some c) {v : Int} (hv : i64 v) : Own (w.setCell ⟨bC, C * 5, none⟩ (.int .i64 v)) t Z B bx bC (wo.setC C { c with ph := v }) := by
 obtain ⟨c0, c1, c2, c4, ⟨A, k, c3, _, _⟩, hok, _⟩ := h.cl hc
 have hs := set1_same w ⟨bC, C * 5, none⟩ (.int .i64 v)
 have hs5 := hs.mono (S' := five bC (C * 5)) fun p e => by rw [e]; exact ⟨rfl, Nat.le_refl _, by show C * 5 < C * 5 + 5; omega⟩
 refine h.client hc hs5 fun b hcl hne => ?_
 obtain ⟨hk, hw⟩ := hcl.cells hne hs5 c3
 exact ⟨World.cell?_setCell_same _ _ _ c0, (hs.cell _ (cell_ne _ _ _ (by omega))).trans c1, (hs.cell _ (cell_ne _ _ _ (by omega))).trans c2, ⟨A, k, (hs.cell _ (cell_ne _ _ _ (by omega))).trans c3, hk, hw⟩, (hs.cell _ (cell_ne _ _ _ (by omega))).trans c4, hv, hok.s, hok.m, hok.a⟩
theorem Own.cm (h : Own w t Z B bx bC wo) (hc : wo.cls[C]? = some c) {v : Int} (hv : i64 v) : Own (w.setCell ⟨bC, C * 5 + 2, none⟩ (.int .i64 v)) t Z B bx bC (wo.setC C { c with cm := v }) := by
 obtain ⟨c0, c1, c2, c4, ⟨A, k, c3, _, _⟩, hok, _⟩ := h.cl hc
 have hs := set1_same w ⟨bC, C * 5 + 2, none⟩ (.int .i64 v)
 have hs5 := hs.mono (S' := five bC (C * 5)) fun p e => by rw [e]; exact ⟨rfl, by show C * 5 ≤ C * 5 + 2; omega, by show C * 5 + 2 < C * 5 + 5; omega⟩
 refine h.client hc hs5 fun b hcl hne => ?_
 obtain ⟨hk, hw⟩ := hcl.cells hne hs5 c3
 exact ⟨(hs.cell _ (cell_ne _ _ _ (by omega))).trans c0, (hs.cell _ (cell_ne _ _ _ (by omega))).trans c1, World.cell?_setCell_same _ _ _ c2, ⟨A, k, (hs.cell _ (cell_ne _ _ _ (by omega))).trans c3, hk, hw⟩, (hs.cell _ (cell_ne _ _ _ (by omega))).trans c4, hok.p, hok.s, hv, hok.a⟩
theorem Own.at_ (h : Own w t Z B bx bC wo) (hc : wo.cls[C]? = some c) {v : Int} (hv : i64 v) : Own (w.setCell ⟨bC, C * 5 + 4, none⟩ (.int .i64 v)) t Z B bx bC (wo.setC C { c with at_ := v }) := by
 obtain ⟨c0, c1, c2, c4, ⟨A, k, c3, _, _⟩, hok, _⟩ := h.cl hc
 have hs := set1_same w ⟨bC, C * 5 + 4, none⟩ (.int .i64 v)
 have hs5 := hs.mono (S' := five bC (C * 5)) fun p e => by rw [e]; exact ⟨rfl, by show C * 5 ≤ C * 5 + 4; omega, by show C * 5 + 4 < C * 5 + 5; omega⟩
 refine h.client hc hs5 fun b hcl hne => ?_
 obtain ⟨hk, hw⟩ := hcl.cells hne hs5 c3
 exact ⟨(hs.cell _ (cell_ne _ _ _ (by omega))).trans c0, (hs.cell _ (cell_ne _ _ _ (by omega))).trans c1, (hs.cell _ (cell_ne _ _ _ (by omega))).trans c2, ⟨A, k, (hs.cell _ (cell_ne _ _ _ (by omega))).trans c3, hk, hw⟩, World.cell?_setCell_same _ _ _ c4, hok.p, hok.s, hok.m, hv⟩
set_option maxHeartbeats 2000000 in
theorem begin_any (h : Own w t Z B bx bC wo) (hc : wo.cls[C]? = some c) (h0 : 0 ≤ wo.clock) (h1 : wo.clock ≤ 1099511627376) :
 Calls Tryz.prog 29 #[.pointer (some ⟨bx, 0, none⟩), .pointer (some ⟨bC, C * 5, none⟩)] w (AnsOut t Z B bx bC (beginW wo C c) w) := by
 obtain ⟨W0, hW, hb0, hs0, z0, z1, z2, z3, z4, zf⟩ := ans_new w
 have hg : w.heap.size < W0.heap.size := by omega
 have HW := Lib.hid hW
 have HB0 := Lib.hid hb0
 have HO0 := Lib.hid h
 have HO := Lib.hid (h.more hb0 (Nat.le_refl _) hg)
 have HC := Lib.hid hc
 have HZF := Lib.hid zf
 obtain ⟨c0, c1, c2, c4, ⟨A, k, c3, _, _⟩, _, hf, hB, hZ, _⟩ := h.cl hc
 have hbC : bC < w.heap.size := World.block_lt_of_cell? w _ c0
 clear h hc hW hb0 hs0 zf hf hZ
 by_cases hp : c.ph = 0
 ·have HP := Lib.hid hp
  have hp' : (c.ph != 0) = false := by simpa using hp
  have HBW := Lib.hid (show beginW wo C c = (⟨wo.rows, wo.clock + 1, wo.cls.set C ⟨1, wo.clock + 1, 0, [], 0⟩⟩, ansTime (wo.clock + 1)) by rw [beginW, if_pos hp])
  clear hp c1 c2 c3 c4 hB
  go_enter Tryz.func29, Tryz.ntmps29
  go_wp2_with fail
  rw [← HW.out]
  refine (tick_any HO.out h0 h1).mono ?_
  rintro e w1 ⟨rfl, ho1, hk1⟩
  obtain ⟨c0, c1, c2, c4, ⟨A, k, c3, _, _⟩, _, hf, hB, hZ, _⟩ := ho1.cl HC.out
  have f0 := hf (C * 5)
  have f1 := hf (C * 5 + 1)
  have f2 := hf (C * 5 + 2)
  have f3 := hf (C * 5 + 3)
  have f4 := hf (C * 5 + 4)
  obtain ⟨y0, y1, y2, y3, y4, g0, g1, g2, g3, g4⟩ := ans_later hk1 hg (.inr rfl) z0 z1 z2 z3 z4 HZF.out
  have HO1 := Lib.hid ho1
  have HK1 := Lib.hid hk1
  have HZ := Lib.hid hZ
  have hne : w.heap.size ≠ bC := fun e => hZ (.inr e.symm)
  have hne' : bC ≠ w.heap.size := fun e => hZ (.inr e)
  clear ho1 hk1 hf hZ
  go_wp2
  obtain ⟨a0, a1, a2, a3, a4⟩ := set5_at c0 c1 c2 c3 c4 (.int .i64 1) (.int .i64 (wo.clock + 1)) (.int .i64 0) (.slice none 0 0) (.int .i64 0)
  have hcl := i64_small (n := wo.clock + 1) (by omega) (by omega)
  have hoW := HO1.out.client (c' := ⟨1, wo.clock + 1, 0, [], 0⟩) HC.out (set5_same w1 bC (C * 5) (.int .i64 1) (.int .i64 (wo.clock + 1)) (.int .i64 0) (.slice none 0 0) (.int .i64 0)) fun b _ _ => ⟨a0, a1, a2, ⟨none, 0, a3, Nat.le_refl _, SeqAt.nil_ _⟩, a4, i64_one, hcl, i64_zero, i64_zero⟩
  have hkW := HK1.out.set5 hB HZ.out (C * 5) (.int .i64 1) (.int .i64 (wo.clock + 1)) (.int .i64 0) (.slice none 0 0) (.int .i64 0)
  obtain ⟨hA, hK⟩ := ans_end HO0.out HB0.out rfl hoW hkW (.int .i64 0) (.bool false) (.string ⟨#[]⟩) (.int .i64 0) (.int .i64 (wo.clock + 1))
  rw [HBW.out]
  exact bodyPost_ret (v := ansV (ansTime (wo.clock + 1))) (by simp [results, Tryz.results29, go_sem, y0, y1, y2, y3, y4, ansTime]) rfl ⟨rfl, hA, hK⟩
 ·have hp' : (c.ph != 0) = true := by simpa using hp
  have HBW := Lib.hid (show beginW wo C c = (wo, ansCode 6) by rw [beginW, if_neg hp])
  clear hp c1 c2 c3 c4 hB
  go_enter Tryz.func29, Tryz.ntmps29
  go_wp2
  rw [HBW.out]
  have hal : Below w.heap.size w (w.alloc (.cells #[.int .i64 6, .bool false, .string ⟨#[]⟩, .int .i64 0, .int .i64 0] 31)) := below_alloc (Below.refl _ _) _
  exact bodyPost_ret (v := ansV (ansCode 6)) (by simp [results, Tryz.results29, go_sem, ansCode]) rfl ⟨rfl, HO0.out.upto hal, Keeps.new HO0.out.base hal⟩
set_option maxHeartbeats 2000000 in
theorem seal_any (h : Own w t Z B bx bC wo) (hc : wo.cls[C]? = some c) (h0 : 0 ≤ wo.clock) (h1 : wo.clock ≤ 1099511627376) :
 Calls Tryz.prog 53 #[.pointer (some ⟨bx, 0, none⟩), .pointer (some ⟨bC, C * 5, none⟩)] w (AnsOut t Z B bx bC (sealW wo C c) w) := by
 obtain ⟨W0, hW, hb0, hs0, z0, z1, z2, z3, z4, zf⟩ := ans_new w
 have hg : w.heap.size < W0.heap.size := by omega
 have HW := Lib.hid hW
 have HB0 := Lib.hid hb0
 have HO0 := Lib.hid h
 have HO := Lib.hid (h.more hb0 (Nat.le_refl _) hg)
 have HC := Lib.hid hc
 have HZF := Lib.hid zf
 clear h hc hW hb0 hs0 zf
 go_enter Tryz.func53, Tryz.ntmps53
 go_wp2_with fail
 rw [← HW.out]
 refine (tick_any HO.out h0 h1).mono ?_
 rintro e w1 ⟨rfl, ho1, hk1⟩
 obtain ⟨c0, c1, c2, c4, ⟨A, k, c3, _, _⟩, hok, hf, hB, hZ, _⟩ := ho1.cl HC.out
 have f0 := hf (C * 5)
 have f2 := hf (C * 5 + 2)
 have f4 := hf (C * 5 + 4)
 obtain ⟨y0, y1, y2, y3, y4, g0, g1, g2, g3, g4⟩ := ans_later hk1 hg (.inr rfl) z0 z1 z2 z3 z4 HZF.out
 have HO1 := Lib.hid ho1
 have HK1 := Lib.hid hk1
 have HZ := Lib.hid hZ
 have hne : w.heap.size ≠ bC := fun e => hZ (.inr e.symm)
 have hne' : bC ≠ w.heap.size := fun e => hZ (.inr e)
 have HOK := Lib.hid hok
 clear ho1 hk1 hf hZ hok
 go_wp2
 have hC : C < wo.cls.length := (List.getElem?_eq_some_iff.1 HC.out).1
 have hcl := i64_small (n := wo.clock + 1) (by omega) (by omega)
 have o1 := HO1.out.ph (v := 3) HC.out (by unfold i64; omega)
 have o2 := o1.cm (v := wo.clock + 1) (setC_get hC) hcl
 have o3 := o2.at_ (v := 0) (setC_get (by simpa [WoM.setC] using hC)) i64_zero
 rw [setC_setC, setC_setC] at o3
 have hkW := (((HK1.out.set (p := ⟨bC, C * 5, none⟩) hB HZ.out (.int .i64 3)).set (p := ⟨bC, C * 5 + 2, none⟩) hB HZ.out (.int .i64 (wo.clock + 1))).set (p := ⟨bC, C * 5 + 4, none⟩) hB HZ.out (.int .i64 0))
 obtain ⟨hA, hK⟩ := ans_end HO0.out HB0.out rfl o3 hkW (.int .i64 0) (.bool false) (.string ⟨#[]⟩) (.int .i64 0) (.int .i64 (wo.clock + 1))
 exact bodyPost_ret (v := ansV (ansTime (wo.clock + 1))) (by simp [results, Tryz.results53, go_sem, y0, y1, y2, y3, y4, ansTime]) rfl ⟨rfl, hA, hK⟩
set_option maxHeartbeats 1000000 in
theorem accessError_any (key : ByteArray) (h : Own w t Z B bx bC wo) (hc : wo.cls[C]? = some c) (hk : key.size ≤ maxLen) :
 Calls Tryz.prog 47 #[.pointer (some ⟨bC, C * 5, none⟩), .string key] w fun e w' => e = .returned (.int .i64 (accessE c key)) ∧ w = w' := by
 obtain ⟨c0, _⟩ := h.cl hc
 have HK := Lib.hid hk
 clear h hc hk
 by_cases hp : c.ph = 1
 ·have hp' : (c.ph != 1) = false := by simpa using hp
  have HP := Lib.hid hp
  clear hp
  by_cases t : keyB key = true
  all_goals
   try (have t' : keyB key = false := by simpa using t)
   go_enter Tryz.func47, Tryz.ntmps47
   go_wp2_with (go_at_call 55; refine (key_any _ _ HK.out).mono ?_; rintro e w' ⟨rfl, rfl⟩)
   go_ret
   exact ⟨ret_int (by simp_all [accessE, HP.out]), rfl⟩
 ·have hp' : (c.ph != 1) = true := by simpa using hp
  have HP := Lib.hid hp
  clear hp
  go_enter Tryz.func47, Tryz.ntmps47
  go_wp2_with (go_at_call 55; refine (key_any _ _ HK.out).mono ?_; rintro e w' ⟨rfl, rfl⟩)
  go_ret
  exact ⟨ret_int (by simp [accessE, HP.out]), rfl⟩
set_option maxHeartbeats 1000000 in
theorem findWrite_any (key : ByteArray) (h : Own w t Z B bx bC wo) (hc : wo.cls[C]? = some c) (hs : Inc (wrKeys c.ws)) :
 Calls Tryz.prog 48 #[.pointer (some ⟨bC, C * 5, none⟩), .string key] w fun e w' => e = .returned (.tuple #[.int .i64 (lowIx (wrKeys c.ws) key), .bool (hasK (wrKeys c.ws) key)]) ∧ Below w.heap.size w w' := by
 obtain ⟨_, _, _, _, ⟨A, k, c3, _, hw⟩, _⟩ := h.cl hc
 have HW := Lib.hid hw
 have HS := Lib.hid hs
 clear h hc hw hs
 go_enter Tryz.func48, Tryz.ntmps48
 go_wp2_with fail
 refine (searchWrs_any c.ws key _ _ k w rfl HW.out HS.out).mono ?_
 rintro e w1 ⟨rfl, hb1⟩
 go_wp2
 go_ret2
 exact ⟨rfl, hb1⟩
end
theorem RowAt.five {w : World} {P : Nat → Prop} {b o : Nat} {r : RowM} (h : RowAt w P b o r) : ∀ k, k < 5 → ∃ v, w.cell? ⟨b, o + k, none⟩ = some v ∧ v.oneCell' = true := by
 intro k hk
 obtain ⟨A, c, h4, _, _⟩ := h.cr
 match k, hk with
 | 0, _ => exact ⟨_, h.ck, rfl⟩
 | 1, _ => exact ⟨_, h.cs, rfl⟩
 | 2, _ => exact ⟨_, h.cp, rfl⟩
 | 3, _ => exact ⟨_, h.cv, rfl⟩
 | 4, _ => exact ⟨_, h4, rfl⟩
theorem RowAt.move {w w' : World} {P P' : Nat → Prop} {b o b' o' : Nat} {r : RowM} (h : RowAt w P b o r) (hP : ∀ b, P b → P' b) (hk : ∀ b k, P b → w'.cell? ⟨b, k, none⟩ = w.cell? ⟨b, k, none⟩) (hb : ∀ k, k < 5 → w'.cell? ⟨b', o' + k, none⟩ = w.cell? ⟨b, o + k, none⟩) : RowAt w' P' b' o' r := by
 obtain ⟨A, c, h4, hc, hr⟩ := h.cr
 exact ⟨(hb 0 (by omega)).trans h.ck, (hb 1 (by omega)).trans h.cs, (hb 2 (by omega)).trans h.cp, (hb 3 (by omega)).trans h.cv, ⟨A, c, (hb 4 (by omega)).trans h4, hc, hr.mono hP hk⟩, h.ok⟩
theorem rows_cells {w : World} {P : Nat → Prop} {b : Nat} {l : List RowM} (h : ∀ i r, l[i]? = some r → RowAt w P b (i * 5) r) : ∃ cs : List Value, cs.length = l.length * 5 ∧ CellsAt w b 0 cs ∧ ∀ v ∈ cs, v.oneCell' = true := by
 have hx : ∀ j, j < l.length * 5 → ∃ v, w.cell? ⟨b, j, none⟩ = some v ∧ v.oneCell' = true := by
  intro j hj
  have hi : j / 5 < l.length := by omega
  obtain ⟨v, hv, h1⟩ := (h (j / 5) _ (List.getElem?_eq_getElem hi)).five (j % 5) (by omega)
  rw [show j / 5 * 5 + j % 5 = j by omega] at hv
  exact ⟨v, hv, h1⟩
 refine ⟨(List.range (l.length * 5)).map fun j => (w.cell? ⟨b, j, none⟩).getD undef, by simp, fun j v hj => ?_, fun v hv => ?_⟩
 ·have hjl : j < l.length * 5 := by have := (List.getElem?_eq_some_iff.1 hj).1; simpa using this
  obtain ⟨u, hu, _⟩ := hx j hjl
  rw [Nat.zero_add, hu]
  simp [hjl, hu] at hj
  rw [hj]
 ·obtain ⟨j, hj, rfl⟩ := List.mem_map.1 hv
  obtain ⟨u, hu, h1⟩ := hx j (List.mem_range.1 hj)
  rw [hu]; exact h1
section
variable {w1 w w' : World} {t : Bool} {Z : Nat → Prop} {B bx bC bR : Nat} {wo : WoM}
theorem Own.open_ (h : Own w t Z B bx bC wo) {n rc : Nat} (h0 : w.cell? ⟨bx, 0, none⟩ = some (.slice (some ⟨bR, 0, none⟩) n rc)) : ∃ wb, n = wo.rows.length ∧ n ≤ rc ∧ (t = true → rc = n) ∧ Core w B (fun b => b = bx ∨ Z b) bR bC wb wo := by
 obtain ⟨bR', rc', wb, c0, hrc, ht, hco⟩ := h.core
 rw [h0] at c0
 injection c0 with c0
 injection c0 with e1 e2 e3
 injection e1 with e1
 injection e1 with e1
 subst e1 e2 e3
 exact ⟨wb, rfl, hrc, ht, hco⟩
theorem Own.row (h1 : Own w1 t Z B bx bC wo) (hb : Below w1.heap.size w1 w) {n rc : Nat} (h0 : w1.cell? ⟨bx, 0, none⟩ = some (.slice (some ⟨bR, 0, none⟩) n rc)) {i : Nat} {r : RowM} (hi : i < wo.rows.length) (hs : Same w w' (five bR (i * 5))) {A : Option Addr} {c : Nat}
 (a0 : w'.cell? ⟨bR, i * 5, none⟩ = some (.string r.key)) (a1 : w'.cell? ⟨bR, i * 5 + 1, none⟩ = some (.int .i64 r.ls)) (a2 : w'.cell? ⟨bR, i * 5 + 2, none⟩ = some (.string r.lp)) (a3 : w'.cell? ⟨bR, i * 5 + 3, none⟩ = some (.string r.val)) (a4 : w'.cell? ⟨bR, i * 5 + 4, none⟩ = some (.slice A r.recs.length c))
 (hc : r.recs.length ≤ c) (hrec : RecsAt w w.heap.size A r.recs) (hnew : NewAt w1.heap.size A) (hok : RowOk r) : Own w' t Z B bx bC { wo with rows := wo.rows.set i r } := by
 obtain ⟨wb, hn, hrc, ht, hco1⟩ := h1.open_ h0
 have hco := hco1.upto (X' := fun b => b = bx ∨ Z b) hb fun _ _ h => h
 have hw := h1.upto hb
 have hne : bx ≠ bR := fun e => hco1.rB.2.2 (.inl e.symm)
 have hx : ∀ o, w'.cell? ⟨bx, o, none⟩ = w.cell? ⟨bx, o, none⟩ := fun o => hs.cell _ fun e => hne e.1
 have hx0 : w.cell? ⟨bx, 0, none⟩ = some (.slice (some ⟨bR, 0, none⟩) n rc) := (hb.cell (p := ⟨bx, 0, none⟩) h1.xB.2).trans h0
 refine ⟨⟨hw.xB.1, by rw [hs.sz]; exact hw.xB.2⟩, hw.xZ, fun b e => by rw [hs.sz]; exact hw.zlt b e, fun o => (hs.fr _).trans (hw.xf o), (hx 1).trans hw.x1, (hx 2).trans hw.x2, bR, rc, wb, ?_, by simpa [← hn] using hrc, fun e => by simpa [← hn] using ht e, hco.row hi hs ⟨a0, a1, a2, a3, ⟨A, c, a4, hc, ?_⟩, hok⟩⟩
 ·rw [hx 0, hx0, hn]; simp
 ·refine (RecsAt.in_ (P := OwnP w.heap.size (fun b => b = bx ∨ Z b) bR bC wb wo.cls.length) hrec fun ad hA hlt => ?_).mono (fun _ h => h) fun b k hp => hs.cell _ fun e => hp.2.2.1 e.1
  have hge := hnew ad hA
  refine ⟨hlt, fun e => ?_, ?_, ?_, fun j hj => ?_⟩
  ·rcases e with e | e
   ·have := h1.xB.2; omega
   ·have := h1.zlt _ e; omega
  ·have := hco1.rB.2.1; omega
  ·have := hco1.cB.2.1; omega
  ·have := (hco1.wB j hj).2.1; omega
theorem Own.ins (h1 : Own w1 t Z B bx bC wo) (hb : Below w1.heap.size w1 w) {n rc : Nat} (h0 : w1.cell? ⟨bx, 0, none⟩ = some (.slice (some ⟨bR, 0, none⟩) n rc)) {i g cg : Nat} {r : RowM} (hi : i ≤ wo.rows.length) {cs vs : List Value} (hcl : cs.length = wo.rows.length * 5) (hvl : vs.length = 5) (hcs : CellsAt w1 bR 0 cs)
 (hg : w1.heap.size ≤ g) (hgw : g < w.heap.size) (hgf : ∀ o, w.frozen? ⟨g, o, none⟩ = false) (hcap : wo.rows.length + 1 ≤ cg) (hcells : CellsAt w g 0 (cs.take (i * 5) ++ vs ++ cs.drop (i * 5))) {A : Option Addr} {c : Nat} (hv : vs = [.string r.key, .int .i64 r.ls, .string r.lp, .string r.val, .slice A r.recs.length c])
 (hc : r.recs.length ≤ c) {s : Nat} (hrec : RecsAt w s A r.recs) (hsg : s ≤ g) (hnew : NewAt w1.heap.size A) (hok : RowOk r) (hlen : wo.rows.length + 1 ≤ 1759218604441) :
 Own (w.setCell ⟨bx, 0, none⟩ (.slice (some ⟨g, 0, none⟩) (wo.rows.length + 1) cg)) false Z B bx bC { wo with rows := wo.rows.take i ++ r :: wo.rows.drop i } := by
 obtain ⟨wb, hn, hrc, ht, hco1⟩ := h1.open_ h0
 have hw := h1.upto hb
 have hs := set1_same w ⟨bx, 0, none⟩ (.slice (some ⟨g, 0, none⟩) (wo.rows.length + 1) cg)
 have hx0 : w.cell? ⟨bx, 0, none⟩ = some (.slice (some ⟨bR, 0, none⟩) n rc) := (hb.cell (p := ⟨bx, 0, none⟩) h1.xB.2).trans h0
 have hlen' : (wo.rows.take i ++ r :: wo.rows.drop i).length = wo.rows.length + 1 := by simp; omega
 have hb1 : ∀ b o, b < w1.heap.size → b ≠ bx → (w.setCell ⟨bx, 0, none⟩ (.slice (some ⟨g, 0, none⟩) (wo.rows.length + 1) cg)).cell? ⟨b, o, none⟩ = w1.cell? ⟨b, o, none⟩ := fun b o h hne => (hs.cell _ fun e => hne (congrArg Addr.block e)).trans (hb.cell (p := ⟨b, o, none⟩) h)
 have hbx := h1.xB.2
 have hgx : g ≠ bx := by omega
 have hgc : ∀ o, (w.setCell ⟨bx, 0, none⟩ (.slice (some ⟨g, 0, none⟩) (wo.rows.length + 1) cg)).cell? ⟨g, o, none⟩ = w.cell? ⟨g, o, none⟩ := fun o => hs.cell _ fun e => hgx (congrArg Addr.block e)
 have hfr : ∀ b o, b < w1.heap.size → w.frozen? ⟨b, o, none⟩ = w1.frozen? ⟨b, o, none⟩ := (bcell hb).2
 have hsz := hb.size
 refine ⟨⟨hw.xB.1, by rw [hs.sz]; exact hw.xB.2⟩, hw.xZ, fun b e => by rw [hs.sz]; exact hw.zlt b e, fun o => (hs.fr _).trans (hw.xf o), (hs.cell _ (cell_ne _ _ _ (by omega))).trans hw.x1, (hs.cell _ (cell_ne _ _ _ (by omega))).trans hw.x2, g, cg, wb, ?_, by rw [hlen']; exact hcap, (fun e => by cases e), ?_⟩
 ·rw [World.cell?_setCell_same _ _ _ hx0, hlen']
 have hPold : ∀ b, OwnP w1.heap.size (fun b => b = bx ∨ Z b) bR bC wb wo.cls.length b → OwnP (w.setCell ⟨bx, 0, none⟩ (.slice (some ⟨g, 0, none⟩) (wo.rows.length + 1) cg)).heap.size (fun b => b = bx ∨ Z b) g bC wb wo.cls.length b := fun b hp => ⟨by rw [hs.sz]; have := hp.1; omega, hp.2.1, by have := hp.1; omega, hp.2.2.2⟩
 refine ⟨⟨by have := h1.base; omega, by rw [hs.sz]; exact hgw, fun e => ?_⟩, ⟨hco1.cB.1, by rw [hs.sz]; have := hco1.cB.2.1; omega, hco1.cB.2.2⟩, by have := hco1.cB.2.1; omega, fun j hj => ?_, hco1.inj, fun o => (hs.fr _).trans (hgf o), fun o => ((hs.fr _).trans (hfr _ o hco1.cB.2.1)).trans (hco1.cf o), fun j o hj => ((hs.fr _).trans (hfr _ o (hco1.wB j hj).2.1)).trans (hco1.wf j o hj), fun j x hx => ?_, fun j x hx => ?_, by rw [hlen']; exact hlen, hco1.cl, hco1.ck⟩
 ·rcases e with e | e
  ·omega
  ·have := h1.zlt _ e; omega
 ·obtain ⟨q1, q2, q3, q4, q5⟩ := hco1.wB j hj
  exact ⟨q1, by rw [hs.sz]; omega, q3, by omega, q5⟩
 ·have hj : j < wo.rows.length + 1 := by rw [← hlen']; exact (List.getElem?_eq_some_iff.1 hx).1
  rcases Nat.lt_trichotomy j i with hji | hji | hji
  ·have hx' : wo.rows[j]? = some x := by
    rw [List.getElem?_append_left (by simp; omega), List.getElem?_take, if_pos hji] at hx; exact hx
   refine (hco1.rows j x hx').move hPold (fun b k hp => hb1 b k hp.1 fun e => hp.2.1 (.inl e)) fun k hk => ?_
   rw [hgc]
   obtain ⟨v, hv', _⟩ := (hco1.rows j x hx').five k hk
   rw [hv']
   have hjk : cs[j * 5 + k]? = some v := by
    have hlt : j * 5 + k < cs.length := by rw [hcl]; omega
    have := hcs _ _ (List.getElem?_eq_getElem hlt)
    rw [Nat.zero_add, hv'] at this
    rw [List.getElem?_eq_getElem hlt, ← this]
   have := hcells (j * 5 + k) v (by
    rw [List.append_assoc, List.getElem?_append_left (by rw [List.length_take, hcl]; omega), List.getElem?_take, if_pos (by omega)]; exact hjk)
   rwa [Nat.zero_add] at this
  ·subst hji
   have hxr : x = r := by
    rw [List.getElem?_append_right (by simp; omega), List.length_take, show j - min j wo.rows.length = 0 by omega, List.getElem?_cons_zero] at hx
    injection hx with hx; exact hx.symm
   subst hxr
   have hk : ∀ k v, vs[k]? = some v → w.cell? ⟨g, j * 5 + k, none⟩ = some v := fun k v hkv => by
    have := hcells (j * 5 + k) v (by
     have hkl := (List.getElem?_eq_some_iff.1 hkv).1
     rw [List.append_assoc, List.getElem?_append_right (by rw [List.length_take, hcl]; omega), List.length_take, hcl, List.getElem?_append_left (by omega)]
     rw [show j * 5 + k - min (j * 5) (wo.rows.length * 5) = k by omega]; exact hkv)
    rwa [Nat.zero_add] at this
   refine ⟨(hgc _).trans (hk 0 _ (by rw [hv]; rfl)), (hgc _).trans (hk 1 _ (by rw [hv]; rfl)), (hgc _).trans (hk 2 _ (by rw [hv]; rfl)), (hgc _).trans (hk 3 _ (by rw [hv]; rfl)), ⟨A, c, (hgc _).trans (hk 4 _ (by rw [hv]; rfl)), hc, ?_⟩, hok⟩
   refine (RecsAt.in_ (P := OwnP (w.setCell ⟨bx, 0, none⟩ (.slice (some ⟨g, 0, none⟩) (wo.rows.length + 1) cg)).heap.size (fun b => b = bx ∨ Z b) g bC wb wo.cls.length) hrec fun ad hA hlt => ?_).mono (fun _ h => h) fun b k hp => hs.cell _ fun e => hp.2.1 (.inl (congrArg Addr.block e))
   have hge := hnew ad hA
   refine ⟨by rw [hs.sz]; omega, fun e => ?_, by omega, ?_, fun j hj => ?_⟩
   ·rcases e with e | e
    ·omega
    ·have := h1.zlt _ e; omega
   ·have := hco1.cB.2.1; omega
   ·have := (hco1.wB j hj).2.1; omega
  ·have hx' : wo.rows[j - 1]? = some x := by
    rw [List.getElem?_append_right (by simp; omega), List.length_take, show j - min i wo.rows.length = (j - 1 - i) + 1 by omega, List.getElem?_cons_succ, List.getElem?_drop, show i + (j - 1 - i) = j - 1 by omega] at hx; exact hx
   refine (hco1.rows (j - 1) x hx').move hPold (fun b k hp => hb1 b k hp.1 fun e => hp.2.1 (.inl e)) fun k hk => ?_
   rw [hgc]
   obtain ⟨v, hv', _⟩ := (hco1.rows (j - 1) x hx').five k hk
   rw [hv']
   have hjk : cs[(j - 1) * 5 + k]? = some v := by
    have hlt : (j - 1) * 5 + k < cs.length := by rw [hcl]; omega
    have := hcs _ _ (List.getElem?_eq_getElem hlt)
    rw [Nat.zero_add, hv'] at this
    rw [List.getElem?_eq_getElem hlt, ← this]
   have := hcells (j * 5 + k) v (by
    rw [List.append_assoc, List.getElem?_append_right (by rw [List.length_take, hcl]; omega), List.length_take, hcl, List.getElem?_append_right (by omega), hvl, List.getElem?_drop]
    rw [show i * 5 + (j * 5 + k - min (i * 5) (wo.rows.length * 5) - 5) = (j - 1) * 5 + k by omega]; exact hjk)
   rwa [Nat.zero_add] at this
 ·have hj := (List.getElem?_eq_some_iff.1 hx).1
  refine (hco1.cls j x hx).mono (fun _ h => h) (fun b k hp => hb1 b k (by rw [hp]; exact (hco1.wB j hj).2.1) (by rw [hp]; exact fun e => (hco1.wB j hj).2.2.1 (.inl e))) (fun k _ _ => hb1 _ k hco1.cB.2.1 fun e => hco1.cB.2.2 (.inl e))
end
theorem wrsC_take (l : List WrM) (i : Nat) : (wrsC l).take (i * 2) = wrsC (l.take i) := by
 induction l generalizing i with
 | nil => simp [wrsC]
 | cons x l ih =>
  cases i with
  | zero => simp [wrsC]
  | succ i =>
   rw [List.take_succ_cons, wrsC_cons, wrsC_cons, show (i + 1) * 2 = i * 2 + 1 + 1 by omega, List.take_succ_cons, List.take_succ_cons, ih]
theorem wrsC_drop (l : List WrM) (i : Nat) : (wrsC l).drop (i * 2) = wrsC (l.drop i) := by
 induction l generalizing i with
 | nil => simp [wrsC]
 | cons x l ih =>
  cases i with
  | zero => simp [wrsC]
  | succ i =>
   rw [List.drop_succ_cons, wrsC_cons, show (i + 1) * 2 = i * 2 + 1 + 1 by omega, List.drop_succ_cons, List.drop_succ_cons, ih]
theorem wrsC_ins (l : List WrM) (i : Nat) (x : WrM) : wrsC (l.take i ++ x :: l.drop i) = (wrsC l).take (i * 2) ++ [.string x.k, .string x.v] ++ (wrsC l).drop (i * 2) := by
 rw [wrsC_append, wrsC_cons, wrsC_take, wrsC_drop]; simp
theorem wrsAt_cells {w : World} {P : Nat → Prop} {g : Nat} {l : List WrM} (hlen : l.length ≤ 4398046511104) (hok : ∀ x ∈ l, x.k.size ≤ maxLen ∧ x.v.size ≤ maxLen) (hB : P g) (hc : CellsAt w g 0 (wrsC l)) : WrsAt w P (some ⟨g, 0, none⟩) l :=
 SeqAt.block hlen hB fun i r hr => by
  obtain ⟨a0, a1⟩ := wrsC_at hr
  have h0 := hc _ _ a0
  have h1 := hc _ _ a1
  rw [Nat.zero_add] at h0 h1
  exact ⟨h0, h1, hok r (List.mem_of_getElem? hr)⟩
section
variable {w w1 : World} {t : Bool} {Z : Nat → Prop} {B bx bC : Nat} {wo : WoM} {C : Nat} {c : ClM}
theorem Own.xlt (h : Own w t Z B bx bC wo) : ∀ b, (b = bx ∨ Z b) → b < w.heap.size := fun b e => e.elim (fun e => by rw [e]; exact h.xB.2) (h.zlt b)
theorem Own.wrSet (h : Own w t Z B bx bC wo) (hc : wo.cls[C]? = some c) {k b o i : Nat} (c3 : w.cell? ⟨bC, C * 5 + 3, none⟩ = some (.slice (some ⟨b, o, none⟩) c.ws.length k)) (hi : i < c.ws.length) {v : ByteArray} (hv : v.size ≤ maxLen) :
 Own (w.setCell ⟨b, o + i * 2 + 1, none⟩ (.string v)) t Z B bx bC (wo.setC C { c with ws := c.ws.set i ⟨(c.ws.getD i default).k, v⟩ }) ∧ B ≤ b ∧ ¬ Z b ∧ ∀ o, w.frozen? ⟨b, o, none⟩ = false := by
 obtain ⟨bR, rc, wb, x0, hrc, ht, hco⟩ := h.core
 have hC := (List.getElem?_eq_some_iff.1 hc).1
 have hcl := hco.cls C c hc
 obtain ⟨A', k', c3', hq, hw⟩ := hcl.cw
 rw [c3] at c3'
 injection c3' with c3'
 injection c3' with e1 _ e2
 subst e1 e2
 obtain ⟨b', o', hA, hb', hold⟩ := SeqAt.at_ hw (getD_some (d := default) hi)
 obtain ⟨rfl, rfl⟩ : b = b' ∧ o = o' := by injection hA with e; injection e with e1 e2; exact ⟨e1, e2⟩
 have hb : b = wb C := hb'
 obtain ⟨q1, q2, q3, q4, q5⟩ := hco.wB C hC
 rw [← hb] at q1 q2 q3 q4 q5
 have hs := set1_same w ⟨b, o + i * 2 + 1, none⟩ (.string v)
 have hne : ∀ b' o', b' ≠ b → (w.setCell ⟨b, o + i * 2 + 1, none⟩ (.string v)).cell? ⟨b', o', none⟩ = w.cell? ⟨b', o', none⟩ := fun b' o' hn => hs.cell _ fun e => hn (congrArg Addr.block e)
 have hxne : bx ≠ b := fun e => q3 (.inl e.symm)
 have hwf : ∀ o, w.frozen? ⟨b, o, none⟩ = false := fun o => by rw [hb]; exact hco.wf C o hC
 refine ⟨⟨⟨h.xB.1, by rw [hs.sz]; exact h.xB.2⟩, h.xZ, fun b e => by rw [hs.sz]; exact h.zlt b e, fun o => (hs.fr _).trans (h.xf o), (hne _ _ hxne).trans h.x1, ?_, bR, rc, _, (hne _ _ hxne).trans x0, hrc, ht, hco.writes (g := wb C) hC (fun b' o' _ _ hn => hne b' o' (by rw [hb]; exact hn)) (fun o' _ => hne _ _ (fun e => q5 e.symm)) (fun _ _ _ => hs.fr _) (by rw [hs.sz]; exact Nat.le_refl _) h.xlt (.inl rfl) (by rw [hs.sz, ← hb]; exact q2) (fun o => by rw [hs.fr, ← hb]; exact hwf o) (by have := h.xB; omega) ?_⟩, q1, fun e => q3 (.inr e), hwf⟩
 ·rw [hne _ _ hxne, h.x2]; simp [WoM.setC]
 ·have hbC : ∀ o', (w.setCell ⟨b, o + i * 2 + 1, none⟩ (.string v)).cell? ⟨bC, o', none⟩ = w.cell? ⟨bC, o', none⟩ := fun o' => hne _ _ fun e => q5 e.symm
  refine ⟨(hbC _).trans hcl.cp, (hbC _).trans hcl.cs, (hbC _).trans hcl.cm, ⟨some ⟨b, o, none⟩, k, ?_, by simpa using hq, ?_⟩, (hbC _).trans hcl.ca, hcl.ok.p, hcl.ok.s, hcl.ok.m, hcl.ok.a⟩
  ·rw [hbC, c3]; simp
  ·refine ⟨by simpa using hw.1, fun _ => ⟨b, o, rfl, hb, fun j x hx => ?_⟩⟩
   have hcell : ∀ o', o' ≠ o + i * 2 + 1 → (w.setCell ⟨b, o + i * 2 + 1, none⟩ (.string v)).cell? ⟨b, o', none⟩ = w.cell? ⟨b, o', none⟩ := fun o' hn => hs.cell _ (cell_ne _ _ _ hn)
   rw [List.getElem?_set] at hx
   by_cases e : i = j
   ·subst e
    rw [if_pos rfl, if_pos hi] at hx
    injection hx with hx
    subst hx
    exact ⟨(hcell _ (by omega)).trans hold.k, World.cell?_setCell_same _ _ _ hold.v, hold.ok.1, hv⟩
   ·rw [if_neg e] at hx
    obtain ⟨b2, o2, hA2, _, hx2⟩ := SeqAt.at_ hw hx
    obtain ⟨rfl, rfl⟩ : b = b2 ∧ o = o2 := by injection hA2 with e; injection e with e1 e2; exact ⟨e1, e2⟩
    exact ⟨(hcell _ (by omega)).trans hx2.k, (hcell _ (by omega)).trans hx2.v, hx2.ok⟩
theorem Own.wrIns (h : Own w1 t Z B bx bC wo) (hb : Below w1.heap.size w1 w) (hc : wo.cls[C]? = some c) {i g cg : Nat} {x : WrM} (hi : i ≤ c.ws.length) (hx : x.k.size ≤ maxLen ∧ x.v.size ≤ maxLen) (hg : w1.heap.size ≤ g) (hg' : g < w.heap.size) (hgf : ∀ o, w.frozen? ⟨g, o, none⟩ = false) (hcap : c.ws.length + 1 ≤ cg) (hlen : c.ws.length + 1 ≤ 4398046511104)
 (hcells : CellsAt w g 0 ((wrsC c.ws).take (i * 2) ++ [.string x.k, .string x.v] ++ (wrsC c.ws).drop (i * 2))) :
 Own (w.setCell ⟨bC, C * 5 + 3, none⟩ (.slice (some ⟨g, 0, none⟩) (c.ws.length + 1) cg)) t Z B bx bC (wo.setC C { c with ws := c.ws.take i ++ x :: c.ws.drop i }) := by
 obtain ⟨bR, rc, wb, x0, hrc, ht, hco⟩ := h.core
 have hC := (List.getElem?_eq_some_iff.1 hc).1
 have hcl := hco.cls C c hc
 obtain ⟨A', k', c3, hq, hw⟩ := hcl.cw
 have hs := set1_same w ⟨bC, C * 5 + 3, none⟩ (.slice (some ⟨g, 0, none⟩) (c.ws.length + 1) cg)
 obtain ⟨m1, m2⟩ := below_mem hb
 have hfr : ∀ b o, b < w1.heap.size → w.frozen? ⟨b, o, none⟩ = w1.frozen? ⟨b, o, none⟩ := (bcell hb).2
 have hne : ∀ b' o', b' < w1.heap.size → b' ≠ bC → (w.setCell ⟨bC, C * 5 + 3, none⟩ (.slice (some ⟨g, 0, none⟩) (c.ws.length + 1) cg)).cell? ⟨b', o', none⟩ = w1.cell? ⟨b', o', none⟩ := fun b' o' hl hn => (hs.cell _ fun e => hn (congrArg Addr.block e)).trans (m2 _ _ hl)
 have hxne : bx ≠ bC := fun e => hco.cB.2.2 (.inl e.symm)
 have hbClt := hco.cB.2.1
 have hcC : ∀ o', o' ≠ C * 5 + 3 → (w.setCell ⟨bC, C * 5 + 3, none⟩ (.slice (some ⟨g, 0, none⟩) (c.ws.length + 1) cg)).cell? ⟨bC, o', none⟩ = w1.cell? ⟨bC, o', none⟩ := fun o' hn => (hs.cell _ (cell_ne _ _ _ hn)).trans (m2 _ _ hbClt)
 have hl' : (c.ws.take i ++ x :: c.ws.drop i).length = c.ws.length + 1 := by simp; omega
 have hgC : g ≠ bC := by omega
 refine ⟨⟨h.xB.1, by rw [hs.sz]; exact m1 _ h.xB.2⟩, h.xZ, fun b e => by rw [hs.sz]; exact m1 _ (h.zlt b e), fun o => ((hs.fr _).trans (hfr _ o h.xB.2)).trans (h.xf o), (hne _ _ h.xB.2 hxne).trans h.x1, ?_, bR, rc, _, (hne _ _ h.xB.2 hxne).trans x0, hrc, ht, hco.writes (g := g) hC (fun b' o' hl hn _ => hne b' o' hl hn) (fun o' ho => hcC o' (by omega)) (fun b o hl => (hs.fr _).trans (hfr b o hl)) (by rw [hs.sz]; exact hb.size) h.xlt (.inr hg) (by rw [hs.sz]; exact hg') (fun o => (hs.fr _).trans (hgf o)) (by have := h.xB; omega) ?_⟩
 ·rw [hne _ _ h.xB.2 hxne, h.x2]; simp [WoM.setC]
 ·refine ⟨(hcC _ (by omega)).trans hcl.cp, (hcC _ (by omega)).trans hcl.cs, (hcC _ (by omega)).trans hcl.cm, ⟨some ⟨g, 0, none⟩, cg, ?_, by rw [hl']; exact hcap, ?_⟩, (hcC _ (by omega)).trans hcl.ca, hcl.ok.p, hcl.ok.s, hcl.ok.m, hcl.ok.a⟩
  ·rw [hl']; exact World.cell?_setCell_same _ _ _ ((m2 _ _ hbClt).trans c3)
  ·refine wrsAt_cells (by rw [hl']; exact hlen) (fun y hy => ?_) rfl ?_
   ·rcases List.mem_append.1 hy with hy | hy
    ·exact SeqAt.wrOk hw y (List.mem_of_mem_take hy)
    ·rcases List.mem_cons.1 hy with rfl | hy
     ·exact hx
     ·exact SeqAt.wrOk hw y (List.mem_of_mem_drop hy)
   ·rw [wrsC_ins]
    exact hcells.keep fun k => hs.cell _ fun e => hgC (congrArg Addr.block e)
end
end Go.Proofs.YtambkjnhfejfaaaGreat
