/-
  Contracts of functions of the program and words for memory, several texts in one: Ended. Conditions: those stated with each.
-/
import Derived.Test.YtambkjnhfejfaaaGreatG07
import Derived.Deep.RegionLaw
namespace Go.Proofs.YtambkjnhfejfaaaGreat
open Go.RowKit
structure EndInv (W3 wr : World) (g : Nat) (key : ByteArray) (L : Int) (P V : ByteArray) (As : Option Addr) (m c : Nat) (l : List RecM) : Prop where
 blk : wr.heap[g]? = some (.cells #[.string key, .int .i64 L, .string P, .string V, .slice As m c] 45 (0, 0))
 own : OwnsRecs wr (g + 1) (.slice As m c) l
 len : m = l.length
 bel : Below g W3 wr
section
variable {W3 wr w2 : World} {g : Nat} {key : ByteArray} {L : Int} {P V : ByteArray} {As A2 : Option Addr} {m c c2 : Nat} {l : List RecM} {r : RecM}
theorem EndInv.draw (h : EndInv W3 wr g key L P V As m c l) (n : Nat) : EndInv W3 (wr.drewN n) g key L P V As m c l := ⟨h.blk, h.own, h.len, ⟨h.bel.os, h.bel.tape, h.bel.output, h.bel.size, h.bel.block⟩⟩
theorem EndInv.lt (h : EndInv W3 wr g key L P V As m c l) : g < wr.heap.size := (Array.getElem?_eq_some_iff.1 h.blk).1
theorem EndInv.cells (h : EndInv W3 wr g key L P V As m c l) : wr.cell? ⟨g, 0, none⟩ = some (.string key) ∧ wr.cell? ⟨g, 1, none⟩ = some (.int .i64 L) ∧ wr.cell? ⟨g, 2, none⟩ = some (.string P) ∧ wr.cell? ⟨g, 3, none⟩ = some (.string V) ∧ wr.cell? ⟨g, 4, none⟩ = some (.slice As m c) ∧ wr.frozen? ⟨g, 4, none⟩ = false :=
 ⟨by rw [Joins.cell_of_block h.blk]; rfl, by rw [Joins.cell_of_block h.blk]; rfl, by rw [Joins.cell_of_block h.blk]; rfl, by rw [Joins.cell_of_block h.blk]; rfl, by rw [Joins.cell_of_block h.blk]; rfl, Joins.unfrozen_of_block h.blk _⟩
theorem EndInv.step (h : EndInv W3 wr g key L P V As m c l) (hown : OwnsRecs w2 (g + 1) (.slice A2 (m + 1) c2) (l ++ [r])) (hb : Below (g + 1) wr w2) : EndInv W3 (w2.setCell ⟨g, 4, none⟩ (.slice A2 (m + 1) c2)) g key L P V A2 (m + 1) c2 (l ++ [r]) :=
 ⟨Joins.block_setCell ((hb.block g (Nat.lt_succ_self g)).trans h.blk) _, hown.set (Nat.lt_succ_self g) _, by rw [List.length_append, ← h.len]; rfl, (h.bel.trans (hb.mono (Nat.le_succ g))).setCell (Nat.le_refl _) _⟩
theorem EndInv.app (h : EndInv W3 wr g key L P V As m c l) (hok : ∀ x ∈ l, RecOk x) (h1 : l.length ≤ 1000) (W : World) (hW : Below wr.heap.size wr W) (B : Nat) (a : Option Addr) (ty : TypeId) (hrec : RecsAt W B a [r]) :
 ∃ v' w', (Builtin.append_ #[43, 43] ty #[.slice As m c, .slice a 1 1]).run Tryz.prog W = .ok v' w' ∧ ∃ A' c', v' = .slice A' (m + 1) c' ∧ OwnsRecs w' (g + 1) (.slice A' (m + 1) c') (l ++ [r]) ∧ Below (g + 1) wr w' := by
 obtain ⟨v', w', h2, A', c', hv, h3, h4, _⟩ := app_shape W wr ty (g + 1) B 1 1 (.slice As m c) l a [r] (h.own.kept hW) rfl hrec (by simp; omega) hok (by have := h.lt; have := hW.size; omega) (hW.mono (by have := h.lt; omega))
 have e : (l ++ [r]).length = m + 1 := by rw [List.length_append, ← h.len]; rfl
 rw [e] at hv h3
 exact ⟨v', w', h2, A', c', hv, h3, h4⟩
end
theorem filt_snoc (p : RecM → Bool) {l : List RecM} {k : Nat} (hk : k < l.length) : (l.take (k + 1)).filter p = (l.take k).filter p ++ (if p (l.getD k default) then [l.getD k default] else []) := by
 rw [List.take_succ_eq_append_getElem hk, List.filter_append, getD_get hk]
 congr 1
 cases h : p l[k] <;> simp [h]
theorem filt_len (p : RecM → Bool) (l : List RecM) (k : Nat) : ((l.take k).filter p).length ≤ l.length := by
 have := List.length_filter_le p (l.take k)
 have := List.length_take_le' k l
 omega
theorem filt_ok {p : RecM → Bool} {l : List RecM} {k : Nat} (h : ∀ r ∈ l, RecOk r) : ∀ r ∈ (l.take k).filter p, RecOk r := fun r hr => h r (List.mem_of_mem_take (List.mem_filter.1 hr).1)
set_option maxRecDepth 100000 in
set_option maxHeartbeats 8000000 in
theorem ended_other (key lp val : ByteArray) (ls : Int) (A : Option Addr) (n c : Nat) (l : List RecM) (rs rc : Int) (rv : ByteArray) (w : World) (hn : n = l.length) (h100 : n ≤ 100) (hl : RecsAt w w.heap.size A l) (hr : RecOk ⟨rs, rc, rv⟩) (hne : (ls == rs) = false) :
 Calls Tryz.prog 61 #[rowV key ls lp val A n c, recV ⟨rs, rc, rv⟩] w (RowOut key ls lp val (endRec l ⟨rs, rc, rv⟩) w) := by
 subst hn
 obtain ⟨W3, hW3⟩ : ∃ W3, W3 = ((w.alloc (.cells #[.string key, .int .i64 ls, .string lp, .string val, .slice A l.length c] 45)).alloc (.cells #[.int .i64 rs, .int .i64 rc, .string rv] 80)).alloc (.cells #[.string ⟨#[]⟩, .int .i64 0, .string ⟨#[]⟩, .string ⟨#[]⟩, .slice none 0 0] 45) := ⟨_, rfl⟩
 have hb3 : Below w.heap.size w W3 := by rw [hW3]; repeat (first | with_reducible exact Below.refl _ _ | assumption | with_reducible apply below_alloc | with_reducible apply below_drew | with_reducible apply below_drewN | (with_reducible apply below_next; rotate_left; assumption))
 have hs3 : W3.heap.size = w.heap.size + 3 := by rw [hW3]; simp
 obtain ⟨hB0, hB1, hB2⟩ := three_blocks w (.cells #[.string key, .int .i64 ls, .string lp, .string val, .slice A l.length c] 45) (.cells #[.int .i64 rs, .int .i64 rc, .string rv] 80) (.cells #[.string ⟨#[]⟩, .int .i64 0, .string ⟨#[]⟩, .string ⟨#[]⟩, .slice none 0 0] 45)
 rw [← hW3] at hB0 hB1 hB2
 have hei : EndInv W3 (W3.alloc (.cells #[.string key, .int .i64 ls, .string lp, .string val, .slice none 0 0] 45)) (w.heap.size + 3) key ls lp val none 0 0 [] :=
  ⟨by have h := heap_alloc_new W3 (.cells #[.string key, .int .i64 ls, .string lp, .string val, .slice none 0 0] 45); rwa [hs3] at h, ownsRecs_nil _ _, rfl, (Below.refl _ _).alloc (by omega) _⟩
 rw [hW3] at hei
 have HEI : Hid (EndInv W3 ((((w.alloc (.cells #[.string key, .int .i64 ls, .string lp, .string val, .slice A l.length c] 45)).alloc (.cells #[.int .i64 rs, .int .i64 rc, .string rv] 80)).alloc (.cells #[.string ⟨#[]⟩, .int .i64 0, .string ⟨#[]⟩, .string ⟨#[]⟩, .slice none 0 0] 45)).alloc (.cells #[.string key, .int .i64 ls, .string lp, .string val, .slice none 0 0] 45)) (w.heap.size + 3) key ls lp val none 0 0 []) := by rw [← hW3] at hei ⊢; exact hei
 have HB0 := Lib.hid hB0
 have HB1 := Lib.hid hB1
 have HB2 := Lib.hid (ZeroRow.mk hB2)
 have HB3 := Lib.hid hb3
 have HL := Lib.hid hl
 have HR := Lib.hid hr
 clear hW3 hei hB0 hB1 hB2 hb3 hl hr
 have HOKL := Lib.hid (fun (j : Nat) => filt_ok (p := fun x => decide (x.s < rs)) (l := l) (k := j) (fun r hr => HL.out.ok hr))
 have HLNL := Lib.hid (fun (j : Nat) => show ((l.take j).filter (fun x => decide (x.s < rs))).length ≤ 1000 by have := filt_len (fun x : RecM => decide (x.s < rs)) l j; omega)
 go_enter Tryz.func61, Tryz.ntmps61
 go_wp2
 go_loopw [6] (fun i wr => ∃ (k m cs : Nat) (As : Option Addr), k ≤ l.length ∧ i = .int .i64 k ∧ EndInv W3 wr (w.heap.size + 3) key ls lp val As m cs ((l.take k).filter (fun x => decide (x.s < rs)))) (fun i _ => l.length - (intOf i).toNat)
 case atStart => exact ⟨0, 0, 0, none, Nat.zero_le _, rfl, HEI.out⟩
 case round =>
  obtain ⟨k, m, cs, As, hk, rfl, hiv⟩ := hrel
  have HIV := Lib.hid hiv
  have hsr : w.heap.size + 3 < wr.heap.size := hiv.lt
  have hsr2 : w.heap.size < wr.heap.size := by omega
  have hsr1 : w.heap.size + 1 < wr.heap.size := by omega
  have hsr3 : w.heap.size + 1 + 1 + 1 < wr.heap.size := hsr
  obtain ⟨y0, y1, y2, y3, y4, y5⟩ := hiv.cells
  have x4 : wr.cell? ⟨w.heap.size + 1 + 1 + 1, 4, none⟩ = some (.slice As m cs) := y4
  have x5 : ∀ (nn : Nat) (O : Obj), ((wr.drewN nn).alloc O).cell? ⟨w.heap.size + 1 + 1 + 1, 4, none⟩ = some (.slice As m cs) := fun nn O => (World.cell?_alloc_lt (wr.drewN nn) O ⟨w.heap.size + 3, 4, none⟩ hsr).trans y4
  obtain ⟨a0, a1, a2, a3, a4, a5, b0, b1, b2, z0, z1, z2, z3, z4, u0, u1, u2, u3, u4⟩ := wr_facts ((hiv.bel.block w.heap.size (by omega)).trans HB0.out) ((hiv.bel.block (w.heap.size + 1) (by omega)).trans HB1.out) (HB2.out.keep (hiv.bel.block (w.heap.size + 2) (by omega)))
  have HBW := Lib.hid (HB3.out.trans (hiv.bel.mono (by omega)))
  clear hiv
  by_cases hm : k < l.length
  ·obtain ⟨b, o, hA, hbb, hr⟩ := (HL.out.below HBW.out).at_ (getD_of hm)
   obtain ⟨t, ht0⟩ : ∃ t, t = l.getD k default := ⟨_, rfl⟩
   have HRK := Lib.hid (HL.out.ok (ht0 ▸ mem_getD hm : t ∈ l))
   rw [← ht0] at hr
   obtain ⟨d0, d1, d2⟩ := hr
   have HT := Lib.hid ht0
   rw [hA] at a4
   clear ht0 hA
   obtain ⟨ts, tc, tv⟩ := t
   have j0 : (0 : Int) ≤ (k : Int) := by omega
   have hbr : b < wr.heap.size := by omega
   by_cases q : ts < rs
   ·have q' : decide (ts < rs) = true := by simpa using q
    have HST := Lib.hid (show (l.take (k + 1)).filter (fun x => decide (x.s < rs)) = (l.take k).filter (fun x => decide (x.s < rs)) ++ [⟨ts, tc, tv⟩] by rw [filt_snoc _ hm, ← HT.out, if_pos q'])
    go_wp2
    go_quiet (fail)
    go_wp2
    go_region_law ((refine step_append_run _ rfl (.tmp 41) (.tmp 47) 43 rfl (.slice As m cs) (.slice (some ⟨wr.heap.size, 0, none⟩) 1 1) rfl rfl (HIV.out.app (r := ⟨ts, tc, tv⟩) (HOKL.out k) (HLNL.out k) _ (by repeat (first | with_reducible exact Below.refl _ _ | assumption | with_reducible apply below_alloc | with_reducible apply below_drew | with_reducible apply below_drewN | (with_reducible apply below_next; rotate_left; assumption))) _ _ _ (by first | exact one_rec _ ⟨ts, tc, tv⟩ HRK.out | exact ((one_rec wr ⟨ts, tc, tv⟩ HRK.out).drewN _).drew)) ?_; rintro v1 w2 ⟨A2, c2, rfl, hown2, hb2⟩; have HO2 := Lib.hid hown2; have HBB := Lib.hid hb2; have e4 : w2.cell? ⟨w.heap.size + 1 + 1 + 1, 4, none⟩ = some (.slice As m cs) := (hb2.cell (p := ⟨w.heap.size + 3, 4, none⟩) (Nat.lt_succ_self _)).trans y4; have f4 : w2.frozen? ⟨w.heap.size + 1 + 1 + 1, 4, none⟩ = false := (hb2.frozen (p := ⟨w.heap.size + 3, 4, none⟩) (Nat.lt_succ_self _)).trans y5; clear hown2 hb2))
    all_goals
     go_wp2
     go_roundw
     case rel => exact ⟨k + 1, m + 1, c2, A2, by omega, by go_num, by rw [HST.out]; exact HIV.out.step HO2.out HBB.out⟩
     case measure => simp [intOf]; omega
   ·have q' : decide (ts < rs) = false := by simpa using q
    have HST := Lib.hid (show (l.take (k + 1)).filter (fun x => decide (x.s < rs)) = (l.take k).filter (fun x => decide (x.s < rs)) by rw [filt_snoc _ hm, ← HT.out, if_neg (by rw [q']; simp)]; simp)
    go_wp2
    go_quiet (fail)
    go_wp2
    go_roundw
    case rel => exact ⟨k + 1, m, cs, As, by omega, by go_num, by rw [HST.out]; exact HIV.out.draw _⟩
    case measure => simp [intOf]; omega
  ·have HK := Lib.hid (show k = l.length by omega)
   go_wp2_with (at_builtin; refine (wpList_append_run _ rfl (.tmp 51) (.tmp 53) 43 rfl (.slice As m cs) (.slice (some ⟨wr.heap.size, 0, none⟩) 1 1) rfl rfl (HIV.out.app (r := ⟨rs, rc, rv⟩) (HOKL.out k) (HLNL.out k) _ (by repeat (first | with_reducible exact Below.refl _ _ | assumption | with_reducible apply below_alloc | with_reducible apply below_drew | with_reducible apply below_drewN | (with_reducible apply below_next; rotate_left; assumption))) (wr.heap.size + 1) _ _ (one_rec wr ⟨rs, rc, rv⟩ HR.out)) ?_); rintro v1 w2 ⟨A5, c5, rfl, hown2, hb2⟩; have HO2 := Lib.hid hown2; have HBB := Lib.hid hb2; have e4 : w2.cell? ⟨w.heap.size + 1 + 1 + 1, 4, none⟩ = some (.slice As m cs) := (hb2.cell (p := ⟨w.heap.size + 3, 4, none⟩) (Nat.lt_succ_self _)).trans y4; have f4 : w2.frozen? ⟨w.heap.size + 1 + 1 + 1, 4, none⟩ = false := (hb2.frozen (p := ⟨w.heap.size + 3, 4, none⟩) (Nat.lt_succ_self _)).trans y5; clear hown2 hb2)
   have hF : (l.take k).filter (fun x => decide (x.s < rs)) = l.filter (fun x => decide (x.s < rs)) := by rw [HK.out, List.take_length]
   have HE2 := Lib.hid (HIV.out.step HO2.out HBB.out)
   rw [hF] at HE2
   have HOKL := Lib.hid (fun (j : Nat) => show ∀ r ∈ l.filter (fun x => decide (x.s < rs)) ++ [⟨rs, rc, rv⟩] ++ (l.take j).filter (fun x => decide (rs < x.s)), RecOk r from fun r hr => by
    simp only [List.mem_append, List.mem_singleton] at hr
    rcases hr with (hr | rfl) | hr
    ·exact HL.out.ok (List.mem_filter.1 hr).1
    ·exact HR.out
    ·exact filt_ok (fun r hr => HL.out.ok hr) r hr)
   have HLNL := Lib.hid (fun (j : Nat) => show (l.filter (fun x => decide (x.s < rs)) ++ [(⟨rs, rc, rv⟩ : RecM)] ++ (l.take j).filter (fun x => decide (rs < x.s))).length ≤ 1000 by
    have a := List.length_filter_le (fun x : RecM => decide (x.s < rs)) l
    have b := filt_len (fun x : RecM => decide (rs < x.s)) l j
    simp only [List.length_append, List.length_cons, List.length_nil]; omega)
   clear hF y0 y1 y2 y3 y4 y5 a0 a1 a2 a3 a4 a5 b0 b1 b2 z0 z1 z2 z3 z4 u0 u1 u2 u3 u4 e4 f4
   go_loopw [7] (fun i wr => ∃ (k m cs : Nat) (As : Option Addr), k ≤ l.length ∧ i = .int .i64 k ∧ EndInv W3 wr (w.heap.size + 3) key ls lp val As m cs (l.filter (fun x => decide (x.s < rs)) ++ [⟨rs, rc, rv⟩] ++ (l.take k).filter (fun x => decide (rs < x.s)))) (fun i _ => l.length - (intOf i).toNat)
   case atStart => exact ⟨0, m + 1, c5, A5, Nat.zero_le _, rfl, by simpa using HE2.out⟩
   case round =>
    obtain ⟨k, m, cs, As, hk, rfl, hiv⟩ := hrel
    have HIV := Lib.hid hiv
    have hsr : w.heap.size + 3 < wr.heap.size := hiv.lt
    have hsr2 : w.heap.size < wr.heap.size := by omega
    have hsr1 : w.heap.size + 1 < wr.heap.size := by omega
    have hsr3 : w.heap.size + 1 + 1 + 1 < wr.heap.size := hsr
    obtain ⟨y0, y1, y2, y3, y4, y5⟩ := hiv.cells
    have x4 : wr.cell? ⟨w.heap.size + 1 + 1 + 1, 4, none⟩ = some (.slice As m cs) := y4
    have x5 : ∀ (nn : Nat) (O : Obj), ((wr.drewN nn).alloc O).cell? ⟨w.heap.size + 1 + 1 + 1, 4, none⟩ = some (.slice As m cs) := fun nn O => (World.cell?_alloc_lt (wr.drewN nn) O ⟨w.heap.size + 3, 4, none⟩ hsr).trans y4
    obtain ⟨a0, a1, a2, a3, a4, a5, b0, b1, b2, z0, z1, z2, z3, z4, u0, u1, u2, u3, u4⟩ := wr_facts ((hiv.bel.block w.heap.size (by omega)).trans HB0.out) ((hiv.bel.block (w.heap.size + 1) (by omega)).trans HB1.out) (HB2.out.keep (hiv.bel.block (w.heap.size + 2) (by omega)))
    have HBW := Lib.hid (HB3.out.trans (hiv.bel.mono (by omega)))
    clear hiv
    by_cases hm : k < l.length
    ·obtain ⟨b, o, hA, hbb, hr⟩ := (HL.out.below HBW.out).at_ (getD_of hm)
     obtain ⟨t, ht0⟩ : ∃ t, t = l.getD k default := ⟨_, rfl⟩
     have HRK := Lib.hid (HL.out.ok (ht0 ▸ mem_getD hm : t ∈ l))
     rw [← ht0] at hr
     obtain ⟨d0, d1, d2⟩ := hr
     have HT := Lib.hid ht0
     rw [hA] at a4
     clear ht0 hA
     obtain ⟨ts, tc, tv⟩ := t
     have j0 : (0 : Int) ≤ (k : Int) := by omega
     have hbr : b < wr.heap.size := by omega
     by_cases q : rs < ts
     ·have q' : decide (rs < ts) = true := by simpa using q
      have HST := Lib.hid (show l.filter (fun x => decide (x.s < rs)) ++ [⟨rs, rc, rv⟩] ++ (l.take (k + 1)).filter (fun x => decide (rs < x.s)) = l.filter (fun x => decide (x.s < rs)) ++ [⟨rs, rc, rv⟩] ++ (l.take k).filter (fun x => decide (rs < x.s)) ++ [⟨ts, tc, tv⟩] by rw [filt_snoc _ hm, ← HT.out, if_pos q']; simp only [List.append_assoc])
      go_wp2
      go_quiet (fail)
      go_wp2
      go_region_law ((refine step_append_run _ rfl (.tmp 73) (.tmp 79) 43 rfl (.slice As m cs) (.slice (some ⟨wr.heap.size, 0, none⟩) 1 1) rfl rfl (HIV.out.app (r := ⟨ts, tc, tv⟩) (HOKL.out k) (HLNL.out k) _ (by repeat (first | with_reducible exact Below.refl _ _ | assumption | with_reducible apply below_alloc | with_reducible apply below_drew | with_reducible apply below_drewN | (with_reducible apply below_next; rotate_left; assumption))) _ _ _ (by first | exact one_rec _ ⟨ts, tc, tv⟩ HRK.out | exact ((one_rec wr ⟨ts, tc, tv⟩ HRK.out).drewN _).drew)) ?_; rintro v1 w2 ⟨A2, c2, rfl, hown2, hb2⟩; have HO2 := Lib.hid hown2; have HBB := Lib.hid hb2; have e4 : w2.cell? ⟨w.heap.size + 1 + 1 + 1, 4, none⟩ = some (.slice As m cs) := (hb2.cell (p := ⟨w.heap.size + 3, 4, none⟩) (Nat.lt_succ_self _)).trans y4; have f4 : w2.frozen? ⟨w.heap.size + 1 + 1 + 1, 4, none⟩ = false := (hb2.frozen (p := ⟨w.heap.size + 3, 4, none⟩) (Nat.lt_succ_self _)).trans y5; clear hown2 hb2))
      all_goals
       go_wp2
       go_roundw
       case rel => exact ⟨k + 1, m + 1, c2, A2, by omega, by go_num, by rw [HST.out]; exact HIV.out.step HO2.out HBB.out⟩
       case measure => simp [intOf]; omega
     ·have q' : decide (rs < ts) = false := by simpa using q
      have HST := Lib.hid (show l.filter (fun x => decide (x.s < rs)) ++ [⟨rs, rc, rv⟩] ++ (l.take (k + 1)).filter (fun x => decide (rs < x.s)) = l.filter (fun x => decide (x.s < rs)) ++ [⟨rs, rc, rv⟩] ++ (l.take k).filter (fun x => decide (rs < x.s)) by rw [filt_snoc _ hm, ← HT.out, if_neg (by rw [q']; simp)]; simp)
      go_wp2
      go_quiet (fail)
      go_wp2
      go_roundw
      case rel => exact ⟨k + 1, m, cs, As, by omega, by go_num, by rw [HST.out]; exact HIV.out.draw _⟩
      case measure => simp [intOf]; omega
    ·have HK := Lib.hid (show k = l.length by omega)
     go_wp2
     refine bodyPost_ret (v := rowV key ls lp val As m cs) (by simp [results, Tryz.results61, go_sem, z0, z1, z2, z3, z4]) rfl ?_
     have hE : endRec l ⟨rs, rc, rv⟩ = l.filter (fun x => decide (x.s < rs)) ++ [⟨rs, rc, rv⟩] ++ (l.take k).filter (fun x => decide (rs < x.s)) := by unfold endRec; rw [HK.out, List.take_length]
     have hml : m = (endRec l ⟨rs, rc, rv⟩).length := by rw [hE]; exact HIV.out.len
     refine ⟨As, cs, by rw [← hml], ?_, ⟨fun ad h => by have := HIV.out.own.new ad h; omega, by rw [hE]; exact HIV.out.own.cap⟩, ?_⟩
     ·rw [hE]
      refine OwnsRecs.rec (base := w.heap.size + 3 + 1) (n := m) (c := cs) ?_ (by have := HLNL.out k; omega) (HOKL.out k)
      repeat (refine OwnsRecs.set ?_ (by dsimp only; omega) _)
      exact HIV.out.own
     ·repeat (refine below_set ?_ (by dsimp only; omega) _)
      exact HBW.out
set_option maxRecDepth 100000 in
set_option maxHeartbeats 8000000 in
theorem ended_own (key lp val : ByteArray) (A : Option Addr) (n c : Nat) (l : List RecM) (rs rc : Int) (rv : ByteArray) (w : World) (hn : n = l.length) (h100 : n ≤ 100) (hl : RecsAt w w.heap.size A l) (hr : RecOk ⟨rs, rc, rv⟩) :
 Calls Tryz.prog 61 #[rowV key rs lp val A n c, recV ⟨rs, rc, rv⟩] w (RowOut key 0 ⟨#[]⟩ ⟨#[]⟩ (endRec l ⟨rs, rc, rv⟩) w) := by
 subst hn
 obtain ⟨W3, hW3⟩ : ∃ W3, W3 = ((w.alloc (.cells #[.string key, .int .i64 rs, .string lp, .string val, .slice A l.length c] 45)).alloc (.cells #[.int .i64 rs, .int .i64 rc, .string rv] 80)).alloc (.cells #[.string ⟨#[]⟩, .int .i64 0, .string ⟨#[]⟩, .string ⟨#[]⟩, .slice none 0 0] 45) := ⟨_, rfl⟩
 have hb3 : Below w.heap.size w W3 := by rw [hW3]; repeat (first | with_reducible exact Below.refl _ _ | assumption | with_reducible apply below_alloc | with_reducible apply below_drew | with_reducible apply below_drewN | (with_reducible apply below_next; rotate_left; assumption))
 have hs3 : W3.heap.size = w.heap.size + 3 := by rw [hW3]; simp
 obtain ⟨hB0, hB1, hB2⟩ := three_blocks w (.cells #[.string key, .int .i64 rs, .string lp, .string val, .slice A l.length c] 45) (.cells #[.int .i64 rs, .int .i64 rc, .string rv] 80) (.cells #[.string ⟨#[]⟩, .int .i64 0, .string ⟨#[]⟩, .string ⟨#[]⟩, .slice none 0 0] 45)
 rw [← hW3] at hB0 hB1 hB2
 have hei : EndInv W3 (W3.alloc (.cells #[.string key, .int .i64 0, .string ⟨#[]⟩, .string ⟨#[]⟩, .slice none 0 0] 45)) (w.heap.size + 3) key 0 ⟨#[]⟩ ⟨#[]⟩ none 0 0 [] :=
  ⟨by have h := heap_alloc_new W3 (.cells #[.string key, .int .i64 0, .string ⟨#[]⟩, .string ⟨#[]⟩, .slice none 0 0] 45); rwa [hs3] at h, ownsRecs_nil _ _, rfl, (Below.refl _ _).alloc (by omega) _⟩
 rw [hW3] at hei
 have HEI : Hid (EndInv W3 ((((w.alloc (.cells #[.string key, .int .i64 rs, .string lp, .string val, .slice A l.length c] 45)).alloc (.cells #[.int .i64 rs, .int .i64 rc, .string rv] 80)).alloc (.cells #[.string ⟨#[]⟩, .int .i64 0, .string ⟨#[]⟩, .string ⟨#[]⟩, .slice none 0 0] 45)).alloc (.cells #[.string key, .int .i64 0, .string ⟨#[]⟩, .string ⟨#[]⟩, .slice none 0 0] 45)) (w.heap.size + 3) key 0 ⟨#[]⟩ ⟨#[]⟩ none 0 0 []) := by rw [← hW3] at hei ⊢; exact hei
 have HB0 := Lib.hid hB0
 have HB1 := Lib.hid hB1
 have HB2 := Lib.hid (ZeroRow.mk hB2)
 have HB3 := Lib.hid hb3
 have HL := Lib.hid hl
 have HR := Lib.hid hr
 clear hW3 hei hB0 hB1 hB2 hb3 hl hr
 have HOKL := Lib.hid (fun (j : Nat) => filt_ok (p := fun x => decide (x.s < rs)) (l := l) (k := j) (fun r hr => HL.out.ok hr))
 have HLNL := Lib.hid (fun (j : Nat) => show ((l.take j).filter (fun x => decide (x.s < rs))).length ≤ 1000 by have := filt_len (fun x : RecM => decide (x.s < rs)) l j; omega)
 go_enter Tryz.func61, Tryz.ntmps61
 go_wp2
 go_loopw [6] (fun i wr => ∃ (k m cs : Nat) (As : Option Addr), k ≤ l.length ∧ i = .int .i64 k ∧ EndInv W3 wr (w.heap.size + 3) key 0 ⟨#[]⟩ ⟨#[]⟩ As m cs ((l.take k).filter (fun x => decide (x.s < rs)))) (fun i _ => l.length - (intOf i).toNat)
 case atStart => exact ⟨0, 0, 0, none, Nat.zero_le _, rfl, HEI.out⟩
 case round =>
  obtain ⟨k, m, cs, As, hk, rfl, hiv⟩ := hrel
  have HIV := Lib.hid hiv
  have hsr : w.heap.size + 3 < wr.heap.size := hiv.lt
  have hsr2 : w.heap.size < wr.heap.size := by omega
  have hsr1 : w.heap.size + 1 < wr.heap.size := by omega
  have hsr3 : w.heap.size + 1 + 1 + 1 < wr.heap.size := hsr
  obtain ⟨y0, y1, y2, y3, y4, y5⟩ := hiv.cells
  have x4 : wr.cell? ⟨w.heap.size + 1 + 1 + 1, 4, none⟩ = some (.slice As m cs) := y4
  have x5 : ∀ (nn : Nat) (O : Obj), ((wr.drewN nn).alloc O).cell? ⟨w.heap.size + 1 + 1 + 1, 4, none⟩ = some (.slice As m cs) := fun nn O => (World.cell?_alloc_lt (wr.drewN nn) O ⟨w.heap.size + 3, 4, none⟩ hsr).trans y4
  obtain ⟨a0, a1, a2, a3, a4, a5, b0, b1, b2, z0, z1, z2, z3, z4, u0, u1, u2, u3, u4⟩ := wr_facts ((hiv.bel.block w.heap.size (by omega)).trans HB0.out) ((hiv.bel.block (w.heap.size + 1) (by omega)).trans HB1.out) (HB2.out.keep (hiv.bel.block (w.heap.size + 2) (by omega)))
  have HBW := Lib.hid (HB3.out.trans (hiv.bel.mono (by omega)))
  clear hiv
  by_cases hm : k < l.length
  ·obtain ⟨b, o, hA, hbb, hr⟩ := (HL.out.below HBW.out).at_ (getD_of hm)
   obtain ⟨t, ht0⟩ : ∃ t, t = l.getD k default := ⟨_, rfl⟩
   have HRK := Lib.hid (HL.out.ok (ht0 ▸ mem_getD hm : t ∈ l))
   rw [← ht0] at hr
   obtain ⟨d0, d1, d2⟩ := hr
   have HT := Lib.hid ht0
   rw [hA] at a4
   clear ht0 hA
   obtain ⟨ts, tc, tv⟩ := t
   have j0 : (0 : Int) ≤ (k : Int) := by omega
   have hbr : b < wr.heap.size := by omega
   by_cases q : ts < rs
   ·have q' : decide (ts < rs) = true := by simpa using q
    have HST := Lib.hid (show (l.take (k + 1)).filter (fun x => decide (x.s < rs)) = (l.take k).filter (fun x => decide (x.s < rs)) ++ [⟨ts, tc, tv⟩] by rw [filt_snoc _ hm, ← HT.out, if_pos q'])
    go_wp2
    go_quiet (fail)
    go_wp2
    go_region_law ((refine step_append_run _ rfl (.tmp 41) (.tmp 47) 43 rfl (.slice As m cs) (.slice (some ⟨wr.heap.size, 0, none⟩) 1 1) rfl rfl (HIV.out.app (r := ⟨ts, tc, tv⟩) (HOKL.out k) (HLNL.out k) _ (by repeat (first | with_reducible exact Below.refl _ _ | assumption | with_reducible apply below_alloc | with_reducible apply below_drew | with_reducible apply below_drewN | (with_reducible apply below_next; rotate_left; assumption))) _ _ _ (by first | exact one_rec _ ⟨ts, tc, tv⟩ HRK.out | exact ((one_rec wr ⟨ts, tc, tv⟩ HRK.out).drewN _).drew)) ?_; rintro v1 w2 ⟨A2, c2, rfl, hown2, hb2⟩; have HO2 := Lib.hid hown2; have HBB := Lib.hid hb2; have e4 : w2.cell? ⟨w.heap.size + 1 + 1 + 1, 4, none⟩ = some (.slice As m cs) := (hb2.cell (p := ⟨w.heap.size + 3, 4, none⟩) (Nat.lt_succ_self _)).trans y4; have f4 : w2.frozen? ⟨w.heap.size + 1 + 1 + 1, 4, none⟩ = false := (hb2.frozen (p := ⟨w.heap.size + 3, 4, none⟩) (Nat.lt_succ_self _)).trans y5; clear hown2 hb2))
    all_goals
     go_wp2
     go_roundw
     case rel => exact ⟨k + 1, m + 1, c2, A2, by omega, by go_num, by rw [HST.out]; exact HIV.out.step HO2.out HBB.out⟩
     case measure => simp [intOf]; omega
   ·have q' : decide (ts < rs) = false := by simpa using q
    have HST := Lib.hid (show (l.take (k + 1)).filter (fun x => decide (x.s < rs)) = (l.take k).filter (fun x => decide (x.s < rs)) by rw [filt_snoc _ hm, ← HT.out, if_neg (by rw [q']; simp)]; simp)
    go_wp2
    go_quiet (fail)
    go_wp2
    go_roundw
    case rel => exact ⟨k + 1, m, cs, As, by omega, by go_num, by rw [HST.out]; exact HIV.out.draw _⟩
    case measure => simp [intOf]; omega
  ·have HK := Lib.hid (show k = l.length by omega)
   go_wp2_with (at_builtin; refine (wpList_append_run _ rfl (.tmp 51) (.tmp 53) 43 rfl (.slice As m cs) (.slice (some ⟨wr.heap.size, 0, none⟩) 1 1) rfl rfl (HIV.out.app (r := ⟨rs, rc, rv⟩) (HOKL.out k) (HLNL.out k) _ (by repeat (first | with_reducible exact Below.refl _ _ | assumption | with_reducible apply below_alloc | with_reducible apply below_drew | with_reducible apply below_drewN | (with_reducible apply below_next; rotate_left; assumption))) (wr.heap.size + 1) _ _ (one_rec wr ⟨rs, rc, rv⟩ HR.out)) ?_); rintro v1 w2 ⟨A5, c5, rfl, hown2, hb2⟩; have HO2 := Lib.hid hown2; have HBB := Lib.hid hb2; have e4 : w2.cell? ⟨w.heap.size + 1 + 1 + 1, 4, none⟩ = some (.slice As m cs) := (hb2.cell (p := ⟨w.heap.size + 3, 4, none⟩) (Nat.lt_succ_self _)).trans y4; have f4 : w2.frozen? ⟨w.heap.size + 1 + 1 + 1, 4, none⟩ = false := (hb2.frozen (p := ⟨w.heap.size + 3, 4, none⟩) (Nat.lt_succ_self _)).trans y5; clear hown2 hb2)
   have hF : (l.take k).filter (fun x => decide (x.s < rs)) = l.filter (fun x => decide (x.s < rs)) := by rw [HK.out, List.take_length]
   have HE2 := Lib.hid (HIV.out.step HO2.out HBB.out)
   rw [hF] at HE2
   have HOKL := Lib.hid (fun (j : Nat) => show ∀ r ∈ l.filter (fun x => decide (x.s < rs)) ++ [⟨rs, rc, rv⟩] ++ (l.take j).filter (fun x => decide (rs < x.s)), RecOk r from fun r hr => by
    simp only [List.mem_append, List.mem_singleton] at hr
    rcases hr with (hr | rfl) | hr
    ·exact HL.out.ok (List.mem_filter.1 hr).1
    ·exact HR.out
    ·exact filt_ok (fun r hr => HL.out.ok hr) r hr)
   have HLNL := Lib.hid (fun (j : Nat) => show (l.filter (fun x => decide (x.s < rs)) ++ [(⟨rs, rc, rv⟩ : RecM)] ++ (l.take j).filter (fun x => decide (rs < x.s))).length ≤ 1000 by
    have a := List.length_filter_le (fun x : RecM => decide (x.s < rs)) l
    have b := filt_len (fun x : RecM => decide (rs < x.s)) l j
    simp only [List.length_append, List.length_cons, List.length_nil]; omega)
   clear hF y0 y1 y2 y3 y4 y5 a0 a1 a2 a3 a4 a5 b0 b1 b2 z0 z1 z2 z3 z4 u0 u1 u2 u3 u4 e4 f4
   go_loopw [7] (fun i wr => ∃ (k m cs : Nat) (As : Option Addr), k ≤ l.length ∧ i = .int .i64 k ∧ EndInv W3 wr (w.heap.size + 3) key 0 ⟨#[]⟩ ⟨#[]⟩ As m cs (l.filter (fun x => decide (x.s < rs)) ++ [⟨rs, rc, rv⟩] ++ (l.take k).filter (fun x => decide (rs < x.s)))) (fun i _ => l.length - (intOf i).toNat)
   case atStart => exact ⟨0, m + 1, c5, A5, Nat.zero_le _, rfl, by simpa using HE2.out⟩
   case round =>
    obtain ⟨k, m, cs, As, hk, rfl, hiv⟩ := hrel
    have HIV := Lib.hid hiv
    have hsr : w.heap.size + 3 < wr.heap.size := hiv.lt
    have hsr2 : w.heap.size < wr.heap.size := by omega
    have hsr1 : w.heap.size + 1 < wr.heap.size := by omega
    have hsr3 : w.heap.size + 1 + 1 + 1 < wr.heap.size := hsr
    obtain ⟨y0, y1, y2, y3, y4, y5⟩ := hiv.cells
    have x4 : wr.cell? ⟨w.heap.size + 1 + 1 + 1, 4, none⟩ = some (.slice As m cs) := y4
    have x5 : ∀ (nn : Nat) (O : Obj), ((wr.drewN nn).alloc O).cell? ⟨w.heap.size + 1 + 1 + 1, 4, none⟩ = some (.slice As m cs) := fun nn O => (World.cell?_alloc_lt (wr.drewN nn) O ⟨w.heap.size + 3, 4, none⟩ hsr).trans y4
    obtain ⟨a0, a1, a2, a3, a4, a5, b0, b1, b2, z0, z1, z2, z3, z4, u0, u1, u2, u3, u4⟩ := wr_facts ((hiv.bel.block w.heap.size (by omega)).trans HB0.out) ((hiv.bel.block (w.heap.size + 1) (by omega)).trans HB1.out) (HB2.out.keep (hiv.bel.block (w.heap.size + 2) (by omega)))
    have HBW := Lib.hid (HB3.out.trans (hiv.bel.mono (by omega)))
    clear hiv
    by_cases hm : k < l.length
    ·obtain ⟨b, o, hA, hbb, hr⟩ := (HL.out.below HBW.out).at_ (getD_of hm)
     obtain ⟨t, ht0⟩ : ∃ t, t = l.getD k default := ⟨_, rfl⟩
     have HRK := Lib.hid (HL.out.ok (ht0 ▸ mem_getD hm : t ∈ l))
     rw [← ht0] at hr
     obtain ⟨d0, d1, d2⟩ := hr
     have HT := Lib.hid ht0
     rw [hA] at a4
     clear ht0 hA
     obtain ⟨ts, tc, tv⟩ := t
     have j0 : (0 : Int) ≤ (k : Int) := by omega
     have hbr : b < wr.heap.size := by omega
     by_cases q : rs < ts
     ·have q' : decide (rs < ts) = true := by simpa using q
      have HST := Lib.hid (show l.filter (fun x => decide (x.s < rs)) ++ [⟨rs, rc, rv⟩] ++ (l.take (k + 1)).filter (fun x => decide (rs < x.s)) = l.filter (fun x => decide (x.s < rs)) ++ [⟨rs, rc, rv⟩] ++ (l.take k).filter (fun x => decide (rs < x.s)) ++ [⟨ts, tc, tv⟩] by rw [filt_snoc _ hm, ← HT.out, if_pos q']; simp only [List.append_assoc])
      go_wp2
      go_quiet (fail)
      go_wp2
      go_region_law ((refine step_append_run _ rfl (.tmp 73) (.tmp 79) 43 rfl (.slice As m cs) (.slice (some ⟨wr.heap.size, 0, none⟩) 1 1) rfl rfl (HIV.out.app (r := ⟨ts, tc, tv⟩) (HOKL.out k) (HLNL.out k) _ (by repeat (first | with_reducible exact Below.refl _ _ | assumption | with_reducible apply below_alloc | with_reducible apply below_drew | with_reducible apply below_drewN | (with_reducible apply below_next; rotate_left; assumption))) _ _ _ (by first | exact one_rec _ ⟨ts, tc, tv⟩ HRK.out | exact ((one_rec wr ⟨ts, tc, tv⟩ HRK.out).drewN _).drew)) ?_; rintro v1 w2 ⟨A2, c2, rfl, hown2, hb2⟩; have HO2 := Lib.hid hown2; have HBB := Lib.hid hb2; have e4 : w2.cell? ⟨w.heap.size + 1 + 1 + 1, 4, none⟩ = some (.slice As m cs) := (hb2.cell (p := ⟨w.heap.size + 3, 4, none⟩) (Nat.lt_succ_self _)).trans y4; have f4 : w2.frozen? ⟨w.heap.size + 1 + 1 + 1, 4, none⟩ = false := (hb2.frozen (p := ⟨w.heap.size + 3, 4, none⟩) (Nat.lt_succ_self _)).trans y5; clear hown2 hb2))
      all_goals
       go_wp2
       go_roundw
       case rel => exact ⟨k + 1, m + 1, c2, A2, by omega, by go_num, by rw [HST.out]; exact HIV.out.step HO2.out HBB.out⟩
       case measure => simp [intOf]; omega
     ·have q' : decide (rs < ts) = false := by simpa using q
      have HST := Lib.hid (show l.filter (fun x => decide (x.s < rs)) ++ [⟨rs, rc, rv⟩] ++ (l.take (k + 1)).filter (fun x => decide (rs < x.s)) = l.filter (fun x => decide (x.s < rs)) ++ [⟨rs, rc, rv⟩] ++ (l.take k).filter (fun x => decide (rs < x.s)) by rw [filt_snoc _ hm, ← HT.out, if_neg (by rw [q']; simp)]; simp)
      go_wp2
      go_quiet (fail)
      go_wp2
      go_roundw
      case rel => exact ⟨k + 1, m, cs, As, by omega, by go_num, by rw [HST.out]; exact HIV.out.draw _⟩
      case measure => simp [intOf]; omega
    ·have HK := Lib.hid (show k = l.length by omega)
     go_wp2
     refine bodyPost_ret (v := rowV key 0 ⟨#[]⟩ ⟨#[]⟩ As m cs) (by simp [results, Tryz.results61, go_sem, z0, z1, z2, z3, z4]) rfl ?_
     have hE : endRec l ⟨rs, rc, rv⟩ = l.filter (fun x => decide (x.s < rs)) ++ [⟨rs, rc, rv⟩] ++ (l.take k).filter (fun x => decide (rs < x.s)) := by unfold endRec; rw [HK.out, List.take_length]
     have hml : m = (endRec l ⟨rs, rc, rv⟩).length := by rw [hE]; exact HIV.out.len
     refine ⟨As, cs, by rw [← hml], ?_, ⟨fun ad h => by have := HIV.out.own.new ad h; omega, by rw [hE]; exact HIV.out.own.cap⟩, ?_⟩
     ·rw [hE]
      refine OwnsRecs.rec (base := w.heap.size + 3 + 1) (n := m) (c := cs) ?_ (by have := HLNL.out k; omega) (HOKL.out k)
      repeat (refine OwnsRecs.set ?_ (by dsimp only; omega) _)
      exact HIV.out.own
     ·repeat (refine below_set ?_ (by dsimp only; omega) _)
      exact HBW.out
end Go.Proofs.YtambkjnhfejfaaaGreat
