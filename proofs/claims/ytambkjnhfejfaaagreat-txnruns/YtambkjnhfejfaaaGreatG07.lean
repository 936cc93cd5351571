/-
  Contracts of functions of the program and words for memory, several texts in one: WithRec, Two, TDoPure, TValid, Commit. Conditions: those stated with each.
-/
import Derived.Test.YtambkjnhfejfaaaGreatG03
import Derived.Test.YtambkjnhfejfaaaGreatG06
import Derived.WalkSpells
namespace Go.Proofs.YtambkjnhfejfaaaGreat
open Go.RowKit
set_option maxHeartbeats 2000000 in
theorem withoutLock_any (key lp val : ByteArray) (ls : Int) (A : Option Addr) (n c : Nat) (w : World) :
 Calls Tryz.prog 98 #[rowV key ls lp val A n c] w fun e w' => e = .returned (rowV key 0 ⟨#[]⟩ ⟨#[]⟩ A n c) ∧ Below w.heap.size w w' := by
 go_enter Tryz.func98, Tryz.ntmps98
 go_wp2
 exact bodyPost_ret (v := rowV key 0 ⟨#[]⟩ ⟨#[]⟩ A n c) (by simp [results, Tryz.results98, go_sem]) rfl ⟨rfl, by repeat (first | with_reducible exact Below.refl _ _ | assumption | with_reducible apply below_alloc | with_reducible apply below_drew | with_reducible apply below_drewN | (with_reducible apply below_next; rotate_left; assumption))⟩
theorem make_room (n : Nat) (hn : n ≤ 100) : ∃ Z : Array Value, Z.size = (n + 1) * 3 ∧ ∀ W : World, (Instr.makeSlice 43 (.int .i64 0) (.int .i64 ((n : Int) + 1))).run Tryz.prog W =
 .ok (.slice (some ⟨W.heap.size, 0, none⟩) 0 (n + 1)) (W.alloc (.cells Z 80)) := by
 obtain ⟨i0, hi0, hz0, hz1, hz2⟩ := info_parts rec_info
 refine ⟨madeCells (Value.agg #[.int .i64 0, .int .i64 0, .string ⟨#[]⟩]).cells ((n + 1) * 3), by rw [size_madeCells], fun W => ?_⟩
 have h := run_make (P := Tryz.prog) W 43 80 i0 _ Tryz.underlying43 hi0 hz0 .i64 .i64 0 ((n : Int) + 1) (by omega) (by omega) (by rw [hz2]; omega) (by omega)
 have e : ((n : Int) + 1).toNat = n + 1 := by omega
 rw [e, hz1] at h
 exact h
theorem owns_made (W : World) (n : Nat) (Z : Array Value) (hn : n ≤ 100) (hZ : Z.size = (n + 1) * 3) : OwnsRecs (W.alloc (.cells Z 80)) W.heap.size (.slice (some ⟨W.heap.size, 0, none⟩) 0 (n + 1)) [] :=
 World.ownsRow_made W Z (n + 1) (Nat.le_refl _) (by simp only [maxLen]; omega) hZ
theorem cut_front {w : World} {B : Nat} {A : Option Addr} {l : List RecM} (h : RecsAt w B A l) (k : Nat) (hk : k ≤ l.length) : k = (l.take k).length ∧ RecsAt w B A (l.take k) := ⟨by simp; omega, h.take k⟩
theorem cut_back {w : World} {B n c : Nat} {A : Option Addr} {l : List RecM} (h : RecsAt w B A l) (k : Nat) (hk : k ≤ l.length) (hn : n = l.length) (hc : n ≤ c) : n - k = (l.drop k).length ∧ RecsAt w B (if c = k then A else A.map (·.add (k * 3))) (l.drop k) := by
 refine ⟨by simp; omega, by have := h.1; simp; omega, fun r hr => h.2.1 r (List.mem_of_mem_drop hr), fun h0 => ?_⟩
 have h1 : k < l.length := by simp at h0; omega
 obtain ⟨b, o, rfl, hb, hcl⟩ := h.2.2 (by omega)
 rw [if_neg (by omega)]
 refine ⟨b, o + k * 3, ?_, hb, fun i r hr => ?_⟩
 ·show some ((⟨b, o, none⟩ : Addr).add (k * 3)) = _
  unfold Addr.add
  split
  ·rename_i h; rw [h]; rfl
  ·rfl
 ·rw [List.getElem?_drop] at hr
  have := hcl _ _ hr
  rw [show o + k * 3 + i * 3 = o + (k + i) * 3 by omega]
  exact this
theorem wr_facts {w : World} {a b d : Nat} {v0 v1 v2 v3 v4 x0 x1 x2 : Value} (h0 : w.heap[a]? = some (.cells #[v0, v1, v2, v3, v4] 45 (0, 0))) (h1 : w.heap[b]? = some (.cells #[x0, x1, x2] 80 (0, 0))) (h2 : ZeroRow w d) :
 w.cell? ⟨a, 0, none⟩ = some v0 ∧ w.cell? ⟨a, 1, none⟩ = some v1 ∧ w.cell? ⟨a, 2, none⟩ = some v2 ∧ w.cell? ⟨a, 3, none⟩ = some v3 ∧ w.cell? ⟨a, 4, none⟩ = some v4 ∧ w.frozen? ⟨a, 4, none⟩ = false ∧
 w.cell? ⟨b, 0, none⟩ = some x0 ∧ w.cell? ⟨b, 1, none⟩ = some x1 ∧ w.cell? ⟨b, 2, none⟩ = some x2 ∧
 w.cell? ⟨d, 0, none⟩ = some (.string ⟨#[]⟩) ∧ w.cell? ⟨d, 1, none⟩ = some (.int .i64 0) ∧ w.cell? ⟨d, 2, none⟩ = some (.string ⟨#[]⟩) ∧ w.cell? ⟨d, 3, none⟩ = some (.string ⟨#[]⟩) ∧ w.cell? ⟨d, 4, none⟩ = some (.slice none 0 0) ∧
 w.frozen? ⟨d, 0, none⟩ = false ∧ w.frozen? ⟨d, 1, none⟩ = false ∧ w.frozen? ⟨d, 2, none⟩ = false ∧ w.frozen? ⟨d, 3, none⟩ = false ∧ w.frozen? ⟨d, 4, none⟩ = false :=
 ⟨by rw [Joins.cell_of_block h0]; rfl, by rw [Joins.cell_of_block h0]; rfl, by rw [Joins.cell_of_block h0]; rfl, by rw [Joins.cell_of_block h0]; rfl, by rw [Joins.cell_of_block h0]; rfl, Joins.unfrozen_of_block h0 _,
  by rw [Joins.cell_of_block h1]; rfl, by rw [Joins.cell_of_block h1]; rfl, by rw [Joins.cell_of_block h1]; rfl, zero_facts h2⟩
theorem one_rec (w : World) (r : RecM) (hr : RecOk r) : RecsAt (w.alloc (.cells #[.int .i64 r.s, .int .i64 r.c, .string r.v] 80)) (w.heap.size + 1) (some ⟨w.heap.size, 0, none⟩) [r] :=
 recsAt_block (by simp) (by simpa using hr) (Nat.lt_succ_self _) (heap_alloc_new w _) (fun j v h => by simpa [recsC, recC] using h)
set_option maxHeartbeats 4000000 in
theorem withRecord_any (key lp val : ByteArray) (ls : Int) (A : Option Addr) (n c : Nat) (l : List RecM) (r : RecM) (w : World) (hn : n = l.length) (hc : n ≤ c) (h100 : n ≤ 100) (hl : RecsAt w w.heap.size A l) (hr : RecOk r) :
 Calls Tryz.prog 97 #[rowV key ls lp val A n c, recV r] w (RowOut key ls lp val (insRec l r) w) := by
 subst hn
 obtain ⟨rs, rc, rv⟩ := r
 obtain ⟨Z, hZ, hmk⟩ := make_room l.length h100
 have hpl := placeOf_le rs l
 have hpe := placeOf_eq rs l
 obtain ⟨i, hix⟩ : ∃ i, i = lastIx (fun x => decide (x.s < rs)) l := ⟨_, rfl⟩
 have HIX := Lib.hid hix
 obtain ⟨p, hp⟩ : ∃ p, p = placeOf rs l := ⟨_, rfl⟩
 have HPL := Lib.hid hp
 rw [← hp] at hpl hpe
 rw [← hix] at hpe
 have hi' : i = (p : Int) - 1 := by omega
 have HI' := Lib.hid hi'
 clear hix hp hpe hi'
 have HL := Lib.hid hl
 have HR := Lib.hid hr
 clear hl hr
 obtain ⟨W3, hW3⟩ : ∃ W3, W3 = ((w.alloc (.cells #[.string key, .int .i64 ls, .string lp, .string val, .slice A l.length c] 45)).alloc (.cells #[.int .i64 rs, .int .i64 rc, .string rv] 80)).alloc (.cells #[.string ⟨#[]⟩, .int .i64 0, .string ⟨#[]⟩, .string ⟨#[]⟩, .slice none 0 0] 45) := ⟨_, rfl⟩
 have hb3 : Below w.heap.size w W3 := by rw [hW3]; repeat (first | with_reducible exact Below.refl _ _ | assumption | with_reducible apply below_alloc | with_reducible apply below_drew | with_reducible apply below_drewN | (with_reducible apply below_next; rotate_left; assumption))
 have hs3 : W3.heap.size = w.heap.size + 3 := by rw [hW3]; simp
 obtain ⟨hB0, hB1, hB2⟩ := three_blocks w (.cells #[.string key, .int .i64 ls, .string lp, .string val, .slice A l.length c] 45) (.cells #[.int .i64 rs, .int .i64 rc, .string rv] 80) (.cells #[.string ⟨#[]⟩, .int .i64 0, .string ⟨#[]⟩, .string ⟨#[]⟩, .slice none 0 0] 45)
 rw [← hW3] at hB0 hB1 hB2
 have k1 : W3.cell? ⟨w.heap.size + 1, 0, none⟩ = some (.int .i64 rs) := by rw [Joins.cell_of_block hB1]; rfl
 have H3 := Lib.hid hW3
 have HB3 := Lib.hid hb3
 have HB0 := Lib.hid hB0
 have HB1 := Lib.hid hB1
 have HB2 := Lib.hid hB2
 clear hW3 hb3 hB0 hB1 hB2
 go_enter Tryz.func97, Tryz.ntmps97
 go_wp2_with fail
 rw [← H3.out]
 refine (findPlace_any l A l.length c (w.heap.size + 1) 0 rs W3 rfl (HL.out.upto HB3.out) k1).mono ?_
 rw [← HIX.out, HI'.out]
 rintro e w1 ⟨rfl, hb1⟩
 have hs1 : w.heap.size + 2 < w1.heap.size := by have := hb1.size; omega
 have HD0 := Lib.hid ((hb1.block w.heap.size (by omega)).trans HB0.out)
 have HD1 := Lib.hid ((hb1.block (w.heap.size + 1) (by omega)).trans HB1.out)
 have HD2 := Lib.hid (ZeroRow.mk ((hb1.block (w.heap.size + 2) (by omega)).trans HB2.out))
 have HBW := Lib.hid (below_next HB3.out hb1)
 have HL1 := Lib.hid (HL.out.upto HBW.out)
 have HOW := Lib.hid (owns_made w1 l.length Z h100 hZ)
 obtain ⟨a0, a1, a2, a3, a4, a5, b0, b1, b2, z0, z1, z2, z3, z4, u0, u1, u2, u3, u4⟩ := wr_facts HD0.out HD1.out HD2.out
 clear hb1 k1
 have hpc : p ≤ c := by omega
 have hs1a : w.heap.size < w1.heap.size := by omega
 have hs1b : w.heap.size + 1 < w1.heap.size := by omega
 have HINS := Lib.hid (show insRec l ⟨rs, rc, rv⟩ = l.take p ++ [⟨rs, rc, rv⟩] ++ l.drop p by unfold insRec; rw [← HPL.out])
 have HLEN := Lib.hid (show (l.take p ++ [(⟨rs, rc, rv⟩ : RecM)] ++ l.drop p).length = l.length + 1 by simp; omega)
 have HOK := Lib.hid (show ∀ r ∈ l.take p ++ [(⟨rs, rc, rv⟩ : RecM)] ++ l.drop p, RecOk r from fun r hr => by
  simp only [List.mem_append, List.mem_singleton] at hr
  rcases hr with (hr | rfl) | hr
  ·exact HL1.out.ok (List.mem_of_mem_take hr)
  ·exact HR.out
  ·exact HL1.out.ok (List.mem_of_mem_drop hr))
 have hcut := cut_back HL1.out p hpl rfl hc
 by_cases hcp : c = p
 ·have HBK := Lib.hid (show RecsAt w1 w1.heap.size A (l.drop p) by have := hcut.2; rwa [if_pos hcp] at this)
  clear hcut
  have hcp' := hcp.symm
  subst hcp'
  go_wp2_with (first
   | (at_builtin; refine wpList_append_run _ rfl (.tmp 17) (.tmp 21) 43 rfl _ _ rfl rfl (app_shape _ w1 _ w1.heap.size w1.heap.size p _ _ [] A (l.take p) HOW.out (cut_front HL1.out p hpl).1 ((cut_front HL1.out p hpl).2.alloc (Nat.le_refl _) _) (by simp; omega) (by simp) (by simp) ((Below.refl _ _).alloc (Nat.le_refl _) _)) ?_
      rintro v1 w2 ⟨A2, c2, hv1, hown2, hb2, hsz2⟩
      have e2 : ([] ++ l.take p).length = p := by simp; omega
      rw [e2] at hv1 hown2
      subst hv1
      have HO2 : Hid (OwnsRecs w2 w1.heap.size (.slice A2 p c2) (l.take p)) := hown2
      have hs2 : w1.heap.size < w2.heap.size := by simp at hsz2; omega
      have HB2' := Lib.hid hb2
      obtain ⟨a0, a1, a2, a3, a4, a5, b0, b1, b2, z0, z1, z2, z3, z4, u0, u1, u2, u3, u4⟩ := wr_facts ((hb2.block _ hs1a).trans HD0.out) ((hb2.block _ hs1b).trans HD1.out) (HD2.out.keep (hb2.block _ hs1))
      clear hown2 hb2 hsz2 e2)
   | (at_builtin; refine wpList_append_run _ rfl (.tmp 23) (.tmp 25) 43 rfl _ _ rfl rfl (app_shape _ w1 _ w1.heap.size (w2.heap.size + 1) 1 1 _ (l.take p) (some ⟨w2.heap.size, 0, none⟩) [⟨rs, rc, rv⟩] (HO2.out.kept (below_alloc (Below.refl _ _) _)) rfl (one_rec w2 ⟨rs, rc, rv⟩ HR.out) (by simp; omega) (fun r hr => HL1.out.ok (List.mem_of_mem_take hr)) (by simp; omega) (HB2'.out.alloc (by omega) _)) ?_
      rintro v2 w3 ⟨A3, c3, hv2, hown3, hb3, hsz3⟩
      have e3 : (l.take p ++ [(⟨rs, rc, rv⟩ : RecM)]).length = p + 1 := by simp; omega
      rw [e3] at hv2 hown3
      subst hv2
      have HO3 : Hid (OwnsRecs w3 w1.heap.size (.slice A3 (p + 1) c3) (l.take p ++ [⟨rs, rc, rv⟩])) := hown3
      have hs3' : w1.heap.size < w3.heap.size := by simp at hsz3; omega
      have HB3' := Lib.hid hb3
      obtain ⟨a0, a1, a2, a3, a4, a5, b0, b1, b2, z0, z1, z2, z3, z4, u0, u1, u2, u3, u4⟩ := wr_facts ((hb3.block _ hs1a).trans HD0.out) ((hb3.block _ hs1b).trans HD1.out) (HD2.out.keep (hb3.block _ hs1))
      clear hown3 hb3 hsz3 e3)
   | (at_builtin; refine (wpList_append_run _ rfl (.tmp 27) (.tmp 31) 43 rfl (.slice A3 (p + 1) c3) _ rfl rfl (app_shape _ w1 _ w1.heap.size w1.heap.size _ _ (.slice A3 (p + 1) c3) (l.take p ++ [(⟨rs, rc, rv⟩ : RecM)]) _ (l.drop p) HO3.out (by simp only [List.length_drop] <;> omega) (by first | exact (HBK.out.below HB3'.out) | exact RecsAt.below (by simpa using HBK.out) HB3'.out) (by simp only [List.length_append, List.length_take, List.length_drop, List.length_cons, List.length_nil]; omega) (fun r hr => by rcases List.mem_append.1 hr with hr | hr; exact HL1.out.ok (List.mem_of_mem_take hr); (simp at hr; subst hr; exact HR.out)) (by omega) HB3'.out) ?_)
      rintro v3 w4 ⟨A4, c4, hv3, hown4, hb4, hsz4⟩
      have e4 : (l.take p ++ [(⟨rs, rc, rv⟩ : RecM)] ++ l.drop p).length = l.length + 1 := by simp; omega
      rw [e4] at hv3 hown4
      subst hv3
      have HO4 : Hid (OwnsRecs w4 w1.heap.size (.slice A4 (l.length + 1) c4) (l.take p ++ [⟨rs, rc, rv⟩] ++ l.drop p)) := hown4
      have hs4' : w1.heap.size < w4.heap.size := by omega
      have HB4' := Lib.hid hb4
      obtain ⟨a0, a1, a2, a3, a4, a5, b0, b1, b2, z0, z1, z2, z3, z4, u0, u1, u2, u3, u4⟩ := wr_facts ((hb4.block _ hs1a).trans HD0.out) ((hb4.block _ hs1b).trans HD1.out) (HD2.out.keep (hb4.block _ hs1))
      clear hown4 hb4 hsz4 e4))
  refine bodyPost_ret (v := rowV key ls lp val A4 (l.length + 1) c4) (by simp [results, Tryz.results97, go_sem, z0, z1, z2, z3, z4]) rfl ⟨A4, c4, by rw [HINS.out, HLEN.out], ?_, ⟨fun ad h => by have := HO4.out.new ad h; omega, by rw [HINS.out]; exact HO4.out.cap⟩, ?_⟩
  ·rw [HINS.out]
   refine OwnsRecs.rec (base := w1.heap.size) (n := l.length + 1) (c := c4) ?_ (by rw [HLEN.out]; omega) HOK.out
   repeat (refine OwnsRecs.set ?_ (by simp; omega) _)
   exact HO4.out
  ·repeat (refine below_set ?_ (by dsimp only; omega) _)
   exact HBW.out.trans (HB4'.out.mono (by omega))
 ·have HBK := Lib.hid (show RecsAt w1 w1.heap.size (A.map (·.add (p * 3))) (l.drop p) by have := hcut.2; rwa [if_neg hcp] at this)
  clear hcut
  go_wp2_with (first
   | (at_builtin; refine wpList_append_run _ rfl (.tmp 17) (.tmp 21) 43 rfl _ _ rfl rfl (app_shape _ w1 _ w1.heap.size w1.heap.size p _ _ [] A (l.take p) HOW.out (cut_front HL1.out p hpl).1 ((cut_front HL1.out p hpl).2.alloc (Nat.le_refl _) _) (by simp; omega) (by simp) (by simp) ((Below.refl _ _).alloc (Nat.le_refl _) _)) ?_
      rintro v1 w2 ⟨A2, c2, hv1, hown2, hb2, hsz2⟩
      have e2 : ([] ++ l.take p).length = p := by simp; omega
      rw [e2] at hv1 hown2
      subst hv1
      have HO2 : Hid (OwnsRecs w2 w1.heap.size (.slice A2 p c2) (l.take p)) := hown2
      have hs2 : w1.heap.size < w2.heap.size := by simp at hsz2; omega
      have HB2' := Lib.hid hb2
      obtain ⟨a0, a1, a2, a3, a4, a5, b0, b1, b2, z0, z1, z2, z3, z4, u0, u1, u2, u3, u4⟩ := wr_facts ((hb2.block _ hs1a).trans HD0.out) ((hb2.block _ hs1b).trans HD1.out) (HD2.out.keep (hb2.block _ hs1))
      clear hown2 hb2 hsz2 e2)
   | (at_builtin; refine wpList_append_run _ rfl (.tmp 23) (.tmp 25) 43 rfl _ _ rfl rfl (app_shape _ w1 _ w1.heap.size (w2.heap.size + 1) 1 1 _ (l.take p) (some ⟨w2.heap.size, 0, none⟩) [⟨rs, rc, rv⟩] (HO2.out.kept (below_alloc (Below.refl _ _) _)) rfl (one_rec w2 ⟨rs, rc, rv⟩ HR.out) (by simp; omega) (fun r hr => HL1.out.ok (List.mem_of_mem_take hr)) (by simp; omega) (HB2'.out.alloc (by omega) _)) ?_
      rintro v2 w3 ⟨A3, c3, hv2, hown3, hb3, hsz3⟩
      have e3 : (l.take p ++ [(⟨rs, rc, rv⟩ : RecM)]).length = p + 1 := by simp; omega
      rw [e3] at hv2 hown3
      subst hv2
      have HO3 : Hid (OwnsRecs w3 w1.heap.size (.slice A3 (p + 1) c3) (l.take p ++ [⟨rs, rc, rv⟩])) := hown3
      have hs3' : w1.heap.size < w3.heap.size := by simp at hsz3; omega
      have HB3' := Lib.hid hb3
      obtain ⟨a0, a1, a2, a3, a4, a5, b0, b1, b2, z0, z1, z2, z3, z4, u0, u1, u2, u3, u4⟩ := wr_facts ((hb3.block _ hs1a).trans HD0.out) ((hb3.block _ hs1b).trans HD1.out) (HD2.out.keep (hb3.block _ hs1))
      clear hown3 hb3 hsz3 e3)
   | (at_builtin; refine (wpList_append_run _ rfl (.tmp 27) (.tmp 31) 43 rfl (.slice A3 (p + 1) c3) _ rfl rfl (app_shape _ w1 _ w1.heap.size w1.heap.size _ _ (.slice A3 (p + 1) c3) (l.take p ++ [(⟨rs, rc, rv⟩ : RecM)]) _ (l.drop p) HO3.out (by simp only [List.length_drop] <;> omega) (by first | exact (HBK.out.below HB3'.out) | exact RecsAt.below (by simpa using HBK.out) HB3'.out) (by simp only [List.length_append, List.length_take, List.length_drop, List.length_cons, List.length_nil]; omega) (fun r hr => by rcases List.mem_append.1 hr with hr | hr; exact HL1.out.ok (List.mem_of_mem_take hr); (simp at hr; subst hr; exact HR.out)) (by omega) HB3'.out) ?_)
      rintro v3 w4 ⟨A4, c4, hv3, hown4, hb4, hsz4⟩
      have e4 : (l.take p ++ [(⟨rs, rc, rv⟩ : RecM)] ++ l.drop p).length = l.length + 1 := by simp; omega
      rw [e4] at hv3 hown4
      subst hv3
      have HO4 : Hid (OwnsRecs w4 w1.heap.size (.slice A4 (l.length + 1) c4) (l.take p ++ [⟨rs, rc, rv⟩] ++ l.drop p)) := hown4
      have hs4' : w1.heap.size < w4.heap.size := by omega
      have HB4' := Lib.hid hb4
      obtain ⟨a0, a1, a2, a3, a4, a5, b0, b1, b2, z0, z1, z2, z3, z4, u0, u1, u2, u3, u4⟩ := wr_facts ((hb4.block _ hs1a).trans HD0.out) ((hb4.block _ hs1b).trans HD1.out) (HD2.out.keep (hb4.block _ hs1))
      clear hown4 hb4 hsz4 e4))
  refine bodyPost_ret (v := rowV key ls lp val A4 (l.length + 1) c4) (by simp [results, Tryz.results97, go_sem, z0, z1, z2, z3, z4]) rfl ⟨A4, c4, by rw [HINS.out, HLEN.out], ?_, ⟨fun ad h => by have := HO4.out.new ad h; omega, by rw [HINS.out]; exact HO4.out.cap⟩, ?_⟩
  ·rw [HINS.out]
   refine OwnsRecs.rec (base := w1.heap.size) (n := l.length + 1) (c := c4) ?_ (by rw [HLEN.out]; omega) HOK.out
   repeat (refine OwnsRecs.set ?_ (by simp; omega) _)
   exact HO4.out
  ·repeat (refine below_set ?_ (by dsimp only; omega) _)
   exact HBW.out.trans (HB4'.out.mono (by omega))
section
variable {w Wc w' : World} {g r : Nat} {v0 v1 v2 v3 v4 x0 x1 x2 : Value}
theorem nextS (hb : Below Wc.heap.size Wc w')
 (h : Wc.cell? ⟨g, 0, none⟩ = some v0 ∧ Wc.cell? ⟨g, 1, none⟩ = some v1 ∧ Wc.cell? ⟨g, 2, none⟩ = some v2 ∧ Wc.cell? ⟨g, 3, none⟩ = some v3 ∧ Wc.cell? ⟨g, 4, none⟩ = some v4 ∧ Wc.cell? ⟨r, 0, none⟩ = some x0 ∧ Wc.cell? ⟨r, 1, none⟩ = some x1 ∧ Wc.cell? ⟨r, 2, none⟩ = some x2 ∧ Below w.heap.size w Wc) :
 w'.cell? ⟨g, 0, none⟩ = some v0 ∧ w'.cell? ⟨g, 1, none⟩ = some v1 ∧ w'.cell? ⟨g, 2, none⟩ = some v2 ∧ w'.cell? ⟨g, 3, none⟩ = some v3 ∧ w'.cell? ⟨g, 4, none⟩ = some v4 ∧ w'.cell? ⟨r, 0, none⟩ = some x0 ∧ w'.cell? ⟨r, 1, none⟩ = some x1 ∧ w'.cell? ⟨r, 2, none⟩ = some x2 ∧ Below w.heap.size w w' := by
 obtain ⟨h0, h1, h2, h3, h4, h5, h6, h7, h8⟩ := h
 have hg : g < Wc.heap.size := World.block_lt_of_cell? Wc _ h0
 have hr : r < Wc.heap.size := World.block_lt_of_cell? Wc _ h5
 exact ⟨(hb.cell (p := ⟨g, 0, none⟩) hg).trans h0, (hb.cell (p := ⟨g, 1, none⟩) hg).trans h1, (hb.cell (p := ⟨g, 2, none⟩) hg).trans h2, (hb.cell (p := ⟨g, 3, none⟩) hg).trans h3, (hb.cell (p := ⟨g, 4, none⟩) hg).trans h4,
  (hb.cell (p := ⟨r, 0, none⟩) hr).trans h5, (hb.cell (p := ⟨r, 1, none⟩) hr).trans h6, (hb.cell (p := ⟨r, 2, none⟩) hr).trans h7, below_next h8 hb⟩
theorem setS {p : Addr} (hg : p.block ≠ g) (hr : p.block ≠ r) (hw : w.heap.size ≤ p.block) (u : Value)
 (h : Wc.cell? ⟨g, 0, none⟩ = some v0 ∧ Wc.cell? ⟨g, 1, none⟩ = some v1 ∧ Wc.cell? ⟨g, 2, none⟩ = some v2 ∧ Wc.cell? ⟨g, 3, none⟩ = some v3 ∧ Wc.cell? ⟨g, 4, none⟩ = some v4 ∧ Wc.cell? ⟨r, 0, none⟩ = some x0 ∧ Wc.cell? ⟨r, 1, none⟩ = some x1 ∧ Wc.cell? ⟨r, 2, none⟩ = some x2 ∧ Below w.heap.size w Wc) :
 (Wc.setCell p u).cell? ⟨g, 0, none⟩ = some v0 ∧ (Wc.setCell p u).cell? ⟨g, 1, none⟩ = some v1 ∧ (Wc.setCell p u).cell? ⟨g, 2, none⟩ = some v2 ∧ (Wc.setCell p u).cell? ⟨g, 3, none⟩ = some v3 ∧ (Wc.setCell p u).cell? ⟨g, 4, none⟩ = some v4 ∧
  (Wc.setCell p u).cell? ⟨r, 0, none⟩ = some x0 ∧ (Wc.setCell p u).cell? ⟨r, 1, none⟩ = some x1 ∧ (Wc.setCell p u).cell? ⟨r, 2, none⟩ = some x2 ∧ Below w.heap.size w (Wc.setCell p u) := by
 obtain ⟨h0, h1, h2, h3, h4, h5, h6, h7, h8⟩ := h
 have kg : ∀ k, (Wc.setCell p u).cell? ⟨g, k, none⟩ = Wc.cell? ⟨g, k, none⟩ := fun k => World.cell?_setCell_other Wc p ⟨g, k, none⟩ u (fun e => hg (congrArg Addr.block e))
 have kr : ∀ k, (Wc.setCell p u).cell? ⟨r, k, none⟩ = Wc.cell? ⟨r, k, none⟩ := fun k => World.cell?_setCell_other Wc p ⟨r, k, none⟩ u (fun e => hr (congrArg Addr.block e))
 exact ⟨(kg _).trans h0, (kg _).trans h1, (kg _).trans h2, (kg _).trans h3, (kg _).trans h4, (kr _).trans h5, (kr _).trans h6, (kr _).trans h7, below_set h8 hw u⟩
end
def commitE (key : ByteArray) (ls : Int) (lp val : ByteArray) (l : List RecM) (st cm : Int) : Int :=
 if rowB key ls lp val l = false then 6 else if inB st 1 1099511627776 = false then 2 else if inB cm (st + 1) 1099511627776 = false then 2 else if stOf ls st l = 3 then 9 else if ¬ ls = st then 5 else 0
def undoE (key : ByteArray) (ls : Int) (lp val : ByteArray) (l : List RecM) (st : Int) : Int :=
 if rowB key ls lp val l = false then 6 else if inB st 1 1099511627776 = false then 2 else if stOf ls st l = 2 then 6 else if stOf ls st l = 3 then 0 else if ls = st then 0 else if roomOf ls ≤ (l.length : Int) then 1 else 0
theorem stOf_one {ls st : Int} {l : List RecM} : stOf ls st l = 1 ↔ ls = st := by
 unfold stOf
 split
 ·simp [*]
 ·split
  ·split <;> simp [*]
  ·simp [*]
theorem stOf_zero {ls st : Int} {l : List RecM} (h : ¬ ls = st) : stOf ls st l = 0 ↔ hasRec st l = false := by
 unfold stOf
 rw [if_neg h]
 split
 ·split <;> simp [*]
 ·simp [*]
theorem lock_free {key : ByteArray} {ls : Int} {lp val : ByteArray} {l : List RecM} (h : rowB key ls lp val l = true) (h0 : ls ≠ 0) : hasRec ls l = false ∧ l.length ≤ 99 := by
 have M := (rowB_iff ..).1 h
 have h2 : roomOf ls = 99 := if_neg h0
 have := M.room
 exact ⟨(M.held h0).1, by omega⟩
theorem row_len {key : ByteArray} {ls : Int} {lp val : ByteArray} {l : List RecM} (h : rowB key ls lp val l = true) : l.length ≤ 100 := by
 have M := (rowB_iff ..).1 h
 have := M.room
 have := roomOf_bd ls
 omega
abbrev emptyS : ByteArray := ⟨#[]⟩
def freshRow (key : ByteArray) : RowM := ⟨key, 0, emptyS, emptyS, []⟩
def lockOp (st : Int) (pk pv : ByteArray) (r : RowM) : RowM × Int :=
 if lockE r.key r.ls r.lp r.val r.recs st pk pv = 0 then (⟨r.key, st, pk, pv, r.recs⟩, 0) else (default, lockE r.key r.ls r.lp r.val r.recs st pk pv)
def commitOp (st cm : Int) (r : RowM) : RowM × Int :=
 if commitE r.key r.ls r.lp r.val r.recs st cm = 0 then (⟨r.key, 0, emptyS, emptyS, endRec r.recs ⟨st, cm, r.val⟩⟩, 0) else (default, commitE r.key r.ls r.lp r.val r.recs st cm)
def undoneR (st : Int) (r : RowM) : RowM :=
 if stOf r.ls st r.recs = 3 then r else if stOf r.ls st r.recs = 1 then ⟨r.key, 0, emptyS, emptyS, endRec r.recs ⟨st, 0, emptyS⟩⟩ else ⟨r.key, r.ls, r.lp, r.val, endRec r.recs ⟨st, 0, emptyS⟩⟩
def undoOp (st : Int) (r : RowM) : RowM × Int :=
 if undoE r.key r.ls r.lp r.val r.recs st = 0 then (undoneR st r, 0) else (default, undoE r.key r.ls r.lp r.val r.recs st)
abbrev rowKeys (rows : List RowM) : List ByteArray := rows.map RowM.key
def rowAt (rows : List RowM) (key : ByteArray) : RowM := rows.getD (lowIx (rowKeys rows) key) default
def chgRow (rows : List RowM) (key : ByteArray) (op : RowM → RowM × Int) : List RowM × Int :=
 if hasK (rowKeys rows) key then
  (if (op (rowAt rows key)).2 = 0 then rows.set (lowIx (rowKeys rows) key) (op (rowAt rows key)).1 else rows, (op (rowAt rows key)).2)
 else if 40 ≤ rows.length then (rows, 1)
 else (if (op (freshRow key)).2 = 0 then rows.take (lowIx (rowKeys rows) key) ++ (op (freshRow key)).1 :: rows.drop (lowIx (rowKeys rows) key) else rows, (op (freshRow key)).2)
def statIn (rows : List RowM) (key : ByteArray) (st : Int) : Int × Int :=
 if hasK (rowKeys rows) key then (stOf (rowAt rows key).ls st (rowAt rows key).recs, cmOf (rowAt rows key).ls st (rowAt rows key).recs) else (0, 0)
def failRows (st : Int) : List WrM → List RowM → List RowM
 | [], rows => rows
 | x :: l, rows => failRows st l (if (statIn rows x.k st).1 = 1 then (chgRow rows x.k (undoOp st)).1 else rows)
def idleC : ClM := ⟨0, 0, 0, [], 0⟩
def WoM.setC (wo : WoM) (C : Nat) (c : ClM) : WoM := { wo with cls := wo.cls.set C c }
def failW (wo : WoM) (C : Nat) (c : ClM) : WoM := ⟨failRows c.st c.ws wo.rows, wo.clock, wo.cls.set C idleC⟩
abbrev ansV (a : AnsM) : Value := .agg #[.int .i64 a.code, .bool a.is, .string a.val, .int .i64 a.ph, .int .i64 a.time]
def ansCode (e : Int) : AnsM := ⟨e, false, emptyS, 0, 0⟩
def ansTime (t : Int) : AnsM := ⟨0, false, emptyS, 0, t⟩
def beginW (wo : WoM) (C : Nat) (c : ClM) : WoM × AnsM :=
 if c.ph = 0 then (⟨wo.rows, wo.clock + 1, wo.cls.set C ⟨1, wo.clock + 1, 0, [], 0⟩⟩, ansTime (wo.clock + 1)) else (wo, ansCode 6)
def dropW (wo : WoM) (C : Nat) (c : ClM) : WoM × Int := if c.ph = 0 then (wo, 6) else (wo.setC C idleC, 0)
def accessE (c : ClM) (key : ByteArray) : Int := if c.ph ≠ 1 then 6 else if keyB key = false then 4 else 0
abbrev wrKeys (l : List WrM) : List ByteArray := l.map WrM.k
def wrAt (l : List WrM) (key : ByteArray) : WrM := l.getD (lowIx (wrKeys l) key) default
def readA (r : RowM) (at_ : Int) : AnsM :=
 if inB r.ls 1 at_ then ansCode 7 else ⟨0, decide (0 < (bestOf at_ r.recs).c), (bestOf at_ r.recs).v, 0, 0⟩
def getA (wo : WoM) (c : ClM) (key : ByteArray) : AnsM :=
 if accessE c key ≠ 0 then ansCode (accessE c key)
 else if hasK (wrKeys c.ws) key then ⟨0, true, (wrAt c.ws key).v, 0, 0⟩
 else if hasK (rowKeys wo.rows) key then readA (rowAt wo.rows key) c.st
 else ansCode 0
def putC (c : ClM) (key val : ByteArray) : ClM × Int :=
 if accessE c key ≠ 0 then (c, accessE c key)
 else if 20 < val.size then (c, 1)
 else if hasK (wrKeys c.ws) key then ({ c with ws := c.ws.set (lowIx (wrKeys c.ws) key) ⟨(wrAt c.ws key).k, val⟩ }, 0)
 else if 6 ≤ c.ws.length then (c, 1)
 else ({ c with ws := c.ws.take (lowIx (wrKeys c.ws) key) ++ ⟨key, val⟩ :: c.ws.drop (lowIx (wrKeys c.ws) key) }, 0)
def lockW (wo : WoM) (C : Nat) (c : ClM) : WoM × Int :=
 let x := chgRow wo.rows (c.ws.getD c.at_.toNat default).k (lockOp c.st (c.ws.getD 0 default).k (c.ws.getD c.at_.toNat default).v)
 if x.2 = 0 then (⟨x.1, wo.clock, wo.cls.set C { c with at_ := c.at_ + 1 }⟩, 0)
 else if x.2 = 7 then (wo.setC C c, 7)
 else (failW wo C c, x.2)
def sealW (wo : WoM) (C : Nat) (c : ClM) : WoM × AnsM := (⟨wo.rows, wo.clock + 1, wo.cls.set C ⟨3, c.st, wo.clock + 1, c.ws, 0⟩⟩, ansTime (wo.clock + 1))
def commitW (wo : WoM) (C : Nat) (c : ClM) : WoM × Int :=
 let x := chgRow wo.rows (c.ws.getD c.at_.toNat default).k (commitOp c.st c.cm)
 if x.2 ≠ 0 ∧ c.ph = 3 then (failW wo C c, 9)
 else if c.at_ + 1 = c.ws.length then (⟨x.1, wo.clock, wo.cls.set C idleC⟩, 0)
 else (⟨x.1, wo.clock, wo.cls.set C ⟨4, c.st, c.cm, c.ws, c.at_ + 1⟩⟩, 0)
def stepW (wo : WoM) (C : Nat) (c : ClM) : WoM × AnsM :=
 if c.ph = 1 then
  if c.ws.length = 0 then (wo.setC C idleC, ansCode 0)
  else ((lockW wo C { c with ph := 2 }).1, ansCode (lockW wo C { c with ph := 2 }).2)
 else if c.ph = 2 then
  if c.at_ = c.ws.length then sealW wo C c else ((lockW wo C c).1, ansCode (lockW wo C c).2)
 else if c.ph = 3 ∨ c.ph = 4 then ((commitW wo C c).1, ansCode (commitW wo C c).2)
 else (wo, ansCode 6)
def resolveW (wo : WoM) (key : ByteArray) : WoM × Int :=
 if keyB key = false then (wo, 4)
 else if hasK (rowKeys wo.rows) key = false then (wo, 5)
 else if (rowAt wo.rows key).ls = 0 then (wo, 5)
 else
  let r := rowAt wo.rows key
  if (statIn wo.rows r.lp r.ls).1 = 2 then
   ({ wo with rows := (chgRow wo.rows key (commitOp r.ls (statIn wo.rows r.lp r.ls).2)).1 }, (chgRow wo.rows key (commitOp r.ls (statIn wo.rows r.lp r.ls).2)).2)
  else
   let x := chgRow wo.rows r.lp (undoOp r.ls)
   if x.2 ≠ 0 then (wo, x.2)
   else ({ wo with rows := (chgRow x.1 key (undoOp r.ls)).1 }, (chgRow x.1 key (undoOp r.ls)).2)
def performW (wo : WoM) (a : ActM) : WoM × AnsM :=
 let C := a.c.toNat
 let c := wo.cls.getD C default
 if a.kind = 1 then beginW wo C c
 else if a.kind = 2 then (wo, getA wo c a.key)
 else if a.kind = 3 then (wo.setC C (putC c a.key a.val).1, ansCode (putC c a.key a.val).2)
 else if a.kind = 4 then stepW wo C c
 else if a.kind = 5 then ((dropW wo C c).1, ansCode (dropW wo C c).2)
 else ((resolveW wo a.key).1, ansCode (resolveW wo a.key).2)
def doW (wo : WoM) (a : ActM) : WoM × AnsM := ((performW wo a).1, { (performW wo a).2 with ph := ((performW wo a).1.cls.getD a.c.toNat default).ph })
theorem recsOk_iff (l : List RecM) : recsFrom 0 0 l = true ↔ (∀ r ∈ l, recB r = true) ∧ l.Pairwise (fun a b => a.s < b.s ∧ (b.c ≠ 0 → a.c ≤ b.s)) := by
 rw [recsFrom_iff]
 constructor
 ·rintro ⟨h1, h2⟩
  exact ⟨fun r hr => (h1 r hr).1, h2⟩
 ·rintro ⟨h1, h2⟩
  refine ⟨fun r hr => ?_, h2⟩
  have hb := h1 r hr
  have hs : 1 ≤ r.s := by
   simp only [recB, Bool.and_eq_true] at hb
   exact (inB_true.1 hb.1).1
  exact ⟨hb, by omega, fun _ => by omega⟩
theorem lockB_iff {ls : Int} {lp val : ByteArray} {l : List RecM} (h : ls ≠ 0) : lockB ls lp val l = true ↔ inB ls 1 1099511627776 = true ∧ keyB lp = true ∧ val.size ≤ 20 ∧ ∀ r ∈ l, r.s ≠ ls ∧ r.c ≤ ls := by
 have hl := lastIx_neg (fun r => r.s == ls || decide (ls < r.c)) l
 simp only [lockB, if_neg h, Bool.and_eq_true, decide_eq_true_eq, and_assoc]
 rw [hl]
 refine and_congr_right fun _ => and_congr_right fun _ => and_congr_right fun _ => forall_congr' fun r => imp_congr_right fun _ => ?_
 simp only [Bool.or_eq_false_iff, beq_eq_false_iff_ne, decide_eq_false_iff_not, ne_eq]
 omega
theorem rowB_parts {key : ByteArray} {ls : Int} {lp val : ByteArray} {l : List RecM} : rowB key ls lp val l = true ↔ keyB key = true ∧ (l.length : Int) ≤ roomOf ls ∧ recsFrom 0 0 l = true ∧ lockB ls lp val l = true := by
 simp only [rowB, Bool.and_eq_true, decide_eq_true_eq, and_assoc]
theorem lock_zero {l : List RecM} : lockB 0 emptyS emptyS l = true := by simp [lockB, toList_data]
theorem recB_parts {r : RecM} (h : recB r = true) : 1 ≤ r.s ∧ r.s ≤ 1099511627776 ∧ (r.c ≠ 0 → r.s < r.c) := by
 simp only [recB, Bool.and_eq_true] at h
 obtain ⟨h1, h2⟩ := inB_true.1 h.1
 refine ⟨h1, h2, fun hc => ?_⟩
 have := h.2
 rw [if_neg hc] at this
 simp only [Bool.and_eq_true, decide_eq_true_eq] at this
 exact this.1.1
theorem endRec_len (l : List RecM) (x : RecM) : (endRec l x).length ≤ l.length + 1 := by
 have h : (l.filter fun y => decide (y.s < x.s)).length + (l.filter fun y => decide (x.s < y.s)).length ≤ l.length := by
  induction l with
  | nil => simp
  | cons y l ih =>
   simp only [List.filter_cons]
   by_cases h1 : y.s < x.s
   ·have h2 : ¬ x.s < y.s := by omega
    simp [h1, h2]; omega
   ·by_cases h2 : x.s < y.s <;> simp [h1, h2] <;> omega
 unfold endRec
 simp only [List.length_append, List.length_cons, List.length_nil]
 omega
theorem mem_endRec {l : List RecM} {x y : RecM} : y ∈ endRec l x ↔ y = x ∨ (y ∈ l ∧ y.s ≠ x.s) := by
 unfold endRec
 simp only [List.mem_append, List.mem_filter, decide_eq_true_eq, List.mem_singleton]
 constructor
 ·rintro ((⟨h, h'⟩ | h) | ⟨h, h'⟩)
  ·exact .inr ⟨h, by omega⟩
  ·exact .inl h
  ·exact .inr ⟨h, by omega⟩
 ·rintro (h | ⟨h, h'⟩)
  ·exact .inl (.inr h)
  ·rcases Int.lt_or_gt_of_ne h' with h' | h'
   ·exact .inl (.inl ⟨h, h'⟩)
   ·exact .inr ⟨h, h'⟩
theorem endRec_ok {l : List RecM} {x : RecM} (h : recsFrom 0 0 l = true) (hx : recB x = true) (h1 : ∀ a ∈ l, a.s < x.s → x.c ≠ 0 → a.c ≤ x.s) (h2 : ∀ b ∈ l, x.s < b.s → b.c ≠ 0 → x.c ≤ b.s) : recsFrom 0 0 (endRec l x) = true := by
 rw [recsOk_iff] at h ⊢
 refine ⟨fun r hr => ?_, ?_⟩
 ·rcases mem_endRec.1 hr with rfl | ⟨hr, _⟩
  ·exact hx
  ·exact h.1 r hr
 ·unfold endRec
  rw [List.append_assoc, List.pairwise_append]
  refine ⟨h.2.sublist List.filter_sublist, ?_, ?_⟩
  ·rw [List.singleton_append, List.pairwise_cons]
   refine ⟨fun b hb => ?_, h.2.sublist List.filter_sublist⟩
   obtain ⟨hb, hlt⟩ := List.mem_filter.1 hb
   have hlt : x.s < b.s := by simpa using hlt
   exact ⟨hlt, h2 b hb hlt⟩
  ·intro a ha b hb
   obtain ⟨ha', hlt'⟩ := List.mem_filter.1 ha
   have hlt : a.s < x.s := by simpa using hlt'
   rcases List.mem_append.1 hb with hb | hb
   ·have e := List.mem_singleton.1 hb
    rw [e]
    exact ⟨hlt, h1 a ha' hlt⟩
   ·obtain ⟨hb', hgt'⟩ := List.mem_filter.1 hb
    have hgt : x.s < b.s := by simpa using hgt'
    refine ⟨by omega, ?_⟩
    clear ha hb hlt' hgt'
    obtain ⟨i, hi, rfl⟩ := List.getElem_of_mem ha'
    obtain ⟨j, hj, rfl⟩ := List.getElem_of_mem hb'
    have hp := List.pairwise_iff_getElem.1 h.2
    rcases Nat.lt_trichotomy i j with hij | hij | hij
    ·exact (hp i j hi hj hij).2
    ·subst hij; omega
    ·have := (hp j i hj hi hij).1; omega
section
variable {r : RowM} {st cm : Int} {pk pv : ByteArray}
theorem lockOp_valid (h : r.ok = true) (e : (lockOp st pk pv r).2 = 0) : (lockOp st pk pv r).1.ok = true ∧ (lockOp st pk pv r).1.key = r.key := by
 have he : lockE r.key r.ls r.lp r.val r.recs st pk pv = 0 := by
  unfold lockOp at e
  split at e
  ·assumption
  ·exact e
 have hq : lockOp st pk pv r = (⟨r.key, st, pk, pv, r.recs⟩, 0) := by unfold lockOp; rw [if_pos he]
 rw [hq]
 refine ⟨?_, rfl⟩
 obtain ⟨p1, p2, p3, p4⟩ := rowB_parts.1 (show rowB r.key r.ls r.lp r.val r.recs = true from h)
 unfold lockE at he
 have hr : rowB r.key r.ls r.lp r.val r.recs = true := h
 rw [if_neg (by rw [hr]; decide)] at he
 split at he
 ·omega
 rename_i q1
 split at he
 ·omega
 rename_i q2
 split at he
 ·omega
 rename_i q3
 split at he
 ·omega
 rename_i q4
 split at he
 ·omega
 rename_i q5
 split at he
 ·omega
 rename_i q6
 split at he
 ·omega
 rename_i q7
 have q1' : inB st 1 1099511627776 = true := by simpa using q1
 have q2' : keyB pk = true := by simpa using q2
 have q5' := lateB_false.1 (by simpa using q5)
 have hls : r.ls = 0 := by simpa using q6
 obtain ⟨b1, _⟩ := inB_true.1 q1'
 show rowB r.key st pk pv r.recs = true
 have hroom : roomOf st = 99 := if_neg (by omega)
 refine rowB_parts.2 ⟨p1, by omega, p3, (lockB_iff (by omega)).2 ⟨q1', q2', by omega, fun x hx => ⟨fun hxs => ?_, q5' x hx⟩⟩⟩
 -- a record of the transaction itself
 have hne : ¬ r.ls = st := by omega
 have hf : hasRec st r.recs = true := by
  cases hh : hasRec st r.recs with
  | true => rfl
  | false => exact absurd hxs (hasRec_false.1 hh x hx)
 have hs3 : stOf r.ls st r.recs ≠ 3 := by simpa using q4
 simp only [stOf, if_neg hne, hf, if_true] at hs3
 have hc : (recOf st r.recs).c ≠ 0 := by
  intro hc
  rw [if_pos hc] at hs3
  exact hs3 rfl
 have hmem : recOf st r.recs ∈ r.recs ∧ (recOf st r.recs).s = st := by
  unfold hasRec at hf
  obtain ⟨y, hy⟩ := Option.isSome_iff_exists.1 hf
  unfold recOf
  rw [hy]
  refine ⟨List.mem_of_find?_eq_some hy, ?_⟩
  have := List.find?_some hy
  simpa using this
 have hb := recB_parts (((recsOk_iff _).1 p3).1 _ hmem.1)
 have h1 := hb.2.2 hc
 have h2 := q5' _ hmem.1
 omega
theorem commitOp_valid (h : r.ok = true) (e : (commitOp st cm r).2 = 0) : (commitOp st cm r).1.ok = true ∧ (commitOp st cm r).1.key = r.key ∧ r.ls = st ∧ inB st 1 1099511627776 = true ∧ inB cm (st + 1) 1099511627776 = true := by
 have he : commitE r.key r.ls r.lp r.val r.recs st cm = 0 := by
  unfold commitOp at e
  split at e
  ·assumption
  ·exact e
 have hq : commitOp st cm r = (⟨r.key, 0, emptyS, emptyS, endRec r.recs ⟨st, cm, r.val⟩⟩, 0) := by unfold commitOp; rw [if_pos he]
 rw [hq]
 obtain ⟨p1, p2, p3, p4⟩ := rowB_parts.1 (show rowB r.key r.ls r.lp r.val r.recs = true from h)
 have hr : rowB r.key r.ls r.lp r.val r.recs = true := h
 unfold commitE at he
 rw [if_neg (by rw [hr]; decide)] at he
 split at he
 ·omega
 rename_i q1
 split at he
 ·omega
 rename_i q2
 split at he
 ·omega
 split at he
 ·omega
 rename_i q4
 have q1' : inB st 1 1099511627776 = true := by simpa using q1
 have q2' : inB cm (st + 1) 1099511627776 = true := by simpa using q2
 have q4' : r.ls = st := by simpa using q4
 refine ⟨?_, rfl, q4', q1', q2'⟩
 obtain ⟨b1, b2⟩ := inB_true.1 q1'
 obtain ⟨b3, b4⟩ := inB_true.1 q2'
 have hl := (lockB_iff (by omega)).1 p4
 have hroom : roomOf r.ls = 99 := if_neg (by omega)
 refine rowB_parts.2 ⟨p1, by have := endRec_len r.recs ⟨st, cm, r.val⟩; simp only [roomOf, if_true]; omega, endRec_ok p3 ?_ (fun a ha hlt _ => ?_) (fun b hb hlt hc => ?_), lock_zero⟩
 ·simp only [recB]
  rw [if_neg (by omega), q1']
  simp only [Bool.true_and, Bool.and_eq_true, decide_eq_true_eq]
  exact ⟨⟨by omega, b4⟩, hl.2.2.1⟩
 ·have := (hl.2.2.2 a ha).2
  show a.c ≤ st
  omega
 ·have h1 := (hl.2.2.2 b hb).2
  have h2 := (recB_parts (((recsOk_iff _).1 p3).1 b hb)).2.2 hc
  have hlt' : st < b.s := hlt
  omega
theorem undoOp_valid (h : r.ok = true) (e : (undoOp st r).2 = 0) : (undoOp st r).1.ok = true ∧ (undoOp st r).1.key = r.key ∧ inB st 1 1099511627776 = true := by
 have he : undoE r.key r.ls r.lp r.val r.recs st = 0 := by
  unfold undoOp at e
  split at e
  ·assumption
  ·exact e
 have hq : undoOp st r = (undoneR st r, 0) := by unfold undoOp; rw [if_pos he]
 rw [hq]
 obtain ⟨p1, p2, p3, p4⟩ := rowB_parts.1 (show rowB r.key r.ls r.lp r.val r.recs = true from h)
 have hr : rowB r.key r.ls r.lp r.val r.recs = true := h
 unfold undoE at he
 rw [if_neg (by rw [hr]; decide)] at he
 split at he
 ·omega
 rename_i q1
 have q1' : inB st 1 1099511627776 = true := by simpa using q1
 obtain ⟨b1, b2⟩ := inB_true.1 q1'
 have hrec : recB (⟨st, 0, emptyS⟩ : RecM) = true := by simp [recB, q1', toList_data]
 have hins : recsFrom 0 0 (endRec r.recs ⟨st, 0, emptyS⟩) = true := endRec_ok p3 hrec (fun _ _ _ hc => absurd rfl hc) (fun b hb _ _ => by have := (recB_parts (((recsOk_iff _).1 p3).1 b hb)).1; show (0 : Int) ≤ b.s; omega)
 have hlen := endRec_len r.recs ⟨st, 0, emptyS⟩
 split at he
 ·omega
 rename_i q2
 dsimp only
 unfold undoneR
 split
 ·exact ⟨h, rfl, q1'⟩
 rename_i q3
 rw [if_neg q3] at he
 split
 ·rename_i q4
  have hls := stOf_one.1 q4
  have hroom : roomOf r.ls = 99 := if_neg (by omega)
  exact ⟨rowB_parts.2 ⟨p1, by simp only [roomOf, if_true]; omega, hins, lock_zero⟩, rfl, q1'⟩
 ·rename_i q4
  have hls : ¬ r.ls = st := fun hh => q4 (stOf_one.2 hh)
  rw [if_neg hls] at he
  split at he
  ·omega
  rename_i q5
  refine ⟨?_, rfl, q1'⟩
  show rowB r.key r.ls r.lp r.val (endRec r.recs ⟨st, 0, emptyS⟩) = true
  refine rowB_parts.2 ⟨p1, by omega, hins, ?_⟩
  by_cases h0 : r.ls = 0
  ·rw [h0] at p4 ⊢
   simpa [lockB] using p4
  ·have hl := (lockB_iff h0).1 p4
   refine (lockB_iff h0).2 ⟨hl.1, hl.2.1, hl.2.2.1, fun x hx => ?_⟩
   rcases mem_endRec.1 hx with rfl | ⟨hx, _⟩
   ·exact ⟨fun hh => hls hh.symm, by show (0 : Int) ≤ r.ls; have := (inB_true.1 hl.1).1; omega⟩
   ·exact hl.2.2.2 x hx
end
end Go.Proofs.YtambkjnhfejfaaaGreat
namespace Go.Proofs.YtambkjnhfejfaaaGreat
open Go.RowKit
set_option linter.unusedVariables false
section
variable (key lp val : ByteArray) (ls : Int) (A : Option Addr) (n c : Nat) (l : List RecM) (st cm : Int) (w : World)
set_option maxHeartbeats 2000000 in
theorem commit_state (hi : RowIn w key lp val A n l) (t : rowB key ls lp val l = false) :
 Calls Tryz.prog 85 #[rowV key ls lp val A n c, .int .i64 st, .int .i64 cm] w (RowOut2 ⟨#[]⟩ 0 ⟨#[]⟩ ⟨#[]⟩ [] 6 w) := by
 obtain ⟨W0, hW, k0, k1, k2, k3, k4, hz, hbW, hsW⟩ := box2_new w (.string key) (.int .i64 ls) (.string lp) (.string val) (.slice A n c)
 have HW := Lib.hid hW
 have HI0 := Lib.hid hi
 have HI := Lib.hid (hi.upto hbW)
 have HZ := Lib.hid hz
 have hlen := hi.l.len
 have hsz : w.heap.size + 1 < W0.heap.size := by omega
 clear hW hi hz hsW
 go_enter Tryz.func85, Tryz.ntmps85
 go_wp2_with fail
 rw [← HW.out]
 refine (checkAt_state key lp val ls A n c l st W0 HI.out t).mono ?_
 rintro e w1 ⟨rfl, hb1⟩
 obtain ⟨g0, g1, g2, g3, g4, _⟩ := boxS k0 k1 k2 k3 k4 hb1
 obtain ⟨z0, z1, z2, z3, z4, u0, u1, u2, u3, u4⟩ := zero_facts (HZ.out.keep (hb1.block _ hsz))
 go_wp2
 refine bodyPost_ret (v := .tuple #[rowV ⟨#[]⟩ 0 ⟨#[]⟩ ⟨#[]⟩ none 0 0, .int .i64 6]) (by simp [results, Tryz.results85, go_sem, z0, z1, z2, z3, z4]) rfl ⟨none, 0, rfl, RecsAt.nil_ _ _ _, ⟨newAt_none _, Nat.le_refl _⟩, ?_⟩
 have hbw : Below w.heap.size w w1 := below_next hbW hb1
 repeat (refine below_set ?_ (by simp) _)
 first | exact hbw | exact below_alloc hbw _
set_option maxHeartbeats 2000000 in
theorem commit_range (hi : RowIn w key lp val A n l) (t : rowB key ls lp val l = true) (t2 : inB st 1 1099511627776 = false) :
 Calls Tryz.prog 85 #[rowV key ls lp val A n c, .int .i64 st, .int .i64 cm] w (RowOut2 ⟨#[]⟩ 0 ⟨#[]⟩ ⟨#[]⟩ [] 2 w) := by
 obtain ⟨W0, hW, k0, k1, k2, k3, k4, hz, hbW, hsW⟩ := box2_new w (.string key) (.int .i64 ls) (.string lp) (.string val) (.slice A n c)
 have HW := Lib.hid hW
 have HI0 := Lib.hid hi
 have HI := Lib.hid (hi.upto hbW)
 have HZ := Lib.hid hz
 have hlen := hi.l.len
 have hsz : w.heap.size + 1 < W0.heap.size := by omega
 clear hW hi hz hsW
 go_enter Tryz.func85, Tryz.ntmps85
 go_wp2_with fail
 rw [← HW.out]
 refine (checkAt_range key lp val ls A n c l st W0 HI.out t t2).mono ?_
 rintro e w1 ⟨rfl, hb1⟩
 obtain ⟨g0, g1, g2, g3, g4, _⟩ := boxS k0 k1 k2 k3 k4 hb1
 obtain ⟨z0, z1, z2, z3, z4, u0, u1, u2, u3, u4⟩ := zero_facts (HZ.out.keep (hb1.block _ hsz))
 go_wp2
 refine bodyPost_ret (v := .tuple #[rowV ⟨#[]⟩ 0 ⟨#[]⟩ ⟨#[]⟩ none 0 0, .int .i64 2]) (by simp [results, Tryz.results85, go_sem, z0, z1, z2, z3, z4]) rfl ⟨none, 0, rfl, RecsAt.nil_ _ _ _, ⟨newAt_none _, Nat.le_refl _⟩, ?_⟩
 have hbw : Below w.heap.size w w1 := below_next hbW hb1
 repeat (refine below_set ?_ (by simp) _)
 first | exact hbw | exact below_alloc hbw _
set_option maxHeartbeats 2000000 in
theorem commit_when (hi : RowIn w key lp val A n l) (t : rowB key ls lp val l = true) (t2 : inB st 1 1099511627776 = true) (t3 : inB cm (st + 1) 1099511627776 = false) :
 Calls Tryz.prog 85 #[rowV key ls lp val A n c, .int .i64 st, .int .i64 cm] w (RowOut2 ⟨#[]⟩ 0 ⟨#[]⟩ ⟨#[]⟩ [] 2 w) := by
 obtain ⟨W0, hW, k0, k1, k2, k3, k4, hz, hbW, hsW⟩ := box2_new w (.string key) (.int .i64 ls) (.string lp) (.string val) (.slice A n c)
 have HW := Lib.hid hW
 have HI0 := Lib.hid hi
 have HI := Lib.hid (hi.upto hbW)
 have HZ := Lib.hid hz
 have hlen := hi.l.len
 have hsz : w.heap.size + 1 < W0.heap.size := by omega
 clear hW hi hz hsW
 have t3' := inB_false.1 t3
 by_cases q : cm ≤ st
 all_goals
  try (have q2 : 1099511627776 < cm := by omega)
  clear t3'
  go_enter Tryz.func85, Tryz.ntmps85
  go_wp2_with fail
  rw [← HW.out]
  refine (checkAt_ok key lp val ls A n c l st W0 HI.out t t2).mono ?_
  rintro e w1 ⟨rfl, hb1⟩
  obtain ⟨g0, g1, g2, g3, g4, _⟩ := boxS k0 k1 k2 k3 k4 hb1
  obtain ⟨z0, z1, z2, z3, z4, u0, u1, u2, u3, u4⟩ := zero_facts (HZ.out.keep (hb1.block _ hsz))
  go_wp2
  refine bodyPost_ret (v := .tuple #[rowV ⟨#[]⟩ 0 ⟨#[]⟩ ⟨#[]⟩ none 0 0, .int .i64 2]) (by simp [results, Tryz.results85, go_sem, z0, z1, z2, z3, z4]) rfl ⟨none, 0, rfl, RecsAt.nil_ _ _ _, ⟨newAt_none _, Nat.le_refl _⟩, ?_⟩
  have hbw : Below w.heap.size w w1 := below_next hbW hb1
  repeat (refine below_set ?_ (by simp) _)
  first | exact hbw | exact below_alloc hbw _
set_option maxHeartbeats 2000000 in
theorem commit_gone (hi : RowIn w key lp val A n l) (t : rowB key ls lp val l = true) (t2 : inB st 1 1099511627776 = true) (t3 : inB cm (st + 1) 1099511627776 = true) (t4 : (stOf ls st l == 3) = true) :
 Calls Tryz.prog 85 #[rowV key ls lp val A n c, .int .i64 st, .int .i64 cm] w (RowOut2 ⟨#[]⟩ 0 ⟨#[]⟩ ⟨#[]⟩ [] 9 w) := by
 obtain ⟨W0, hW, k0, k1, k2, k3, k4, hz, hbW, hsW⟩ := box2_new w (.string key) (.int .i64 ls) (.string lp) (.string val) (.slice A n c)
 have HW := Lib.hid hW
 have HI0 := Lib.hid hi
 have HI := Lib.hid (hi.upto hbW)
 have HZ := Lib.hid hz
 have hlen := hi.l.len
 have hsz : w.heap.size + 1 < W0.heap.size := by omega
 clear hW hi hz hsW
 obtain ⟨p1, p2⟩ := inB_true.1 t3
 have h1 : 1 ≤ st := (inB_true.1 t2).1
 have p3 : ¬ cm ≤ st := by omega
 have p4 : ¬ 1099511627776 < cm := by omega
 clear p1 t3
 go_enter Tryz.func85, Tryz.ntmps85
 go_wp2_with fail
 rw [← HW.out]
 refine (checkAt_ok key lp val ls A n c l st W0 HI.out t t2).mono ?_
 rintro e w1 ⟨rfl, hb1⟩
 obtain ⟨g0, g1, g2, g3, g4, _⟩ := boxS k0 k1 k2 k3 k4 hb1
 go_wp2_with fail
 refine (statusOf_any key lp val ls A n c l st w1 (HI.out.upto hb1) t h1).mono ?_
 rintro e w2 ⟨rfl, hb2⟩
 have hb12 : Below W0.heap.size W0 w2 := below_next hb1 hb2
 obtain ⟨z0, z1, z2, z3, z4, u0, u1, u2, u3, u4⟩ := zero_facts (HZ.out.keep (hb12.block _ hsz))
 go_wp2
 refine bodyPost_ret (v := .tuple #[rowV ⟨#[]⟩ 0 ⟨#[]⟩ ⟨#[]⟩ none 0 0, .int .i64 9]) (by simp [results, Tryz.results85, go_sem, z0, z1, z2, z3, z4]) rfl ⟨none, 0, rfl, RecsAt.nil_ _ _ _, ⟨newAt_none _, Nat.le_refl _⟩, ?_⟩
 have hbw : Below w.heap.size w w2 := below_next hbW hb12
 repeat (refine below_set ?_ (by simp) _)
 first | exact hbw | exact below_alloc hbw _
set_option maxHeartbeats 2000000 in
theorem commit_none (hi : RowIn w key lp val A n l) (t : rowB key ls lp val l = true) (t2 : inB st 1 1099511627776 = true) (t3 : inB cm (st + 1) 1099511627776 = true) (t4 : (stOf ls st l == 3) = false) (t5 : (stOf ls st l == 1) = false) :
 Calls Tryz.prog 85 #[rowV key ls lp val A n c, .int .i64 st, .int .i64 cm] w (RowOut2 ⟨#[]⟩ 0 ⟨#[]⟩ ⟨#[]⟩ [] 5 w) := by
 obtain ⟨W0, hW, k0, k1, k2, k3, k4, hz, hbW, hsW⟩ := box2_new w (.string key) (.int .i64 ls) (.string lp) (.string val) (.slice A n c)
 have HW := Lib.hid hW
 have HI0 := Lib.hid hi
 have HI := Lib.hid (hi.upto hbW)
 have HZ := Lib.hid hz
 have hlen := hi.l.len
 have hsz : w.heap.size + 1 < W0.heap.size := by omega
 clear hW hi hz hsW
 obtain ⟨p1, p2⟩ := inB_true.1 t3
 have h1 : 1 ≤ st := (inB_true.1 t2).1
 have p3 : ¬ cm ≤ st := by omega
 have p4 : ¬ 1099511627776 < cm := by omega
 clear p1 t3
 go_enter Tryz.func85, Tryz.ntmps85
 go_wp2_with fail
 rw [← HW.out]
 refine (checkAt_ok key lp val ls A n c l st W0 HI.out t t2).mono ?_
 rintro e w1 ⟨rfl, hb1⟩
 obtain ⟨g0, g1, g2, g3, g4, _⟩ := boxS k0 k1 k2 k3 k4 hb1
 go_wp2_with fail
 refine (statusOf_any key lp val ls A n c l st w1 (HI.out.upto hb1) t h1).mono ?_
 rintro e w2 ⟨rfl, hb2⟩
 have hb12 : Below W0.heap.size W0 w2 := below_next hb1 hb2
 obtain ⟨z0, z1, z2, z3, z4, u0, u1, u2, u3, u4⟩ := zero_facts (HZ.out.keep (hb12.block _ hsz))
 go_wp2
 refine bodyPost_ret (v := .tuple #[rowV ⟨#[]⟩ 0 ⟨#[]⟩ ⟨#[]⟩ none 0 0, .int .i64 5]) (by simp [results, Tryz.results85, go_sem, z0, z1, z2, z3, z4]) rfl ⟨none, 0, rfl, RecsAt.nil_ _ _ _, ⟨newAt_none _, Nat.le_refl _⟩, ?_⟩
 have hbw : Below w.heap.size w w2 := below_next hbW hb12
 repeat (refine below_set ?_ (by simp) _)
 first | exact hbw | exact below_alloc hbw _
set_option maxHeartbeats 8000000 in
theorem commit_ok (hi : RowIn w key lp val A n l) (t : rowB key ls lp val l = true) (t2 : inB st 1 1099511627776 = true) (t3 : inB cm (st + 1) 1099511627776 = true) (t4 : (stOf ls st l == 3) = false) (t5 : (stOf ls st l == 1) = true) (hcap : n ≤ c) (h99 : n ≤ 100) :
 Calls Tryz.prog 85 #[rowV key ls lp val A n c, .int .i64 st, .int .i64 cm] w (RowOut2 key 0 ⟨#[]⟩ ⟨#[]⟩ (insRec l ⟨st, cm, val⟩) 0 w) := by
 obtain ⟨W0, hW, k0, k1, k2, k3, k4, hz, hbW, hsW⟩ := box2_new w (.string key) (.int .i64 ls) (.string lp) (.string val) (.slice A n c)
 have HW := Lib.hid hW
 have HI0 := Lib.hid hi
 have HI := Lib.hid (hi.upto hbW)
 have HZ := Lib.hid hz
 have hlen := hi.l.len
 have hsz : w.heap.size + 1 < W0.heap.size := by omega
 clear hW hi hz hsW
 have HRK := Lib.hid (show RecOk ⟨st, cm, val⟩ from ⟨by have := inB_true.1 t2; unfold i64; dsimp only; omega, by have := inB_true.1 t3; have := inB_true.1 t2; unfold i64; dsimp only; omega, HI0.out.v⟩)
 obtain ⟨p1, p2⟩ := inB_true.1 t3
 have h1 : 1 ≤ st := (inB_true.1 t2).1
 have p3 : ¬ cm ≤ st := by omega
 have p4 : ¬ 1099511627776 < cm := by omega
 clear p1 t3
 go_enter Tryz.func85, Tryz.ntmps85
 go_wp2_with fail
 rw [← HW.out]
 refine (checkAt_ok key lp val ls A n c l st W0 HI.out t t2).mono ?_
 rintro e w1 ⟨rfl, hb1⟩
 obtain ⟨g0, g1, g2, g3, g4, _⟩ := boxS k0 k1 k2 k3 k4 hb1
 go_wp2_with fail
 refine (statusOf_any key lp val ls A n c l st w1 (HI.out.upto hb1) t h1).mono ?_
 rintro e w2 ⟨rfl, hb2⟩
 have hb12 : Below W0.heap.size W0 w2 := below_next hb1 hb2
 obtain ⟨z0, z1, z2, z3, z4, u0, u1, u2, u3, u4⟩ := zero_facts (HZ.out.keep (hb12.block _ hsz))
 have HZ2 := Lib.hid (HZ.out.keep (hb12.block _ hsz))
 have hs2 : w.heap.size + 1 < w2.heap.size := by have := hb12.size; omega
 have hw2 : Below w.heap.size w w2 := below_next hbW hb12
 obtain ⟨i0, i1, i2, i3, i4, _⟩ := boxS k0 k1 k2 k3 k4 hb12
 clear z0 z1 z2 z3 z4 u0 u1 u2 u3 u4
 go_wp2_with fail
 obtain ⟨W5, hW5⟩ : ∃ W5, W5 = w2.alloc (.cells #[.int .i64 st, .int .i64 cm, .string val] 80) := ⟨_, rfl⟩
 rw [← hW5]
 have hb5 : Below w2.heap.size w2 W5 := by rw [hW5]; exact below_alloc (Below.refl _ _) _
 have hs5 : w.heap.size + 1 < W5.heap.size := by have := hb5.size; omega
 obtain ⟨j0, j1, j2, j3, j4, _⟩ := boxS i0 i1 i2 i3 i4 hb5
 have x0 : W5.cell? ⟨w2.heap.size, 0, none⟩ = some (.int .i64 st) := by rw [hW5]; simp
 have x1 : W5.cell? ⟨w2.heap.size, 1, none⟩ = some (.int .i64 cm) := by rw [hW5]; simp
 have x2 : W5.cell? ⟨w2.heap.size, 2, none⟩ = some (.string val) := by rw [hW5]; simp
 have hw5 : Below w.heap.size w W5 := below_next hw2 hb5
 have HZ5 := Lib.hid (HZ2.out.keep (hb5.block _ hs2))
 have sA : w.heap.size + 1 ≠ w.heap.size := by omega
 have sB : w.heap.size + 1 ≠ w2.heap.size := by omega
 have sC : w.heap.size ≤ w.heap.size + 1 := by omega
 have dj0 : W5.drew.cell? ⟨w.heap.size, 0, none⟩ = some (.string key) := j0
 have dj1 : W5.drew.cell? ⟨w.heap.size, 1, none⟩ = some (.int .i64 ls) := j1
 have dj2 : W5.drew.cell? ⟨w.heap.size, 2, none⟩ = some (.string lp) := j2
 have dj3 : W5.drew.cell? ⟨w.heap.size, 3, none⟩ = some (.string val) := j3
 have dj4 : W5.drew.cell? ⟨w.heap.size, 4, none⟩ = some (.slice A n c) := j4
 have dx0 : W5.drew.cell? ⟨w2.heap.size, 0, none⟩ = some (.int .i64 st) := x0
 have dx1 : W5.drew.cell? ⟨w2.heap.size, 1, none⟩ = some (.int .i64 cm) := x1
 have dx2 : W5.drew.cell? ⟨w2.heap.size, 2, none⟩ = some (.string val) := x2
 have dw5 : Below w.heap.size w W5.drew := below_drew hw5
 clear hW5
 go_region_held3 (fun w' => w'.cell? ⟨w.heap.size, 0, none⟩ = some (.string key) ∧ w'.cell? ⟨w.heap.size, 1, none⟩ = some (.int .i64 ls) ∧ w'.cell? ⟨w.heap.size, 2, none⟩ = some (.string lp) ∧ w'.cell? ⟨w.heap.size, 3, none⟩ = some (.string val) ∧ w'.cell? ⟨w.heap.size, 4, none⟩ = some (.slice A n c) ∧ w'.cell? ⟨w2.heap.size, 0, none⟩ = some (.int .i64 st) ∧ w'.cell? ⟨w2.heap.size, 1, none⟩ = some (.int .i64 cm) ∧ w'.cell? ⟨w2.heap.size, 2, none⟩ = some (.string val) ∧ Below w.heap.size w w')
  (first | with_reducible exact ⟨dj0, dj1, dj2, dj3, dj4, dx0, dx1, dx2, dw5⟩ | (go_split_ands; with_reducible exact nextS hbb ⟨by assumption, by assumption, by assumption, by assumption, by assumption, by assumption, by assumption, by assumption, by assumption⟩) | (go_split_ands; with_reducible exact nextS hba ⟨by assumption, by assumption, by assumption, by assumption, by assumption, by assumption, by assumption, by assumption, by assumption⟩) | (go_split_ands; with_reducible exact setS (p := ⟨w.heap.size + 1, 4, none⟩) sA sB sC _ (setS (p := ⟨w.heap.size + 1, 3, none⟩) sA sB sC _ (setS (p := ⟨w.heap.size + 1, 2, none⟩) sA sB sC _ (setS (p := ⟨w.heap.size + 1, 1, none⟩) sA sB sC _ (setS (p := ⟨w.heap.size + 1, 0, none⟩) sA sB sC _ ⟨by assumption, by assumption, by assumption, by assumption, by assumption, by assumption, by assumption, by assumption, by assumption⟩))))))
  (first
    | (go_at_call 98; refine (withoutLock_any _ _ _ _ _ _ _ _).mono ?_; rintro e wa ⟨rfl, hba⟩; have HZa := Lib.hid (HZ5.out.keep (hba.block _ hs5)); have hsa : w.heap.size + 1 < wa.heap.size := Nat.lt_of_lt_of_le hs5 hba.size)
    | (go_at_call 97; go_split_ands; refine (withRecord_any key ⟨#[]⟩ ⟨#[]⟩ 0 A n c l ⟨st, cm, val⟩ _ HI0.out.n hcap h99 (HI0.out.l.upto (by assumption)) HRK.out).mono ?_; rintro e wb ⟨A2, c2, rfl, hr2, hnew, hbb⟩; have HR2 := Lib.hid hr2; have HN2 := Lib.hid hnew; obtain ⟨z0, z1, z2, z3, z4, u0, u1, u2, u3, u4⟩ := zero_facts (HZa.out.keep (hbb.block _ hsa)); clear hr2 hnew))
 go_split_ands
 go_wp2
 refine bodyPost_ret (v := .tuple #[rowV key 0 ⟨#[]⟩ ⟨#[]⟩ A2 (insRec l ⟨st, cm, val⟩).length c2, .int .i64 0]) (by simp [results, Tryz.results85, go_sem, z0, z1, z2, z3, z4]) rfl ⟨A2, c2, rfl, ?_, ⟨fun ad h => by have := HN2.out.1 ad h; have := hsa; omega, HN2.out.2⟩, by assumption⟩
 have e : ∀ (W : World) (p : Addr) (u : Value), (W.setCell p u).heap.size = W.heap.size := fun W p u => by simp [World.setCell]
 rw [e, e, e, e, e]
 repeat (refine RecsAt.setLow ?_ HN2.out.1 hsa _)
 exact HR2.out
end
end Go.Proofs.YtambkjnhfejfaaaGreat
