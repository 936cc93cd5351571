/-
  Contracts of functions of the program and words for memory, several texts in one: RDidE. Conditions: those stated with each.
-/
import Derived.Test.YtambkjnhfejfaaaGreatG31
import Derived.Test.YtambkjnhfejfaaaGreatG32
import Derived.Test.YtambkjnhfejfaaaGreatG34
namespace Go.Proofs.YtambkjnhfejfaaaGreat
open Go.RowKit
set_option linter.unusedVariables false
def DidOut (wo : WoM) (a : ActM) (w : World) (e : Ending) (w' : World) : Prop :=
 Below w.heap.size w w' ∧ ((actE wo a ≠ 0 ∧ e = .returned (.tuple #[woV none 0 0 0 none 0 0, ansV (ansCode 0), .int .i64 (actE wo a)])) ∨
  (actE wo a = 0 ∧ ∃ RA n rc CA m cc, e = .returned (.tuple #[woV RA n rc (doW wo a).1.clock CA m cc, ansV (doW wo a).2, .int .i64 0]) ∧ WoInX w' (fun b => b < w.heap.size) RA n rc CA m cc (doW wo a).1))
theorem four_boxes (w : World) (c0 c1 c2 c3 : Array Value) (t0 t1 t2 t3 : TypeId) : ∃ W, W = (((w.alloc (.cells c0 t0)).alloc (.cells c1 t1)).alloc (.cells c2 t2)).alloc (.cells c3 t3) ∧ Below w.heap.size w W ∧ W.heap.size = w.heap.size + 1 + 1 + 1 + 1 ∧
 BoxIs W w.heap.size c0.toList ∧ BoxIs W (w.heap.size + 1) c1.toList ∧ BoxIs W (w.heap.size + 1 + 1) c2.toList ∧ BoxIs W (w.heap.size + 1 + 1 + 1) c3.toList := by
 have al : ∀ (W : World) (o : Obj), Below W.heap.size W (W.alloc o) := fun W o => below_alloc (Below.refl _ _) o
 have s1 : (w.alloc (.cells c0 t0)).heap.size = w.heap.size + 1 := by simp
 have s2 : ((w.alloc (.cells c0 t0)).alloc (.cells c1 t1)).heap.size = w.heap.size + 1 + 1 := by simp
 have s3 : (((w.alloc (.cells c0 t0)).alloc (.cells c1 t1)).alloc (.cells c2 t2)).heap.size = w.heap.size + 1 + 1 + 1 := by simp
 have b0 := BoxIs.new w c0 t0
 have b1 := BoxIs.new (w.alloc (.cells c0 t0)) c1 t1
 have b2 := BoxIs.new ((w.alloc (.cells c0 t0)).alloc (.cells c1 t1)) c2 t2
 have b3 := BoxIs.new (((w.alloc (.cells c0 t0)).alloc (.cells c1 t1)).alloc (.cells c2 t2)) c3 t3
 rw [s1] at b1
 rw [s2] at b2
 rw [s3] at b3
 exact ⟨_, rfl, below_alloc (below_alloc (below_alloc (below_alloc (Below.refl _ _) _) _) _) _, by simp, ((b0.upto (al _ _)).upto (al _ _)).upto (al _ _), (b1.upto (al _ _)).upto (al _ _), b2.upto (al _ _), b3⟩
theorem BoxIs.c4 {W : World} {g : Nat} {v0 v1 v2 v3 : Value} (h : BoxIs W g [v0, v1, v2, v3]) : W.cell? ⟨g, 0, none⟩ = some v0 ∧ W.cell? ⟨g, 1, none⟩ = some v1 ∧ W.cell? ⟨g, 2, none⟩ = some v2 ∧ W.cell? ⟨g, 3, none⟩ = some v3 := ⟨h.cell 0 _ rfl, h.cell 1 _ rfl, h.cell 2 _ rfl, h.cell 3 _ rfl⟩
set_option maxRecDepth 100000 in
set_option maxHeartbeats 16000000 in
theorem did_err (wo : WoM) (a : ActM) (RA : Option Addr) (n rc : Nat) (CA : Option Addr) (m cc : Nat) (w : World) (hin : WoIn w RA n rc CA m cc wo) (hks : a.key.size ≤ maxLen) (hvs : a.val.size ≤ maxLen) (he : actE wo a ≠ 0) :
 Calls Tryz.prog 7 #[woV RA n rc wo.clock CA m cc, actV a] w (DidOut wo a w) := by
 have e1 := hin.hn
 have e2 := hin.hm
 subst e1 e2
 have hlc := hin.cls.1
 have hlr := hin.rows.1
 obtain ⟨kind, ac, key, val⟩ := a
 dsimp only at hks hvs he ⊢
 obtain ⟨W0, hW0, hb0, hs0, b0, b1, b2, b3⟩ := four_boxes w #[.slice RA wo.rows.length rc, .int .i64 wo.clock, .slice CA wo.cls.length cc] #[.int .i64 kind, .int .i64 ac, .string key, .string val] #[.slice none 0 0, .int .i64 0, .slice none 0 0] #[.int .i64 0, .bool false, .string ⟨#[]⟩, .int .i64 0, .int .i64 0] 25 27 25 31
 have HI := Lib.hid hin
 have HW0 := Lib.hid hW0
 have HB0 := Lib.hid hb0
 have HKS := Lib.hid hks
 have HVS := Lib.hid hvs
 have HIU := Lib.hid (hin.upto hb0)
 have s9 : IntKind.i64.wrap ((wo.cls.length : Int) - 1) = (wo.cls.length : Int) - 1 := IntWalk.i64_in _ (by omega)
 clear hin hW0 hb0 hks hvs
 go_enter Tryz.func7, Tryz.ntmps7
 go_wp2_with fail
 rw [← HW0.out]
 obtain ⟨g3, hg3⟩ : ∃ g3, g3 = w.heap.size + 1 + 1 + 1 := ⟨_, rfl⟩
 rw [← hg3] at b3 ⊢
 obtain ⟨g2, hg2⟩ : ∃ g2, g2 = w.heap.size + 1 + 1 := ⟨_, rfl⟩
 rw [← hg2] at b2 ⊢
 obtain ⟨g1, hg1⟩ : ∃ g1, g1 = w.heap.size + 1 := ⟨_, rfl⟩
 rw [← hg1] at b1 ⊢
 obtain ⟨g0, hg0⟩ : ∃ g0, g0 = w.heap.size := ⟨_, rfl⟩
 rw [← hg0] at b0 ⊢
 have HG := Lib.hid (show g0 = w.heap.size ∧ g1 = w.heap.size + 1 ∧ g2 = w.heap.size + 2 ∧ g3 = w.heap.size + 3 ∧ W0.heap.size = w.heap.size + 4 from ⟨hg0, hg1, by omega, by omega, by omega⟩)
 clear hg0 hg1 hg2 hg3 hs0
 refine (worldMay_any wo RA wo.rows.length rc CA wo.cls.length cc W0 HIU.out).mono ?_
 rintro e w1 ⟨rfl, hb1⟩
 have b0 : BoxIs w1 g0 [.slice RA wo.rows.length rc, .int .i64 wo.clock, .slice CA wo.cls.length cc] := b0.upto hb1
 have b1 : BoxIs w1 g1 [.int .i64 kind, .int .i64 ac, .string key, .string val] := b1.upto hb1
 have b2 : BoxIs w1 g2 [.slice none 0 0, .int .i64 0, .slice none 0 0] := b2.upto hb1
 have b3 : BoxIs w1 g3 [.int .i64 0, .bool false, .string ⟨#[]⟩, .int .i64 0, .int .i64 0] := b3.upto hb1
 have HB1 := Lib.hid (below_next HB0.out hb1)
 have HS1 := Lib.hid (show w.heap.size + 4 ≤ w1.heap.size by have := hb1.size; have := HG.out; omega)
 obtain ⟨x0, x1, x2⟩ := b0.c3
 obtain ⟨a0, a1, a2, a3⟩ := b1.c4
 obtain ⟨r0, r1, r2⟩ := b2.c3
 obtain ⟨s0, s1, s2, s3, s4⟩ := b3.c5
 obtain ⟨rf0, rf1, rf2⟩ := b2.f3
 obtain ⟨sf0, sf1, sf2, sf3, sf4⟩ := b3.f5
 have n23 : g2 ≠ g3 := by have := HG.out; omega
 have n32 : g3 ≠ g2 := by have := HG.out; omega
 clear hb1
 cases hok : wo.ok with
 | false =>
  have HE := Lib.hid (show actE wo ⟨kind, ac, key, val⟩ = 6 by rw [actE, if_pos hok])
  go_wp2_with (go_at_call 16; refine (in_any _ _ _ _).mono ?_; rintro e w' ⟨rfl, rfl⟩)
  obtain ⟨V, hV, ⟨e0, e1, e2⟩, ⟨d0, d1, d2, d3, d4⟩, _⟩ := two_stores (W := w1) (g := g2) (g' := g3) n23 r0 r1 r2 s0 s1 s2 s3 s4 (.slice none 0 0) (.int .i64 0) (.slice none 0 0) (.int .i64 0) (.bool false) (.string ⟨#[]⟩) (.int .i64 0) (.int .i64 0)
  have hVb : Below w.heap.size w V := by
   have hg := HG.out
   have l2 : w.heap.size ≤ g2 := by omega
   have l3 : w.heap.size ≤ g3 := by omega
   rw [hV]
   exact (((((((HB1.out.setCell l2 _).setCell l2 _).setCell l2 _).setCell l3 _).setCell l3 _).setCell l3 _).setCell l3 _).setCell l3 _
  rw [← hV]
  clear hV
  exact bodyPost_ret (v := .tuple #[woV none 0 0 0 none 0 0, ansV (ansCode 0), .int .i64 6]) (by simp [results, Tryz.results7, go_sem, e0, e1, e2, d0, d1, d2, d3, d4, ansCode]) rfl ⟨hVb, .inl ⟨by rw [HE.out]; decide, by rw [HE.out]⟩⟩
 | true =>
  cases hk : inB kind 1 6 with
  | false =>
   have HE := Lib.hid (show actE wo ⟨kind, ac, key, val⟩ = 3 by
    rw [actE, if_neg (by rw [hok]; decide), if_pos]
    show kind < 1 ∨ 6 < kind
    rcases Int.lt_or_le kind 1 with h | h
    ·exact .inl h
    ·rcases Int.lt_or_le 6 kind with h' | h'
     ·exact .inr h'
     ·rw [inB_true.2 ⟨h, h'⟩] at hk; cases hk)
   go_wp2_with (go_at_call 16; refine (in_any _ _ _ _).mono ?_; rintro e w' ⟨rfl, rfl⟩)
   obtain ⟨V, hV, ⟨e0, e1, e2⟩, ⟨d0, d1, d2, d3, d4⟩, _⟩ := two_stores (W := w1) (g := g2) (g' := g3) n23 r0 r1 r2 s0 s1 s2 s3 s4 (.slice none 0 0) (.int .i64 0) (.slice none 0 0) (.int .i64 0) (.bool false) (.string ⟨#[]⟩) (.int .i64 0) (.int .i64 0)
   have hVb : Below w.heap.size w V := by
    have hg := HG.out
    have l2 : w.heap.size ≤ g2 := by omega
    have l3 : w.heap.size ≤ g3 := by omega
    rw [hV]
    exact (((((((HB1.out.setCell l2 _).setCell l2 _).setCell l2 _).setCell l3 _).setCell l3 _).setCell l3 _).setCell l3 _).setCell l3 _
   rw [← hV]
   clear hV
   exact bodyPost_ret (v := .tuple #[woV none 0 0 0 none 0 0, ansV (ansCode 0), .int .i64 3]) (by simp [results, Tryz.results7, go_sem, e0, e1, e2, d0, d1, d2, d3, d4, ansCode]) rfl ⟨hVb, .inl ⟨by rw [HE.out]; decide, by rw [HE.out]⟩⟩
  | true =>
   have hkk := inB_true.1 hk
   cases hc : inB ac 0 ((wo.cls.length : Int) - 1) with
   | false =>
    have HE := Lib.hid (show actE wo ⟨kind, ac, key, val⟩ = 2 by
     rw [actE, if_neg (by rw [hok]; decide), if_neg (by show ¬ (kind < 1 ∨ 6 < kind); omega), if_pos]
     show ac < 0 ∨ (wo.cls.length : Int) ≤ ac
     rcases Int.lt_or_le ac 0 with h | h
     ·exact .inl h
     ·rcases Int.lt_or_le ((wo.cls.length : Int) - 1) ac with h' | h'
      ·exact .inr (by omega)
      ·rw [inB_true.2 ⟨h, h'⟩] at hc; cases hc)
    clear hkk
    go_wp2_with (go_at_call 16; refine (in_any _ _ _ _).mono ?_; rintro e w' ⟨rfl, rfl⟩)
    obtain ⟨V, hV, ⟨e0, e1, e2⟩, ⟨d0, d1, d2, d3, d4⟩, _⟩ := two_stores (W := w1) (g := g2) (g' := g3) n23 r0 r1 r2 s0 s1 s2 s3 s4 (.slice none 0 0) (.int .i64 0) (.slice none 0 0) (.int .i64 0) (.bool false) (.string ⟨#[]⟩) (.int .i64 0) (.int .i64 0)
    have hVb : Below w.heap.size w V := by
     have hg := HG.out
     have l2 : w.heap.size ≤ g2 := by omega
     have l3 : w.heap.size ≤ g3 := by omega
     rw [hV]
     exact (((((((HB1.out.setCell l2 _).setCell l2 _).setCell l2 _).setCell l3 _).setCell l3 _).setCell l3 _).setCell l3 _).setCell l3 _
    rw [← hV]
    clear hV
    exact bodyPost_ret (v := .tuple #[woV none 0 0 0 none 0 0, ansV (ansCode 0), .int .i64 2]) (by simp [results, Tryz.results7, go_sem, e0, e1, e2, d0, d1, d2, d3, d4, ansCode]) rfl ⟨hVb, .inl ⟨by rw [HE.out]; decide, by rw [HE.out]⟩⟩
   | true =>
    have hcc := inB_true.1 hc
    have hclk := ok_clock hok
    by_cases hmx : wo.clock = 1099511627376
    ·have HE := Lib.hid (show actE wo ⟨kind, ac, key, val⟩ = 1 by rw [actE, if_neg (by rw [hok]; decide), if_neg (by show ¬ (kind < 1 ∨ 6 < kind); omega), if_neg (by show ¬ (ac < 0 ∨ (wo.cls.length : Int) ≤ ac); omega), if_pos hmx])
     have hd : decide (1099511627376 ≤ wo.clock) = true := decide_eq_true (by omega)
     have hd' : 1099511627376 ≤ wo.clock := by omega
     clear hkk hcc hmx
     go_wp2_with (go_at_call 16; refine (in_any _ _ _ _).mono ?_; rintro e w' ⟨rfl, rfl⟩)
     obtain ⟨V, hV, ⟨e0, e1, e2⟩, ⟨d0, d1, d2, d3, d4⟩, _⟩ := two_stores (W := w1) (g := g2) (g' := g3) n23 r0 r1 r2 s0 s1 s2 s3 s4 (.slice none 0 0) (.int .i64 0) (.slice none 0 0) (.int .i64 0) (.bool false) (.string ⟨#[]⟩) (.int .i64 0) (.int .i64 0)
     have hVb : Below w.heap.size w V := by
      have hg := HG.out
      have l2 : w.heap.size ≤ g2 := by omega
      have l3 : w.heap.size ≤ g3 := by omega
      rw [hV]
      exact (((((((HB1.out.setCell l2 _).setCell l2 _).setCell l2 _).setCell l3 _).setCell l3 _).setCell l3 _).setCell l3 _).setCell l3 _
     rw [← hV]
     clear hV
     exact bodyPost_ret (v := .tuple #[woV none 0 0 0 none 0 0, ansV (ansCode 0), .int .i64 1]) (by simp [results, Tryz.results7, go_sem, e0, e1, e2, d0, d1, d2, d3, d4, ansCode]) rfl ⟨hVb, .inl ⟨by rw [HE.out]; decide, by rw [HE.out]⟩⟩
    ·exact absurd (show actE wo ⟨kind, ac, key, val⟩ = 0 by rw [actE, if_neg (by rw [hok]; decide), if_neg (by show ¬ (kind < 1 ∨ 6 < kind); omega), if_neg (by show ¬ (ac < 0 ∨ (wo.cls.length : Int) ≤ ac); omega), if_neg hmx]) he
end Go.Proofs.YtambkjnhfejfaaaGreat
