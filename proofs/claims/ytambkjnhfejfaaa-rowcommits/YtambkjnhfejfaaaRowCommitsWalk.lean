/-
  The walk of rickyardlaw.RowCommits: it returns true and turns no old memory. Conditions: the row comes in as it should ('RowIn'); strings are at most maxLen bytes long.
-/
import Derived.Test.YtambkjnhfejfaaaRefCommit
namespace Go.Proofs.Ytambkjnhfejfaaa
open Go.RowKit

set_option maxHeartbeats 4000000 in
theorem rowCommits_walk (w : World) (key lp val : ByteArray) (ls : Int) (A : Option Addr) (n c : Nat) (l : List RecM) (h0 : key.size ≤ maxLen) (h1 : lp.size ≤ maxLen) (h2 : val.size ≤ maxLen) (_ : i64 ls) (hn : n = l.length) (hl : RecsAt w w.heap.size A l) (hcap : n ≤ c) (st : Int) (_ : i64 st) (cm : Int) (_ : i64 cm) :
    Calls Try.prog 9 #[rowV key ls lp val A n c, .int .i64 st, .int .i64 cm] w fun e w' => e = .returned (.bool true) ∧ Below w.heap.size w w' := by
  have hi : RowIn w key lp val A n l := ⟨hn, hl, h0, h1, h2⟩
  have HI0 := Lib.hid hi
  have hn0 := hn
  subst hn0
  clear hn hl h0 h1 h2
  obtain ⟨W0, hW, k0, k1, k2, k3, k4, hbW, hsW⟩ := box_new w (.string key) (.int .i64 ls) (.string lp) (.string val) (.slice A l.length c) 27
  have HW := Lib.hid hW
  have hsz : w.heap.size < W0.heap.size := by omega
  clear hW hi hsW
  by_cases h : commitE key ls lp val l st cm = 0
  · have HE := Lib.hid h
    clear h
    go_enter Try.func9, Try.ntmps9
    go_wp2_with fail
    rw [← HW.out]
    refine (refCopy_any key lp val ls A l.length c l W0 rfl (HI0.out.upto hbW).l).mono ?_
    rintro e w1 ⟨A1, c1, rfl, hr1, hnew1, hb1⟩
    have hcap1 : l.length ≤ c1 := hnew1.2
    clear hnew1
    have HR1 := Lib.hid hr1
    have hw1 : Below w.heap.size w w1 := below_next hbW hb1
    obtain ⟨g0, g1, g2, g3, g4, _⟩ := boxS k0 k1 k2 k3 k4 hb1
    have s1 : w.heap.size < w1.heap.size := by have := hb1.size; omega
    clear hr1
    go_wp2_with fail
    have hx1 : Below w.heap.size w (w1.alloc (.cells #[.string key, .int .i64 ls, .string lp, .string val, .slice A1 l.length c1] 27)) := below_alloc hw1 _
    refine (commitFn_ok key lp val ls A1 l.length c1 l st cm _ ⟨rfl, HR1.out.upto (below_alloc (Below.refl _ _) _), HI0.out.k, HI0.out.p, HI0.out.v⟩ hcap1 HE.out).mono ?_
    rintro e w2 ⟨A2, c2, rfl, hr2, _, hb2⟩
    have HR2 := Lib.hid hr2
    have hw2 : Below w.heap.size w w2 := below_next hx1 hb2
    obtain ⟨hc2, hf2⟩ := bcell hb2
    have s2 : w1.heap.size < w2.heap.size := by have := hb2.size; simp at this; omega
    have s2' : w.heap.size < w2.heap.size := by omega
    have hv12 : Below w1.heap.size w1 w2 := below_next (below_alloc (Below.refl _ _) _) hb2
    clear hr2
    go_wp2_with fail
    have hx2 : Below w.heap.size w (w2.alloc (.cells #[.string key, .int .i64 0, .string ⟨#[]⟩, .string ⟨#[]⟩, .slice A2 (endRec l ⟨st, cm, val⟩).length c2] 27)) := below_alloc hw2 _
    refine (commitRef_ok key lp val ls A l.length c l st cm _ (HI0.out.upto hx2) hcap HE.out).mono ?_
    rintro e w3 ⟨A3, c3, rfl, hr3, _, hb3⟩
    have HR3 := Lib.hid hr3
    have hw3 : Below w.heap.size w w3 := below_next hx2 hb3
    obtain ⟨hc3, hf3⟩ := bcell hb3
    have s3 : w2.heap.size < w3.heap.size := by have := hb3.size; simp at this; omega
    have s3' : w1.heap.size < w3.heap.size := by omega
    have s3'' : w.heap.size < w3.heap.size := by omega
    have hv23 : Below w2.heap.size w2 w3 := below_next (below_alloc (Below.refl _ _) _) hb3
    have hv13 : Below w1.heap.size w1 w3 := below_next hv12 hv23
    clear hr3
    go_wp2_with fail
    have hx3 : Below w.heap.size w (w3.alloc (.cells #[.string key, .int .i64 0, .string ⟨#[]⟩, .string ⟨#[]⟩, .slice A3 (endRec l ⟨st, cm, val⟩).length c3] 27)) := below_alloc hw3 _
    refine (sameRow_true key ⟨#[]⟩ ⟨#[]⟩ 0 A2 A3 _ c2 _ c3 _ _ rfl rfl (HR2.out.upto (below_alloc hv23 _)) (HR3.out.upto (below_alloc (Below.refl _ _) _))).mono ?_
    rintro e w4 ⟨rfl, hb4⟩
    obtain ⟨hc4, hf4⟩ := bcell hb4
    have s4 : w3.heap.size < w4.heap.size := by have := hb4.size; simp at this; omega
    have s4' : w1.heap.size < w4.heap.size := by omega
    have s4'' : w.heap.size < w4.heap.size := by omega
    have hw4 : Below w.heap.size w w4 := below_next hx3 hb4
    have hv14 : Below w1.heap.size w1 w4 := below_next (below_alloc hv13 _) hb4
    go_wp2_with fail
    refine (sameRow_true key lp val ls A1 A l.length c1 l.length c l w4 rfl rfl (HR1.out.upto hv14) (HI0.out.upto hw4).l).mono ?_
    rintro e w5 ⟨rfl, hb5⟩
    go_wp2
    go_ret
    exact ⟨rfl, below_next hw4 hb5⟩
  · have HE := Lib.hid h
    clear h
    go_enter Try.func9, Try.ntmps9
    go_wp2_with fail
    rw [← HW.out]
    refine (refCopy_any key lp val ls A l.length c l W0 rfl (HI0.out.upto hbW).l).mono ?_
    rintro e w1 ⟨A1, c1, rfl, hr1, hnew1, hb1⟩
    have hcap1 : l.length ≤ c1 := hnew1.2
    clear hnew1
    have HR1 := Lib.hid hr1
    have hw1 : Below w.heap.size w w1 := below_next hbW hb1
    obtain ⟨g0, g1, g2, g3, g4, _⟩ := boxS k0 k1 k2 k3 k4 hb1
    have s1 : w.heap.size < w1.heap.size := by have := hb1.size; omega
    clear hr1
    go_wp2_with fail
    have hx1 : Below w.heap.size w (w1.alloc (.cells #[.string key, .int .i64 ls, .string lp, .string val, .slice A1 l.length c1] 27)) := below_alloc hw1 _
    refine (commitFn_err key lp val ls A1 l.length c1 l st cm _ ⟨rfl, HR1.out.upto (below_alloc (Below.refl _ _) _), HI0.out.k, HI0.out.p, HI0.out.v⟩ HE.out).mono ?_
    rintro e w2 ⟨A2, c2, rfl, hr2, _, hb2⟩
    have HR2 := Lib.hid hr2
    have hw2 : Below w.heap.size w w2 := below_next hx1 hb2
    obtain ⟨hc2, hf2⟩ := bcell hb2
    have s2 : w1.heap.size < w2.heap.size := by have := hb2.size; simp at this; omega
    have s2' : w.heap.size < w2.heap.size := by omega
    have hv12 : Below w1.heap.size w1 w2 := below_next (below_alloc (Below.refl _ _) _) hb2
    clear hr2
    go_wp2_with fail
    have hx2 : Below w.heap.size w (w2.alloc (.cells #[.string ⟨#[]⟩, .int .i64 0, .string ⟨#[]⟩, .string ⟨#[]⟩, .slice A2 0 c2] 27)) := below_alloc hw2 _
    refine (commitRef_err key lp val ls A l.length c l st cm _ (HI0.out.upto hx2) HE.out).mono ?_
    rintro e w3 ⟨A3, c3, rfl, hr3, _, hb3⟩
    have HR3 := Lib.hid hr3
    have hw3 : Below w.heap.size w w3 := below_next hx2 hb3
    obtain ⟨hc3, hf3⟩ := bcell hb3
    have s3 : w2.heap.size < w3.heap.size := by have := hb3.size; simp at this; omega
    have s3' : w1.heap.size < w3.heap.size := by omega
    have s3'' : w.heap.size < w3.heap.size := by omega
    have hv23 : Below w2.heap.size w2 w3 := below_next (below_alloc (Below.refl _ _) _) hb3
    have hv13 : Below w1.heap.size w1 w3 := below_next hv12 hv23
    clear hr3
    go_wp2_with fail
    have hx3 : Below w.heap.size w (w3.alloc (.cells #[.string ⟨#[]⟩, .int .i64 0, .string ⟨#[]⟩, .string ⟨#[]⟩, .slice A3 0 c3] 27)) := below_alloc hw3 _
    refine (sameRow_true ⟨#[]⟩ ⟨#[]⟩ ⟨#[]⟩ 0 A2 A3 _ c2 _ c3 _ _ rfl rfl (HR2.out.upto (below_alloc hv23 _)) (HR3.out.upto (below_alloc (Below.refl _ _) _))).mono ?_
    rintro e w4 ⟨rfl, hb4⟩
    obtain ⟨hc4, hf4⟩ := bcell hb4
    have s4 : w3.heap.size < w4.heap.size := by have := hb4.size; simp at this; omega
    have s4' : w1.heap.size < w4.heap.size := by omega
    have s4'' : w.heap.size < w4.heap.size := by omega
    have hw4 : Below w.heap.size w w4 := below_next hx3 hb4
    have hv14 : Below w1.heap.size w1 w4 := below_next (below_alloc hv13 _) hb4
    go_wp2_with fail
    refine (sameRow_true key lp val ls A1 A l.length c1 l.length c l w4 rfl rfl (HR1.out.upto hv14) (HI0.out.upto hw4).l).mono ?_
    rintro e w5 ⟨rfl, hb5⟩
    go_wp2
    go_ret
    exact ⟨rfl, below_next hw4 hb5⟩
end Go.Proofs.Ytambkjnhfejfaaa
