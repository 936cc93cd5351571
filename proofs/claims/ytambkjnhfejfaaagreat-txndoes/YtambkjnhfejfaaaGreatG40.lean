/-
  Contracts of functions of the program and words for memory, several texts in one: TxnDoesWalk. Conditions: those stated with each.
-/
import Derived.Test.YtambkjnhfejfaaaGreatG04
import Derived.Test.YtambkjnhfejfaaaGreatG39
namespace Go.Proofs.YtambkjnhfejfaaaGreat
open Go.RowKit
theorem WoIn.zero (w : World) : WoIn w none 0 0 none 0 0 ⟨[],0,[]⟩ := ⟨rfl,Nat.le_refl _,SeqAt.nil_ _,rfl,Nat.le_refl _,SeqAt.nil_ _,i64_zero⟩
theorem did_any (wo : WoM) (a : ActM) (RA : Option Addr) (n rc : Nat) (CA : Option Addr) (m cc : Nat) (w : World) (hin : WoIn w RA n rc CA m cc wo) (hks : a.key.size ≤ maxLen) (hvs : a.val.size ≤ maxLen) :
 Calls Tryz.prog 7 #[woV RA n rc wo.clock CA m cc,actV a] w (DidOut wo a w) := by
 by_cases he : actE wo a = 0
 ·exact did_ok wo a RA n rc CA m cc w hin hks hvs he
 ·exact did_err wo a RA n rc CA m cc w hin hks hvs he
def endW (wo : WoM) (a : ActM) : WoM × AnsM × Int := if actE wo a = 0 then ((doW wo a).1,(doW wo a).2,0) else (⟨[],0,[]⟩,ansCode 0,actE wo a)
def EndOut (r : WoM × AnsM × Int) (w : World) (e : Ending) (w' : World) : Prop :=
 Below w.heap.size w w' ∧ ∃ RA n rc CA m cc,e = .returned (.tuple #[woV RA n rc r.1.clock CA m cc,ansV r.2.1,.int .i64 r.2.2]) ∧ WoIn w' RA n rc CA m cc r.1
theorem end_do {wo : WoM} {a : ActM} {w w' : World} {e : Ending} (h : DoOut wo a w e w') : EndOut (endW wo a) w e w' := by
 obtain ⟨hb,⟨h0,rfl⟩ | ⟨h0,bR,rc,bC,wb,rfl,hrc,hc⟩⟩ := h
 ·rw [endW,if_neg h0]; exact ⟨hb,_,_,_,_,_,_,rfl,WoIn.zero w'⟩
 ·rw [endW,if_pos h0]; exact ⟨hb,_,_,_,_,_,_,rfl,hc.in_ hrc (Nat.le_refl _)⟩
theorem end_did {wo : WoM} {a : ActM} {w w' : World} {e : Ending} (h : DidOut wo a w e w') : EndOut (endW wo a) w e w' := by
 obtain ⟨hb,⟨h0,rfl⟩ | ⟨h0,RA,n,rc,CA,m,cc,rfl,hc⟩⟩ := h
 ·rw [endW,if_neg h0]; exact ⟨hb,_,_,_,_,_,_,rfl,WoIn.zero w'⟩
 ·rw [endW,if_pos h0]; exact ⟨hb,_,_,_,_,_,_,rfl,hc.in_⟩
theorem one_box (w : World) (c0 : Array Value) (t0 : TypeId) : ∃ W,W = w.alloc (.cells c0 t0) ∧ Below w.heap.size w W ∧ BoxIs W w.heap.size c0.toList :=
 ⟨_,rfl,below_alloc (Below.refl _ _) _,BoxIs.new w c0 t0⟩
theorem box_pair (w : World) (c0 c1 : Array Value) (t0 t1 : TypeId) : ∃ W,W = (w.alloc (.cells c0 t0)).alloc (.cells c1 t1) ∧ Below w.heap.size w W ∧ BoxIs W w.heap.size c0.toList ∧ BoxIs W (w.heap.size + 1) c1.toList := by
 have h1 := BoxIs.new (w.alloc (.cells c0 t0)) c1 t1
 rw [show (w.alloc (.cells c0 t0)).heap.size = w.heap.size + 1 by simp] at h1
 exact ⟨_,rfl,below_alloc (below_alloc (Below.refl _ _) _) _,(BoxIs.new w c0 t0).upto (below_alloc (Below.refl _ _) _),h1⟩
set_option maxRecDepth 100000 in
set_option maxHeartbeats 4000000 in
theorem txnDoes_walk (w : World) (wo : WoM) (RA : Option Addr) (n rc : Nat) (CA : Option Addr) (m cc : Nat) (hin : WoIn w RA n rc CA m cc wo) (a : ActM) (hks : a.key.size ≤ maxLen) (hvs : a.val.size ≤ maxLen) :
 Calls Tryz.prog 3 #[woV RA n rc wo.clock CA m cc,actV a] w fun e w' => e = .returned (.bool true) ∧ Below w.heap.size w w' := by
 have HI := Lib.hid hin
 have HKS := Lib.hid hks
 have HVS := Lib.hid hvs
 clear hin hks hvs
 obtain ⟨Z,hZ⟩ : ∃ Z,Z = endW wo a := ⟨_,rfl⟩
 obtain ⟨F,⟨zc,zi,zv,zp,zt⟩,zE⟩ := Z
 have HZ := Lib.hid hZ.symm
 clear hZ
 obtain ⟨W1,hW1,hb1,b0,b1⟩ := box_pair w #[.slice RA n rc,.int .i64 wo.clock,.slice CA m cc] #[.int .i64 a.kind,.int .i64 a.c,.string a.key,.string a.val] 25 27
 obtain ⟨g0,hg0⟩ : ∃ g0,g0 = w.heap.size := ⟨_,rfl⟩
 obtain ⟨g1,hg1⟩ : ∃ g1,g1 = w.heap.size + 1 := ⟨_,rfl⟩
 rw [← hg0] at b0
 rw [← hg1] at b1
 have HW1 := Lib.hid hW1
 have HB1 := Lib.hid hb1
 have HG0 := Lib.hid hg0
 have HG1 := Lib.hid hg1
 clear hW1 hb1 hg0 hg1
 go_enter Tryz.func3,Tryz.ntmps3
 go_upto_region 1 with (fail)
 rw [← HW1.out,← HG1.out,← HG0.out]
 obtain ⟨x0,x1,x2⟩ := b0.c3
 go_wp2_with fail
 refine (worldCopy_any wo RA n rc CA m cc W1 (HI.out.upto HB1.out) HI.out.cls.1).mono ?_
 rintro e w2 ⟨RA1,rc1,CA1,cc1,rfl,hx1,_,hb2⟩
 obtain ⟨W3,hW3,hb3,b2⟩ := one_box w2 #[.slice RA1 wo.rows.length rc1,.int .i64 wo.clock,.slice CA1 wo.cls.length cc1] 25
 obtain ⟨g2,hg2⟩ : ∃ g2,g2 = w2.heap.size := ⟨_,rfl⟩
 rw [← hg2] at b2
 have b0 := (b0.upto hb2).upto hb3
 have b1 := (b1.upto hb2).upto hb3
 have HX := Lib.hid (hx1.in_.upto hb3)
 have HB3 := Lib.hid (below_next (below_next HB1.out hb2) hb3)
 have HW3 := Lib.hid hW3
 have HG2 := Lib.hid hg2
 clear hW3 hg2 hx1 hb2 hb3 x0 x1 x2
 go_upto_region 2 with (fail)
 rw [← HW3.out,← HG2.out]
 obtain ⟨x0,x1,x2⟩ := b0.c3
 obtain ⟨a0,a1,a2,a3⟩ := b1.c4
 obtain ⟨y0,y1,y2⟩ := b2.c3
 go_wp2_with fail
 refine (do_any wo a RA1 wo.rows.length rc1 CA1 wo.cls.length cc1 W3 HX.out HKS.out HVS.out).mono ?_
 rintro e w4 h4
 replace h4 := end_do h4
 rw [HZ.out] at h4
 obtain ⟨hb4,RA4,n4,rc4,CA4,m4,cc4,rfl,h4⟩ := h4
 dsimp only at h4 ⊢
 obtain ⟨W5,hW5,hb5,b4,b5⟩ := box_pair w4 #[.slice RA4 n4 rc4,.int .i64 F.clock,.slice CA4 m4 cc4] #[.int .i64 zc,.bool zi,.string zv,.int .i64 zp,.int .i64 zt] 25 31
 obtain ⟨g4,hg4⟩ : ∃ g4,g4 = w4.heap.size := ⟨_,rfl⟩
 obtain ⟨g5,hg5⟩ : ∃ g5,g5 = w4.heap.size + 1 := ⟨_,rfl⟩
 rw [← hg4] at b4
 rw [← hg5] at b5
 have b0 := (b0.upto hb4).upto hb5
 have b1 := (b1.upto hb4).upto hb5
 have b2 := (b2.upto hb4).upto hb5
 have HX5 := Lib.hid ((HX.out.upto hb4).upto hb5)
 have HF5 := Lib.hid (h4.upto hb5)
 have HB5 := Lib.hid (below_next (below_next HB3.out hb4) hb5)
 have HW5 := Lib.hid hW5
 have HG4 := Lib.hid hg4
 have HG5 := Lib.hid hg5
 clear hW5 hg4 hg5 h4 hb4 hb5 x0 x1 x2 a0 a1 a2 a3 y0 y1 y2 HX
 go_upto_region 3 with (fail)
 rw [← HW5.out,← HG5.out,← HG4.out]
 obtain ⟨x0,x1,x2⟩ := b0.c3
 obtain ⟨a0,a1,a2,a3⟩ := b1.c4
 go_wp2_with fail
 refine (did_any wo a RA n rc CA m cc W5 (HI.out.upto HB5.out) HKS.out HVS.out).mono ?_
 rintro e w6 h6
 replace h6 := end_did h6
 rw [HZ.out] at h6
 obtain ⟨hb6,RA6,n6,rc6,CA6,m6,cc6,rfl,h6⟩ := h6
 dsimp only at h6 ⊢
 obtain ⟨W7,hW7,hb7,b6,b7⟩ := box_pair w6 #[.slice RA6 n6 rc6,.int .i64 F.clock,.slice CA6 m6 cc6] #[.int .i64 zc,.bool zi,.string zv,.int .i64 zp,.int .i64 zt] 25 31
 obtain ⟨g6,hg6⟩ : ∃ g6,g6 = w6.heap.size := ⟨_,rfl⟩
 obtain ⟨g7,hg7⟩ : ∃ g7,g7 = w6.heap.size + 1 := ⟨_,rfl⟩
 rw [← hg6] at b6
 rw [← hg7] at b7
 have b0 := (b0.upto hb6).upto hb7
 have b2 := (b2.upto hb6).upto hb7
 have b4 := (b4.upto hb6).upto hb7
 have b5 := (b5.upto hb6).upto hb7
 have HX7 := Lib.hid ((HX5.out.upto hb6).upto hb7)
 have HF7 := Lib.hid ((HF5.out.upto hb6).upto hb7)
 have HD7 := Lib.hid (h6.upto hb7)
 have HB7 := Lib.hid (below_next (below_next HB5.out hb6) hb7)
 have HW7 := Lib.hid hW7
 have HG6 := Lib.hid hg6
 have HG7 := Lib.hid hg7
 clear hW7 hg6 hg7 h6 hb6 hb7 x0 x1 x2 a0 a1 a2 a3 HX5 HF5
 go_upto_region 4 with (fail)
 rw [← HW7.out,← HG7.out,← HG6.out]
 obtain ⟨x0,x1,x2⟩ := b4.c3
 obtain ⟨y0,y1,y2⟩ := b6.c3
 obtain ⟨o0,o1,o2,o3,o4⟩ := b5.c5
 obtain ⟨q0,q1,q2,q3,q4⟩ := b7.c5
 go_wp2_with fail
 refine (sameWorld_true F RA4 n4 rc4 CA4 m4 cc4 RA6 n6 rc6 CA6 m6 cc6 W7 HF7.out HD7.out).mono ?_
 rintro e w8 ⟨rfl,hb8⟩
 have b0 := b0.upto hb8
 have b2 := b2.upto hb8
 have HX8 := Lib.hid (HX7.out.upto hb8)
 have HB8 := Lib.hid (below_next HB7.out hb8)
 clear hb8 x0 x1 x2 y0 y1 y2 o0 o1 o2 o3 o4 q0 q1 q2 q3 q4
 obtain ⟨x0,x1,x2⟩ := b0.c3
 obtain ⟨y0,y1,y2⟩ := b2.c3
 go_wp2_with fail
 refine (sameWorld_true wo RA1 wo.rows.length rc1 CA1 wo.cls.length cc1 RA n rc CA m cc w8 HX8.out (HI.out.upto HB8.out)).mono ?_
 rintro e w9 ⟨rfl,hb9⟩
 have HB9 := Lib.hid (below_next HB8.out hb9)
 clear hb9 x0 x1 x2 y0 y1 y2
 go_wp2
 go_ret
 exact ⟨rfl,HB9.out⟩
end Go.Proofs.YtambkjnhfejfaaaGreat
