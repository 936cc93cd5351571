/-
  The walk of rickyardkeep.UndoneStays: it returns true and turns no old memory. Conditions: the raw numbers lie in memory.
-/
import Derived.Test.YtambkjnhfejfaabDoorG32
import Derived.Test.YtambkjnhfejfaabDoorG26
namespace Go.Proofs.YtambkjnhfejfaabDoor
open Go.RowKit

set_option maxRecDepth 100000 in
set_option maxHeartbeats 2000000 in
theorem undoneStays_walk (w : World) (l : List RawM) (A : Option Addr) (q : Nat) (hr : RawsAt w (· < w.heap.size) A l) (n : Int) (hn : i64 n) (m : Int) (hm : i64 m) :
    Calls Tryd.prog 6 #[.slice A l.length q, .int .i64 n, .int .i64 m] w fun e w' => e = .returned (.bool true) ∧ Below w.heap.size w w' := by
  have HR := Lib.hid (kRow_any A q l w hr)
  have hk := rowsM_keep l (min l.length 40)
  obtain ⟨r, hrd⟩ : ∃ r, r = rowsM l (min l.length 40) := ⟨_, rfl⟩
  rw [← hrd] at HR hk
  obtain ⟨b0, b1⟩ := pick_bd n (show (0 : Int) < 60 by decide)
  obtain ⟨b2, b3⟩ := pick_bd m (show (0 : Int) < 60 by decide)
  have HP := Lib.hid (fun W => picked_any n 60 W hn (by decide) (by decide))
  have HQ := Lib.hid (fun W => picked_any m 60 W hm (by decide) (by decide))
  obtain ⟨p, hp⟩ : ∃ p, p = pickM n 60 := ⟨_, rfl⟩
  obtain ⟨t, ht⟩ : ∃ t, t = pickM m 60 := ⟨_, rfl⟩
  rw [← hp] at b0 b1 HP
  rw [← ht] at b2 b3 HQ
  have hs : inB (1 + p) 1 1099511627776 = true := inB_true.2 ⟨by omega, by omega⟩
  have hti : inB (1 + t) 1 1099511627776 = true := inB_true.2 ⟨by omega, by omega⟩
  have h40 : min l.length 40 ≤ 40 := by omega
  have HK := Lib.hid hk
  clear hrd hr hk hp ht
  go_enter Tryd.func6, Tryd.ntmps6
  go_wp2_with fail
  refine HR.out.mono ?_
  rintro e w1 ⟨B, c, rfl, hin, hb1⟩
  obtain ⟨W0, hW, k0, k1, k2, k3, k4, hbW, hsW⟩ := box_new w1 (.string r.key) (.int .i64 r.ls) (.string r.lp) (.string r.val) (.slice B r.recs.length c) 27
  have HW := Lib.hid hW
  have HI := Lib.hid (hin.upto hbW)
  have HB0 := Lib.hid (below_next hb1 hbW)
  clear hW hin hb1 hbW hsW
  go_wp2_with fail
  rw [← HW.out]
  refine (HP.out _).mono ?_
  rintro e w2 ⟨rfl, rfl⟩
  go_wp2_with fail
  obtain ⟨a, ec, hx⟩ : ∃ a ec, undoOp (1 + p) r = (a, ec) := ⟨_, _, rfl⟩
  have HU := Lib.hid (undoFn_op r B r.recs.length c (1 + p) w2 HI.out)
  rw [hx] at HU
  refine HU.out.mono ?_
  rintro e w3 ⟨B3, c3, rfl, hrec, hnc, hb3⟩
  obtain ⟨g0, g1, g2, g3, g4, _⟩ := boxS k0 k1 k2 k3 k4 hb3
  have HI3 := Lib.hid (HI.out.upto hb3)
  have HB3 := Lib.hid (below_next HB0.out hb3)
  have hlt3 : w1.heap.size < w3.heap.size := World.block_lt_of_cell? w3 _ g0
  obtain ⟨W4, hW4, a0, a1, a2, a3, a4, hbW4, hsW4⟩ := box_new w3 (.string a.key) (.int .i64 a.ls) (.string a.lp) (.string a.val) (.slice B3 a.recs.length c3) 27
  have HW4 := Lib.hid hW4
  have HI4 := Lib.hid (HI3.out.upto hbW4)
  have HB4 := Lib.hid (below_next HB3.out hbW4)
  obtain ⟨m0, m1, m2, m3, m4, _⟩ := boxS g0 g1 g2 g3 g4 hbW4
  by_cases he : ec = 0
  · subst he
    obtain ⟨hao, hag, has, har⟩ := undo_stays (t := 1 + t) HK.out.ok hs (by rw [hx])
    rw [hx] at hao hag has har
    dsimp only at hao hag has har
    have hsz : RowOk a := by have := undoOp_ok (st := 1 + p) HK.out.sz (by rw [hx]); rw [hx] at this; exact this
    have HIA := Lib.hid (show OpIn W4 a B3 a.recs.length c3 from ⟨⟨rfl, hrec.upto hbW4, hsz.k, hsz.p, hsz.v⟩, hnc.2⟩)
    have HU2 := Lib.hid (undoFn_op a B3 a.recs.length c3 (1 + p) W4 HIA.out)
    rw [hag] at HU2
    have HAR := Lib.hid har
    have HAS := Lib.hid has
    have HAO := Lib.hid hao
    clear hx hag hrec hnc hb3 k0 k1 k2 k3 k4 HU hW4 hbW4 hsW4 g0 g1 g2 g3 g4 hsz har has hao hlt3
    go_wp2_with fail
    rw [← HW4.out]
    refine HU2.out.mono ?_
    rintro e w5 ⟨B5, c5, rfl, hrec, hnc, hb5⟩
    obtain ⟨x0, x1, x2, x3, x4, _⟩ := boxS a0 a1 a2 a3 a4 hb5
    obtain ⟨y0, y1, y2, y3, y4, _⟩ := boxS m0 m1 m2 m3 m4 hb5
    have hx5 : w3.heap.size < w5.heap.size := World.block_lt_of_cell? w5 _ x0
    have hy5 : w1.heap.size < w5.heap.size := World.block_lt_of_cell? w5 _ y0
    obtain ⟨W6, hW6, b0', b1', b2', b3', b4', hbW6, hsW6⟩ := box_new w5 (.string a.key) (.int .i64 a.ls) (.string a.lp) (.string a.val) (.slice B5 a.recs.length c5) 27
    have HW6 := Lib.hid hW6
    have hb46 := hb5.trans (hbW6.mono hb5.size)
    have HIR6 := Lib.hid (HI4.out.upto hb46)
    have HIA6 := Lib.hid (HIA.out.upto hb46)
    have HRB6 := Lib.hid (hrec.upto hbW6)
    have HB6 := Lib.hid (below_next HB4.out hb46)
    have HS := Lib.hid (status_ok a.key a.lp a.val a.ls B3 a.recs.length c3 a.recs (1 + p) W6 HIA6.out.i HAO.out hs)
    rw [HAS.out] at HS
    obtain ⟨u0, u1, u2, u3, u4, _⟩ := boxS x0 x1 x2 x3 x4 hbW6
    obtain ⟨v0, v1, v2, v3, v4, _⟩ := boxS y0 y1 y2 y3 y4 hbW6
    clear hW6 hbW6 hsW6 hrec hnc hb5 hb46 a0 a1 a2 a3 a4 m0 m1 m2 m3 m4
    go_wp2_with fail
    rw [← HW6.out]
    refine HS.out.mono ?_
    rintro e w7 ⟨rfl, hb7⟩
    clear x0 x1 x2 x3 x4 y0 y1 y2 y3 y4
    obtain ⟨x0, x1, x2, x3, x4, _⟩ := boxS u0 u1 u2 u3 u4 hb7
    obtain ⟨y0, y1, y2, y3, y4, _⟩ := boxS v0 v1 v2 v3 v4 hb7
    obtain ⟨z0, z1, z2, z3, z4, _⟩ := boxS b0' b1' b2' b3' b4' hb7
    have HB7 := Lib.hid (below_next HB6.out hb7)
    have HIR7 := Lib.hid (HIR6.out.upto hb7)
    have HIA7 := Lib.hid (HIA6.out.upto hb7)
    have HRB7 := Lib.hid (HRB6.out.upto hb7)
    clear u0 u1 u2 u3 u4 v0 v1 v2 v3 v4 b0' b1' b2' b3' b4' hb7
    go_wp2_with fail
    refine (HQ.out _).mono ?_
    rintro e w8 ⟨rfl, rfl⟩
    go_wp2_with fail
    refine (read_all r B c (1 + t) w8 HIR7.out.i HK.out.ok hti).mono ?_
    rintro e w9 ⟨rfl, hb9⟩
    obtain ⟨u0, u1, u2, u3, u4, _⟩ := boxS x0 x1 x2 x3 x4 hb9
    obtain ⟨v0, v1, v2, v3, v4, _⟩ := boxS z0 z1 z2 z3 z4 hb9
    have HB9 := Lib.hid (below_next HB7.out hb9)
    have HIA9 := Lib.hid (HIA7.out.upto hb9)
    have HRB9 := Lib.hid (HRB7.out.upto hb9)
    clear x0 x1 x2 x3 x4 y0 y1 y2 y3 y4 z0 z1 z2 z3 z4 hb9
    go_wp2_with fail
    refine (read_all a B3 c3 (1 + t) w9 HIA9.out.i HAO.out hti).mono ?_
    rintro e w10 ⟨rfl, hb10⟩
    obtain ⟨x0, x1, x2, x3, x4, _⟩ := boxS u0 u1 u2 u3 u4 hb10
    obtain ⟨y0, y1, y2, y3, y4, _⟩ := boxS v0 v1 v2 v3 v4 hb10
    have HB10 := Lib.hid (below_next HB9.out hb10)
    have HSM := Lib.hid (kSameRow_true a B3 B5 a.recs.length c3 a.recs.length c5 w10 rfl rfl (HIA9.out.upto hb10).i.l (HRB9.out.upto hb10))
    clear u0 u1 u2 u3 u4 v0 v1 v2 v3 v4 hb10
    by_cases hrc : (readA r (1 + t)).code = 0
    · have hra := HAR.out hrc
      rw [hra, hrc]
      clear hra hrc
      go_wp2_with fail
      refine HSM.out.mono ?_
      rintro e w11 ⟨rfl, hb11⟩
      go_wp2
      go_ret
      exact ⟨rfl, below_next HB10.out hb11⟩
    · have d1 : ((readA r (1 + t)).code == 0) = false := by simpa using hrc
      clear hrc
      go_wp2_with fail
      refine HSM.out.mono ?_
      rintro e w11 ⟨rfl, hb11⟩
      go_wp2
      go_ret
      exact ⟨rfl, below_next HB10.out hb11⟩
  · have d0 : (ec != 0) = true := by simpa using he
    obtain ⟨h2, h6⟩ := undo_err HK.out h40 hs (by rw [hx]; exact he)
    rw [hx] at h6
    have HS := Lib.hid (status_ok r.key r.lp r.val r.ls B r.recs.length c r.recs (1 + p) W4 HI4.out.i HK.out.ok hs)
    rw [h2] at HS
    dsimp only at h6
    subst h6
    clear he h2 hrec hnc hb3 hx k0 k1 k2 k3 k4 HU a0 a1 a2 a3 a4 hW4 hbW4 hsW4 m0 m1 m2 m3 m4
    go_wp2_with fail
    rw [← HW4.out]
    refine HS.out.mono ?_
    rintro e w5 ⟨rfl, hb5⟩
    go_wp2
    go_ret
    exact ⟨rfl, below_next HB4.out hb5⟩
end Go.Proofs.YtambkjnhfejfaabDoor
