/-
  The walk of rickyardkeep.ReadsStay: it returns true and turns no old memory. Conditions: the raw numbers lie in memory.
-/
import Derived.Test.YtambkjnhfejfaabDoorG32
import Derived.Test.YtambkjnhfejfaabDoorG26
namespace Go.Proofs.YtambkjnhfejfaabDoor
open Go.RowKit

set_option maxRecDepth 100000 in
set_option maxHeartbeats 2000000 in
theorem readsStay_walk (w : World) (l : List RawM) (A : Option Addr) (q : Nat) (hr : RawsAt w (· < w.heap.size) A l) (n : Int) (hn : i64 n) (m : Int) (hm : i64 m) :
    Calls Tryd.prog 5 #[.slice A l.length q, .int .i64 n, .int .i64 m] w fun e w' => e = .returned (.bool true) ∧ Below w.heap.size w w' := by
  have HR := Lib.hid (kRow_any A q l w hr)
  have hk := rowsM_keep l (min l.length 40)
  obtain ⟨r, hrd⟩ : ∃ r, r = rowsM l (min l.length 40) := ⟨_, rfl⟩
  rw [← hrd] at HR hk
  obtain ⟨b0, b1⟩ := pick_bd n (show (0 : Int) < 40 by decide)
  obtain ⟨b2, b3⟩ := pick_bd m (show (0 : Int) < 40 by decide)
  have HP := Lib.hid (fun W => picked_any n 40 W hn (by decide) (by decide))
  have HQ := Lib.hid (fun W => picked_any m 40 W hm (by decide) (by decide))
  obtain ⟨p, hp⟩ : ∃ p, p = pickM n 40 := ⟨_, rfl⟩
  obtain ⟨t, ht⟩ : ∃ t, t = pickM m 40 := ⟨_, rfl⟩
  rw [← hp] at b0 b1 HP
  rw [← ht] at b2 b3 HQ
  have hp1 : inB (1 + p) 1 1099511627776 = true := inB_true.2 ⟨by omega, by omega⟩
  have hs : inB (1 + p + 1 + t) 1 1099511627776 = true := inB_true.2 ⟨by omega, by omega⟩
  have hs1 : inB (1 + p + 1 + t + 1) 1 1099511627776 = true := inB_true.2 ⟨by omega, by omega⟩
  have HK := Lib.hid hk
  clear hrd hr hk hp ht
  go_enter Tryd.func5, Tryd.ntmps5
  go_wp2_with fail
  refine HR.out.mono ?_
  rintro e w1 ⟨B, c, rfl, hin, hb1⟩
  obtain ⟨W0, hW, k0, k1, k2, k3, k4, hbW, hsW⟩ := box_new w1 (.string r.key) (.int .i64 r.ls) (.string r.lp) (.string r.val) (.slice B r.recs.length c) 27
  have HW := Lib.hid hW
  have HI := Lib.hid (hin.upto hbW)
  have HB0 := Lib.hid (below_next hb1 hbW)
  clear hW hin hb1 hbW hsW
  go_wp2_with fail
  rw [← HW.out]
  refine (HP.out _).mono ?_
  rintro e w2 ⟨rfl, rfl⟩
  go_wp2_with fail
  refine (read_all r B c (1 + p) w2 HI.out.i HK.out.ok hp1).mono ?_
  rintro e w3 ⟨rfl, hb3⟩
  obtain ⟨g0, g1, g2, g3, g4, _⟩ := boxS k0 k1 k2 k3 k4 hb3
  have HI3 := Lib.hid (HI.out.upto hb3)
  have HB3 := Lib.hid (below_next HB0.out hb3)
  clear k0 k1 k2 k3 k4 hb3
  go_wp2_with fail
  refine (HQ.out _).mono ?_
  rintro e w4 ⟨rfl, rfl⟩
  obtain ⟨a, ec, hx⟩ : ∃ a ec, lockOp (1 + p + 1 + t) ⟨#[98]⟩ ⟨#[110, 101, 119]⟩ r = (a, ec) := ⟨_, _, rfl⟩
  have HU := Lib.hid (lockFn_op r B r.recs.length c (1 + p + 1 + t) ⟨#[98]⟩ ⟨#[110, 101, 119]⟩ w4 HI3.out (by decide) (by decide))
  rw [hx] at HU
  go_wp2_with fail
  refine HU.out.mono ?_
  rintro e w5 ⟨B5, c5, rfl, hrec, hnc, hb5⟩
  have HB5 := Lib.hid (below_next HB3.out hb5)
  obtain ⟨W6, hW6, a0, a1, a2, a3, a4, hbW6, hsW6⟩ := box_new w5 (.string a.key) (.int .i64 a.ls) (.string a.lp) (.string a.val) (.slice B5 a.recs.length c5) 27
  have HW6 := Lib.hid hW6
  have HB6 := Lib.hid (below_next HB5.out hbW6)
  by_cases hrc : (readA r (1 + p)).code = 0
  · by_cases he : ec = 0
    · subst he
      obtain ⟨last, z1, z2, z3, z4, z5, z6, z7⟩ := reads_stay (t := 1 + p) (s := 1 + p + 1 + t) (pk := ⟨#[98]⟩) (pv := ⟨#[110, 101, 119]⟩) HK.out.ok (by omega) (by omega) hrc (by rw [hx])
      rw [hx] at z1 z3 z4 z7
      dsimp only at z1 z3 z4 z7
      rw [hrc]
      have hsz : RowOk a := by
        have := lockOp_ok (st := 1 + p + 1 + t) (pk := ⟨#[98]⟩) (pv := ⟨#[110, 101, 119]⟩) HK.out.sz (by unfold i64; omega) (by decide) (by decide) (by rw [hx])
        rw [hx] at this; exact this
      have hsl : RowOk last := by
        have := commitOp_ok (st := 1 + p + 1 + t) (cm := 1 + p + 1 + t + 1) hsz (by rw [z1])
        rw [z1] at this; exact this
      have HIA := Lib.hid (show OpIn W6 a B5 a.recs.length c5 from ⟨⟨rfl, hrec.upto hbW6, hsz.k, hsz.p, hsz.v⟩, hnc.2⟩)
      have HC := Lib.hid (commitFn_op a B5 a.recs.length c5 (1 + p + 1 + t) (1 + p + 1 + t + 1) W6 HIA.out)
      rw [z1] at HC
      have HZ := Lib.hid (And.intro z2 (And.intro z3 (And.intro z4 (And.intro z5 (And.intro z6 z7)))))
      have HSL := Lib.hid hsl
      have HRC := Lib.hid hrc
      clear hx hrec hnc hb5 HU hW6 hbW6 hsW6 g0 g1 g2 g3 g4 hsz hsl z1 z2 z3 z4 z5 z6 z7 hrc
      go_wp2_with fail
      rw [← HW6.out]
      refine HC.out.mono ?_
      rintro e w7 ⟨B7, c7, rfl, hrec, hnc, hb7⟩
      obtain ⟨x0, x1, x2, x3, x4, _⟩ := boxS a0 a1 a2 a3 a4 hb7
      have hx7 : w5.heap.size < w7.heap.size := World.block_lt_of_cell? w7 _ x0
      obtain ⟨W8, hW8, y0, y1, y2, y3, y4, hbW8, hsW8⟩ := box_new w7 (.string last.key) (.int .i64 last.ls) (.string last.lp) (.string last.val) (.slice B7 last.recs.length c7) 27
      have HW8 := Lib.hid hW8
      have hb68 := hb7.trans (hbW8.mono hb7.size)
      have HIA8 := Lib.hid (HIA.out.upto hb68)
      have HIL8 := Lib.hid (show OpIn W8 last B7 last.recs.length c7 from ⟨⟨rfl, hrec.upto hbW8, HSL.out.k, HSL.out.p, HSL.out.v⟩, hnc.2⟩)
      have HB8 := Lib.hid (below_next HB6.out hb68)
      have HRD := Lib.hid (read_all a B5 c5 (1 + p) W8 HIA8.out.i HZ.out.2.1 hp1)
      rw [HZ.out.2.2.1, HRC.out] at HRD
      obtain ⟨u0, u1, u2, u3, u4, _⟩ := boxS x0 x1 x2 x3 x4 hbW8
      clear hrec hnc hb7 hW8 hbW8 hsW8 hb68 a0 a1 a2 a3 a4 HC
      go_wp2_with fail
      rw [← HW8.out]
      refine HRD.out.mono ?_
      rintro e w9 ⟨rfl, hb9⟩
      clear x0 x1 x2 x3 x4 hx7
      obtain ⟨x0, x1, x2, x3, x4, _⟩ := boxS u0 u1 u2 u3 u4 hb9
      obtain ⟨v0, v1, v2, v3, v4, _⟩ := boxS y0 y1 y2 y3 y4 hb9
      have HB9 := Lib.hid (below_next HB8.out hb9)
      have HIA9 := Lib.hid (HIA8.out.upto hb9)
      have HIL9 := Lib.hid (HIL8.out.upto hb9)
      have HR9 := Lib.hid (read_all last B7 c7 (1 + p) w9 HIL9.out.i HZ.out.1 hp1)
      rw [HZ.out.2.2.2.1, HRC.out] at HR9
      clear u0 u1 u2 u3 u4 y0 y1 y2 y3 y4 hb9 HRD
      go_wp2_with fail
      refine HR9.out.mono ?_
      rintro e w10 ⟨rfl, hb10⟩
      obtain ⟨u0, u1, u2, u3, u4, _⟩ := boxS x0 x1 x2 x3 x4 hb10
      obtain ⟨y0, y1, y2, y3, y4, _⟩ := boxS v0 v1 v2 v3 v4 hb10
      have HB10 := Lib.hid (below_next HB9.out hb10)
      have HIA10 := Lib.hid (HIA9.out.upto hb10)
      have HIL10 := Lib.hid (HIL9.out.upto hb10)
      have HR10 := Lib.hid (read_all last B7 c7 (1 + p + 1 + t + 1) w10 HIL10.out.i HZ.out.1 hs1)
      rw [HZ.out.2.2.2.2.1] at HR10
      clear x0 x1 x2 x3 x4 v0 v1 v2 v3 v4 hb10 HR9
      go_wp2_with fail
      refine HR10.out.mono ?_
      rintro e w11 ⟨rfl, hb11⟩
      obtain ⟨x0, x1, x2, x3, x4, _⟩ := boxS u0 u1 u2 u3 u4 hb11
      have HB11 := Lib.hid (below_next HB10.out hb11)
      have HIA11 := Lib.hid (HIA10.out.upto hb11)
      have HR11 := Lib.hid (read_all a B5 c5 (1 + p + 1 + t) w11 HIA11.out.i HZ.out.2.1 hs)
      rw [HZ.out.2.2.2.2.2] at HR11
      clear u0 u1 u2 u3 u4 y0 y1 y2 y3 y4 hb11 HR10
      go_wp2_with fail
      refine HR11.out.mono ?_
      rintro e w12 ⟨rfl, hb12⟩
      go_wp2
      go_ret
      exact ⟨rfl, below_next HB11.out hb12⟩
    · have d1 : (ec != 0) = true := by simpa using he
      rw [hrc]
      clear hx hrec hnc hb5 HU hW6 hbW6 hsW6 g0 g1 g2 g3 g4 a0 a1 a2 a3 a4 he hrc
      go_wp2
      go_ret
      exact ⟨rfl, by rw [← HW6.out]; exact HB6.out⟩
  · have d1 : ((readA r (1 + p)).code != 0) = true := by simpa using hrc
    clear hx hrec hnc hb5 HU hW6 hbW6 hsW6 g0 g1 g2 g3 g4 a0 a1 a2 a3 a4 hrc
    go_wp2
    go_ret
    exact ⟨rfl, by rw [← HW6.out]; exact HB6.out⟩
end Go.Proofs.YtambkjnhfejfaabDoor
