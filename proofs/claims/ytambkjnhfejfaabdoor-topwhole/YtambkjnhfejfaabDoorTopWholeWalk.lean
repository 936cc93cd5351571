/-
  The walk of rickyardtop.TopWhole: it returns true and turns no old memory. Conditions: the raw numbers lie in memory.
-/
import Derived.Test.YtambkjnhfejfaabDoorG35
import Derived.Test.YtambkjnhfejfaabDoorG33
import Derived.Maps.OwnSet
namespace Go.Proofs.YtambkjnhfejfaabDoor
open Go.RowKit Go.Maps

theorem law_int : Keyed Tryd.prog 3 := int_keyed Tryd.underlying3
theorem zero_int (w : World) : (zeroValue 3).run Tryd.prog w = .ok (.int .i64 0) w := by kernel_rfl
/-- What the map of times holds: each entry is a record of some row. -/
def TimesOf (wo : WoM) (D : DataW Unit) : Prop := ∀ s : Int, i64 s → Maps.has D (.int .i64 s) = true → ∃ r ∈ wo.rows, ∃ x ∈ r.recs, x.s = s ∧ D.atKey (.int .i64 s) (.lit (.int .i64 0)) = .lit (.int .i64 x.c)
theorem times_put {wo : WoM} {D : DataW Unit} {r : RowM} {x : RecM} (h : TimesOf wo D) (hD : IsMap D) (hr : r ∈ wo.rows) (hx : x ∈ r.recs) : TimesOf wo (D.put (.int .i64 x.s) (.lit (.int .i64 x.c))) := by
  intro s hs hh
  by_cases e : s = x.s
  · subst e
    exact ⟨r, hr, x, hx, rfl, atKey_put_same hD (by trivial) _ _⟩
  · have hne : (Lit.int .i64 s) ≠ .int .i64 x.s := fun e' => e (by injection e')
    rw [has_put_other hne] at hh
    obtain ⟨r', hr', x', hx', ex, hat⟩ := h s hs hh
    exact ⟨r', hr', x', hx', ex, by rw [atKey_put_other hne]; exact hat⟩
set_option maxRecDepth 100000 in
set_option maxHeartbeats 4000000 in
theorem topWhole_walk (w : World) (l : List RawM) (A : Option Addr) (q : Nat) (hr : RawsAt w (· < w.heap.size) A l) :
    Calls Tryd.prog 13 #[.slice A l.length q] w fun e w' => e = .returned (.bool true) ∧ Below w.heap.size w w' := by
  have HAC := Lib.hid (show Calls Tryd.prog 32 #[.slice A l.length q, .int .i64 90, .int .i64 4] w (ActsOut (actsM 4 l (min l.length 90)) w) from acts_any A q l 90 (by decide) 4 (by decide) (by decide) w hr)
  have hfit := actsM_fit l (min l.length 90)
  obtain ⟨ac, hac⟩ : ∃ ac, ac = actsM 4 l (min l.length 90) := ⟨_, rfl⟩
  have hal : ac.length ≤ 90 := by rw [hac, actsM_len]; omega
  have hao : ∀ a ∈ ac, ActOk a := by rw [hac]; exact actsM_ok (by omega)
  rw [← hac] at HAC hfit
  have HAO := Lib.hid hao
  obtain ⟨⟨prim, hwh⟩, _, _⟩ := whole_at (show ac.length ≤ 400 by omega) hfit ac.length (Nat.le_refl _)
  have HWH := Lib.hid hwh
  clear hr hac hao hwh
  go_enter Tryd.func13, Tryd.ntmps13
  go_wp2_with fail
  refine HAC.out.mono ?_
  rintro e w1 ⟨A1, c1, rfl, hown1, hb1⟩
  have HRUN := Lib.hid (topRun_any A1 c1 ac w1 (SeqAt.acts (OwnsActs.acts hown1 (by omega) HAO.out).2.2 (fun b hb => hb.2) (fun _ _ _ => rfl)) (by omega))
  have HB1 := Lib.hid hb1
  clear hown1 hb1
  go_wp2_with fail
  refine HRUN.out.mono ?_
  rintro e w2 ⟨g, RA, n, rc, CA, m, cc, rfl, hwo, _, _, hb2⟩
  rw [woAt, List.take_length] at HWH
  obtain ⟨WO, hWO⟩ : ∃ WO, WO = runWo (startW 4) ac := ⟨_, rfl⟩
  rw [← hWO] at hwo HWH ⊢
  obtain ⟨W3, hW3, k0, k1, k2, hb3, hs3⟩ := box3_new w2 (.slice RA n rc) (.int .i64 WO.clock) (.slice CA m cc) 67
  have HWO := Lib.hid (hwo.upto hb3).in_.rows
  have hn := hwo.hn
  subst hn
  have HB3 := Lib.hid (below_next (below_next HB1.out hb2) hb3)
  have HW3 := Lib.hid hW3
  have hbx : w2.heap.size < W3.heap.size := by omega
  have hmm := @run_makeMap Tryd.prog
  clear hwo hb2 hW3 hb3 hWO
  go_wp2
  rw [← HW3.out]
  go_loopw [24] (fun i wr => ∃ (k n : Nat) (D : DataW Unit), k ≤ WO.rows.length ∧ i = .int .i64 k ∧ wr.ownsMap Tryd.prog 3 (plainElem Tryd.prog 3) (w2.heap.size + 1) n D ∧ n ≤ k * 100 ∧ TimesOf WO D ∧ Below W3.heap.size W3 wr) (fun i _ => WO.rows.length - (intOf i).toNat)
  case atStart => exact ⟨0, 0, .map [], Nat.zero_le _, rfl, (by rw [← hs3]; exact World.ownsMap_made _ _ _ _), Nat.zero_le _, fun s _ h => (by cases h), below_alloc (Below.refl _ _) _⟩
  case round =>
    obtain ⟨k, n, D, hk, rfl, hown, hn, hT, hb⟩ := hrel
    have HB := Lib.hid hb
    have HT := Lib.hid hT
    have HOW := Lib.hid hown
    have h40 := HWH.out.good.rows.len
    have hBlt : w2.heap.size + 1 < wr.heap.size := hown.lt
    by_cases hm : k < WO.rows.length
    · obtain ⟨b, o, rfl, hbb, hrow⟩ := SeqAt.at_ (SeqAt.rows HWO.out (P' := (· < W3.heap.size)) (fun _ h => h) (fun b j hb' => hb.cell (p := ⟨b, j, none⟩) hb')) (getD_some (d := default) hm)
      obtain ⟨r, hrd⟩ : ∃ r, r = WO.rows.getD k default := ⟨_, rfl⟩
      rw [← hrd] at hrow
      have hrm : r ∈ WO.rows := by rw [hrd]; exact getD_mem hm
      have h100 : r.recs.length ≤ 100 := row_len (show rowB r.key r.ls r.lp r.val r.recs = true from HWH.out.good.rows.ok r hrm)
      obtain ⟨RC, cr, c4, hcr, hrecs⟩ := hrow.cr
      have c0 := hrow.ck
      have c1' := hrow.cs
      have c2 := hrow.cp
      have c3 := hrow.cv
      have HRM := Lib.hid hrm
      have HRC := Lib.hid hrecs
      have j0 : (0 : Int) ≤ (k : Int) := by omega
      have j1 : (k : Int) < (WO.rows.length : Int) := by omega
      clear hrow hrecs hrd hrm hb hT hown
      go_wp2
      obtain ⟨W5, hW5, y0, y1, y2, y3, y4, hb5, hs5⟩ := box_new wr (.string r.key) (.int .i64 r.ls) (.string r.lp) (.string r.val) (.slice RC r.recs.length cr) 27
      rw [← hW5]
      have HB5 := Lib.hid (HB.out.trans (hb5.mono (by omega)))
      have HOW5 := Lib.hid (show W5.ownsMap Tryd.prog 3 (plainElem Tryd.prog 3) (w2.heap.size + 1) n D by rw [hW5]; exact HOW.out.alloc _)
      have hBlt5 : w2.heap.size + 1 < W5.heap.size := HOW5.out.lt
      clear hW5 hb5 y0 y1 y2 y3 y4 c0 c1' c2 c3 c4
      obtain ⟨wq, rfl⟩ : ∃ wq, wq = wr := ⟨_, rfl⟩
      go_loopw [31] (fun i wr => ∃ (j n' : Nat) (D' : DataW Unit), j ≤ r.recs.length ∧ i = .int .i64 j ∧ wr.ownsMap Tryd.prog 3 (plainElem Tryd.prog 3) (w2.heap.size + 1) n' D' ∧ n' ≤ k * 100 + j ∧ TimesOf WO D' ∧ Below W3.heap.size W3 wr) (fun i _ => r.recs.length - (intOf i).toNat)
      case atStart => exact ⟨0, n, D, Nat.zero_le _, rfl, HOW5.out, by omega, HT.out, HB5.out⟩
      case round =>
        obtain ⟨j, n', D', hj, rfl, hown, hn', hT, hb⟩ := hrel
        have HB' := Lib.hid hb
        have HT' := Lib.hid hT
        have HOW' := Lib.hid hown
        have hBl : w2.heap.size + 1 < wr.heap.size := hown.lt
        by_cases hjm : j < r.recs.length
        · obtain ⟨b', o', hA', hbb', hrec⟩ := RecsAt.at_ ((HRC.out.mono (P' := (· < W3.heap.size)) (fun _ h => h) (fun b' k' hb' => (hb.cell (p := ⟨b', k', none⟩) hb').trans (HB.out.cell (p := ⟨b', k', none⟩) hb').symm)).recs (fun _ h => h)) (getD_of hjm)
          obtain ⟨x, hxd⟩ : ∃ x, x = r.recs.getD j default := ⟨_, rfl⟩
          rw [← hxd] at hrec
          have hxm : x ∈ r.recs := by rw [hxd]; exact mem_getD hjm
          obtain ⟨x0, x1, x2⟩ := hrec
          subst hA'
          have hxo : RecOk x := HRC.out.2.1 x hxm
          have HXM := Lib.hid hxm
          have i0 : (0 : Int) ≤ (j : Int) := by omega
          have i1 : (j : Int) < (r.recs.length : Int) := by omega
          have wf0 : (Lit.int .i64 x.s).wf = true := WalkArith.wf_i64 hxo.s
          have wf1 : (Lit.int .i64 x.c).wf = true := WalkArith.wf_i64 hxo.c
          have HXO := Lib.hid hxo
          clear hxd hxm hb hT hown hxo
          obtain ⟨xs, xc, xv⟩ := x
          dsimp only at x0 x1 x2 wf0 wf1
          have hkey : Go.keyOf Tryd.prog 3 (.int .i64 xs) = some (.int .i64 xs) := keyOf_int_mk Tryd.underlying3 wf0
          have HNX := Lib.hid (times_put HT'.out HOW'.out.isMap HRM.out HXM.out)
          by_cases hh : Maps.has D' (.int .i64 xs) = true
          · have HC := Lib.hid (show ∀ c : Int, D'.atKey (.int .i64 xs) (.lit (.int .i64 0)) = .lit (.int .i64 c) → (c != xc) = false from fun c hat => by
              obtain ⟨r', hr', x', hx', ex, hat'⟩ := HT'.out xs HXO.out.s hh
              rw [hat] at hat'
              injection hat' with hat'
              injection hat' with _ hat'
              have := HWH.out.one HRM.out hr' HXM.out hx' ex.symm
              dsimp only at this
              simp [hat', this])
            go_wp2_with (first | (at_lookup; refine wpList_lookup_own_ok_int _ rfl _ _ 86 rfl 3 3 .i64 law_int Tryd.underlying86 Tryd.underlying3 (zero_int _) (w2.heap.size + 1) n' D' rfl (HOW'.out.alloc _) _ _ rfl hkey ?_; intro c hat hwc; have hcx := HC.out c hat) | (at_mapUpdate; refine wpList_mapUpdate_own _ rfl _ _ _ 86 rfl 3 3 law_int Tryd.underlying86 _ (w2.heap.size + 1) n' _ rfl (HOW'.out.alloc _) (by unfold maxLen; omega) _ _ _ rfl rfl hkey _ [] (plainElem_int Tryd.underlying3 wf1) ?_; intro w6 hown6 hgrow6))
            go_roundw
            case rel => exact ⟨j + 1, n' + 1, _, by omega, by go_num, hown6, by omega, HNX.out, (below_alloc HB'.out _).grown hgrow6 (below_alloc HB'.out _).size (fun j hj => by cases hj; omega)⟩
            case measure => simp [intOf]; omega
          · have hh' : Maps.has D' (.int .i64 xs) = false := by simpa using hh
            clear hh
            go_wp2_with (first | (at_lookup; refine wpList_lookup_own_ok_int _ rfl _ _ 86 rfl 3 3 .i64 law_int Tryd.underlying86 Tryd.underlying3 (zero_int _) (w2.heap.size + 1) n' D' rfl (HOW'.out.alloc _) _ _ rfl hkey ?_; intro c hat hwc) | (at_mapUpdate; refine wpList_mapUpdate_own _ rfl _ _ _ 86 rfl 3 3 law_int Tryd.underlying86 _ (w2.heap.size + 1) n' _ rfl (HOW'.out.alloc _) (by unfold maxLen; omega) _ _ _ rfl rfl hkey _ [] (plainElem_int Tryd.underlying3 wf1) ?_; intro w6 hown6 hgrow6))
            go_roundw
            case rel => exact ⟨j + 1, n' + 1, _, by omega, by go_num, hown6, by omega, HNX.out, (below_alloc HB'.out _).grown hgrow6 (below_alloc HB'.out _).size (fun j hj => by cases hj; omega)⟩
            case measure => simp [intOf]; omega
        · have hje : j = r.recs.length := by omega
          subst hje
          clear hb hT hown
          go_wp2
          go_roundw
          case rel => exact ⟨k + 1, n', D', by omega, by go_num, HOW'.out, by omega, HT'.out, HB'.out⟩
          case measure => simp [intOf]; omega
    · have hke : k = WO.rows.length := by omega
      subst hke
      clear hb hT hown
      go_wp2
      go_ret
      exact ⟨rfl, below_next HB3.out HB.out⟩
end Go.Proofs.YtambkjnhfejfaabDoor
