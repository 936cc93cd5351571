/-
  The walk of rickyardkeep.StepsCommit: it returns true and turns no old memory. Conditions: none.
-/
import Derived.Test.YtambkjnhfejfaabDoorSecondLateWalk
namespace Go.Proofs.YtambkjnhfejfaabDoor
open Go.RowKit

def ks5 : List ByteArray := [⟨#[97]⟩, ⟨#[98]⟩, ⟨#[99]⟩, ⟨#[100]⟩, ⟨#[101]⟩]
theorem ks5_size : ∀ k ∈ ks5, k.size ≤ 6 := by decide +kernel
theorem SeqAt.take_ {α : Type} {P : Nat → Prop} {sz mx : Nat} {E : Nat → Nat → α → Prop} {A : Option Addr} {l : List α} (h : SeqAt P sz mx E A l) (k : Nat) : SeqAt P sz mx E A (l.take k) :=
  ⟨Nat.le_trans (List.length_take_le' _ _) h.1, fun h0 => by
    have hl : 0 < l.length := by rw [List.length_take] at h0; omega
    obtain ⟨b, o, hA, hb, hc⟩ := h.2 hl
    refine ⟨b, o, hA, hb, fun i x hx => hc i x ?_⟩
    rw [List.getElem?_take] at hx
    split at hx
    · exact hx
    · cases hx⟩
theorem ks_new (w : World) : ∃ W, W = w.alloc (.cells #[.string ⟨#[97]⟩, .string ⟨#[98]⟩, .string ⟨#[99]⟩, .string ⟨#[100]⟩, .string ⟨#[101]⟩] 9) ∧ Below w.heap.size w W ∧ StrsAt W (· < W.heap.size) (some ⟨w.heap.size, 0, none⟩) ks5 ∧ W.heap.size = w.heap.size + 1 :=
  ⟨_, rfl, below_alloc (Below.refl _ _) _, strs_block (l := ks5) (heap_alloc_new w _) (by decide) ks5_size, by simp⟩
/-- The acts of the script. -/
def scActs (k : Nat) : List ActM := deedM 0 (2 * k + 1) (ks5.take k) ++ lookM 1 (ks5.take k)
def scAns (k : Nat) : List AnsM := runAns (startW 3) (scActs k)
def scRow (k i : Nat) : Bool := match (scAns k)[3 * k + 3 + i]? with
  | some a => a.code == 0 && a.is && a.val.data.toList == (ofS (ks5.getD i default) 0).data.toList
  | none => false
def scOk (k : Nat) : Bool :=
  (match (scAns k)[3 * k + 1]?, (scAns k)[2 * k + 1]?, (scAns k)[0]? with
  | some a, some b, some c => a.ph == 0 && a.code == 0 && b.time == 2 && c.time == 1
  | _, _, _ => false) && (List.range k).all (scRow k)
theorem sc_ok : ∀ k, k < 6 → k = 0 ∨ scOk k = true := by decide +kernel
theorem sc_len : ∀ k, k < 6 → (scActs k).length = 4 * k + 3 := by decide +kernel
theorem ba_data {a b : ByteArray} (h : a.data.toList = b.data.toList) : a = b := ba_ext (by rw [toList_data, toList_data]; exact h)
theorem sc_parts {k : Nat} (h : scOk k = true) : (∃ a b c, (scAns k)[3 * k + 1]? = some a ∧ (scAns k)[2 * k + 1]? = some b ∧ (scAns k)[0]? = some c ∧ a.ph = 0 ∧ a.code = 0 ∧ b.time = 2 ∧ c.time = 1) ∧ ∀ i, i < k → ∃ a, (scAns k)[3 * k + 3 + i]? = some a ∧ a.code = 0 ∧ a.is = true ∧ a.val = ofS (ks5.getD i default) 0 := by
  simp only [scOk, Bool.and_eq_true] at h
  obtain ⟨h1, h2⟩ := h
  refine ⟨?_, fun i hi => ?_⟩
  · split at h1
    · rename_i a b c e1 e2 e3
      simp only [Bool.and_eq_true, beq_iff_eq] at h1
      exact ⟨a, b, c, e1, e2, e3, h1.1.1.1, h1.1.1.2, h1.1.2, h1.2⟩
    · cases h1
  · rw [all_range_iff] at h2
    have := h2 i hi
    unfold scRow at this
    split at this
    · rename_i a e
      simp only [Bool.and_eq_true, beq_iff_eq] at this
      exact ⟨a, e, this.1.1, this.1.2, ba_data this.2⟩
    · cases this
theorem look_ok {c : Nat} {keys : List ByteArray} (hk : ∀ k ∈ keys, k.size ≤ 6) : ∀ a ∈ lookM c keys, ActOk a := by
  intro a ha
  simp only [lookM, List.mem_cons, List.mem_map] at ha
  rcases ha with rfl | ⟨k, hk', rfl⟩
  · exact ⟨Nat.zero_le _, Nat.zero_le _⟩
  · have := hk k hk'
    exact ⟨by simp only [maxLen]; omega, Nat.zero_le _⟩
theorem ofS_zero (k : ByteArray) : ofS k 0 = (⟨#[111, 102, 32]⟩ : ByteArray) ++ k ++ (⟨#[48]⟩ : ByteArray) := by
  have : itoaS 0 = ⟨#[48]⟩ := by decide +kernel
  rw [ofS, this]
set_option maxRecDepth 100000 in
set_option maxHeartbeats 4000000 in
theorem stepsCommit_K1 (w : World) (n : Int) (hn : i64 n) (hj : pickM n 5 = 0) :
    Calls Tryd.prog 7 #[.int .i64 n] w fun e w' => e = .returned (.bool true) ∧ Below w.heap.size w w' := by
  obtain ⟨W1, hW1, hb1, hst1, hs1⟩ := ks_new w
  have HP := Lib.hid (picked_any n 5 W1 hn (by decide) (by decide))
  rw [hj] at HP
  obtain ⟨⟨xa, xb, xc, h1, h2, h3, a0, a1, a2, a3⟩, hrow⟩ := sc_parts ((sc_ok 1 (by omega)).resolve_left (by omega))
  have hL : (scActs 1).length = 7 := sc_len 1 (by omega)
  have hkl : ∀ k ∈ ks5.take 1, k.size ≤ 6 := fun k hk => ks5_size k (List.mem_of_mem_take hk)
  have HD := Lib.hid (show Calls Tryd.prog 28 #[.int .i64 0, .int .i64 3, .slice (some ⟨w.heap.size, 0, none⟩) 1 5] W1 (ActsOut (deedM 0 3 (ks5.take 1)) W1) from deed_any 0 (by decide) 3 (by decide) _ 5 (ks5.take 1) W1 (hst1.take_ 1) (by decide))
  have H1 := Lib.hid h1
  have H2 := Lib.hid h2
  have H3 := Lib.hid h3
  have HROW := Lib.hid hrow
  have HST := Lib.hid (hst1.take_ 1)
  have HB1 := Lib.hid hb1
  have HW1 := Lib.hid hW1
  clear hW1 hb1 hst1 h1 h2 h3 hrow hj
  go_enter Tryd.func7, Tryd.ntmps7
  go_wp2_with fail
  rw [← HW1.out]
  refine HP.out.mono ?_
  rintro e w' ⟨rfl, hw⟩
  rw [hw]
  clear hw w'
  go_wp2_with fail
  refine HD.out.mono ?_
  rintro e w2 ⟨A2, c2, rfl, hown2, hb2⟩
  have HLK := Lib.hid (show Calls Tryd.prog 29 #[.int .i64 1, .slice (some ⟨w.heap.size, 0, none⟩) 1 5] w2 (ActsOut (lookM 1 (ks5.take 1)) w2) from look_any 1 _ 5 (ks5.take 1) w2 (HST.out.strs (below_mem hb2).1 (below_mem hb2).2) (by decide))
  have HO2 := Lib.hid hown2
  have HB2 := Lib.hid (below_next HB1.out hb2)
  have HST2 := Lib.hid (HST.out.strs (below_mem hb2).1 (below_mem hb2).2)
  have hdl : (deedM 0 3 (ks5.take 1)).length = 5 := by decide
  have hll : (lookM 1 (ks5.take 1)).length = 2 := by decide
  clear hown2 hb2
  go_wp2_with fail
  refine HLK.out.mono ?_
  rintro e w3 ⟨A3, c3, rfl, hown3, hb3⟩
  have hal : Below w3.heap.size w3 (w3.alloc (.cells #[.slice A2 5 c2, .slice A3 2 c3] 49)) := below_alloc (Below.refl _ _) _
  have hg := heap_alloc_new w3 (.cells #[.slice A2 5 c2, .slice A3 2 c3] 49)
  obtain ⟨W4, hW4⟩ : ∃ W4, W4 = w3.alloc (.cells #[.slice A2 5 c2, .slice A3 2 c3] 49) := ⟨_, rfl⟩
  rw [← hW4] at hal hg
  have hA2 : ActsAt W4 (· < W4.heap.size) A2 (deedM 0 3 (ks5.take 1)) := SeqAt.acts (OwnsActs.acts (Cells.Owns.kept (Cells.Owns.kept HO2.out hb3) hal) (by rw [hdl]; decide) (deed_ok (by decide) hkl)).2.2 (fun b hb => hb.2) (fun _ _ _ => rfl)
  have hA3 : ActsAt W4 (· < W4.heap.size) A3 (lookM 1 (ks5.take 1)) := SeqAt.acts (OwnsActs.acts (Cells.Owns.kept hown3 hal) (by rw [hll]; decide) (look_ok (c := 1) hkl)).2.2 (fun b hb => hb.2) (fun _ _ _ => rfl)
  have hps := parts_block (W := W4) (l := [⟨A2, c2, deedM 0 3 (ks5.take 1)⟩, ⟨A3, c3, lookM 1 (ks5.take 1)⟩]) hg (by simp) (by
    intro p hp
    simp only [List.mem_cons, List.not_mem_nil, or_false] at hp
    rcases hp with rfl | rfl
    · exact hA2
    · exact hA3)
  have hjn : joinM [⟨A2, c2, deedM 0 3 (ks5.take 1)⟩, ⟨A3, c3, lookM 1 (ks5.take 1)⟩] = scActs 1 := by simp [joinM, scActs]
  have HC := Lib.hid (concat_any (some ⟨w3.heap.size, 0, none⟩) 2 _ W4 hps (by rw [hjn, hL]; decide) (by rw [hjn, hL]; decide))
  rw [hjn] at HC
  have HW4 := Lib.hid hW4
  have HB4 := Lib.hid (below_next (below_next HB2.out hb3) hal)
  have HST4 := Lib.hid (HST2.out.strs (below_mem (below_next hb3 hal)).1 (below_mem (below_next hb3 hal)).2)
  clear hown3 hb3 hal hg hW4 hA2 hA3 hps hjn
  go_wp2_with fail
  rw [← HW4.out]
  refine HC.out.mono ?_
  rintro e w5 ⟨A5, c5, rfl, hown5, hb5⟩
  have hok5 : ∀ a ∈ scActs 1, ActOk a := by
    intro a ha
    rcases List.mem_append.1 ha with ha | ha
    · exact deed_ok (by decide) hkl a ha
    · exact look_ok (c := 1) hkl a ha
  have hA5 : ActsAt w5 (· < w5.heap.size) A5 (scActs 1) := SeqAt.acts (OwnsActs.acts hown5 (by rw [hL]; decide) hok5).2.2 (fun b hb => hb.2) (fun _ _ _ => rfl)
  have HRUN := Lib.hid (kRun_any A5 c5 (scActs 1) w5 hA5 (by rw [hL]; decide))
  have HB5 := Lib.hid (below_next HB4.out hb5)
  have HST5 := Lib.hid (HST4.out.strs (below_mem hb5).1 (below_mem hb5).2)
  clear hown5 hb5 hA5 hok5
  go_wp2_with fail
  refine HRUN.out.mono ?_
  rintro e w6 ⟨g, rfl, hans, hb6⟩
  have HANS := Lib.hid hans
  have HB6 := Lib.hid (below_next HB5.out hb6)
  have HST6 := Lib.hid (HST5.out.strs (below_mem hb6).1 (below_mem hb6).2)
  have k1 := hans.ans _ xa H1.out
  have k2 := hans.ans _ xb H2.out
  have k3 := hans.ans _ xc H3.out
  have y0 := k1.p
  have y1 := k1.c
  have y2 := k2.t
  have y3 := k3.t
  rw [a0] at y0
  rw [a1] at y1
  rw [a2] at y2
  rw [a3] at y3
  rw [hL]
  clear hans hb6 k1 k2 k3
  go_wp2
  go_loopw [77] (fun i wr => ∃ m : Nat, m ≤ 1 ∧ i = .int .i64 m ∧ Below w6.heap.size w6 wr) (fun i _ => 1 - (intOf i).toNat)
  case atStart => exact ⟨0, Nat.zero_le _, rfl, Below.refl _ _⟩
  case round =>
    obtain ⟨m, hm, rfl, hb⟩ := hrel
    have HB := Lib.hid hb
    by_cases hlt : m < 1
    · obtain ⟨xr, e1, e2, e3, e4⟩ := HROW.out m hlt
      have kr := (HANS.out.kept (hb.block _ HANS.out.lt)).ans _ xr e1
      have z0 := kr.c
      have z1 := kr.i
      have z2 := kr.v
      have z3 := kr.p
      have z4 := kr.t
      have hml : m < (ks5.take 1).length := by show m < 1; exact hlt
      obtain ⟨b, o, hA, hbb, hx⟩ := SeqAt.at_ (HST6.out.strs (below_mem hb).1 (below_mem hb).2) (getD_some (d := default) hml)
      obtain ⟨rfl, rfl⟩ : w.heap.size = b ∧ 0 = o := by injection hA with e; injection e with e1 e2; exact ⟨e1, e2⟩
      have hgd : (ks5.take 1).getD m default = ks5.getD m default := by simp [List.getD, hlt]
      rw [hgd] at hx
      obtain ⟨key, hkey⟩ : ∃ key, key = ks5.getD m default := ⟨_, rfl⟩
      rw [← hkey] at hx e4
      obtain ⟨x0, xs⟩ := hx
      rw [Nat.mul_one, Nat.zero_add] at x0
      rw [e2] at z0
      rw [e3] at z1
      rw [e4, ofS_zero] at z2
      rw [show (3 * 1 + 3 + m) * 5 = (6 + m) * 5 by omega] at z0 z1 z2 z3 z4
      have j0 : (0 : Int) ≤ (m : Int) := by omega
      have j1 : (m : Int) < 1 := by omega
      have hgl : g < wr.heap.size := (HANS.out.kept (hb.block _ HANS.out.lt)).lt
      clear hb hkey kr hA e1
      go_wp2
      go_roundw
      case rel => exact ⟨m + 1, by omega, by go_num, below_alloc HB.out _⟩
      case measure => simp [intOf]; omega
    · have hme : m = 1 := by omega
      subst hme
      clear hb
      go_wp2
      go_ret
      exact ⟨rfl, below_next HB6.out HB.out⟩
set_option maxRecDepth 100000 in
set_option maxHeartbeats 4000000 in
theorem stepsCommit_K2 (w : World) (n : Int) (hn : i64 n) (hj : pickM n 5 = 1) :
    Calls Tryd.prog 7 #[.int .i64 n] w fun e w' => e = .returned (.bool true) ∧ Below w.heap.size w w' := by
  obtain ⟨W1, hW1, hb1, hst1, hs1⟩ := ks_new w
  have HP := Lib.hid (picked_any n 5 W1 hn (by decide) (by decide))
  rw [hj] at HP
  obtain ⟨⟨xa, xb, xc, h1, h2, h3, a0, a1, a2, a3⟩, hrow⟩ := sc_parts ((sc_ok 2 (by omega)).resolve_left (by omega))
  have hL : (scActs 2).length = 11 := sc_len 2 (by omega)
  have hkl : ∀ k ∈ ks5.take 2, k.size ≤ 6 := fun k hk => ks5_size k (List.mem_of_mem_take hk)
  have HD := Lib.hid (show Calls Tryd.prog 28 #[.int .i64 0, .int .i64 5, .slice (some ⟨w.heap.size, 0, none⟩) 2 5] W1 (ActsOut (deedM 0 5 (ks5.take 2)) W1) from deed_any 0 (by decide) 5 (by decide) _ 5 (ks5.take 2) W1 (hst1.take_ 2) (by decide))
  have H1 := Lib.hid h1
  have H2 := Lib.hid h2
  have H3 := Lib.hid h3
  have HROW := Lib.hid hrow
  have HST := Lib.hid (hst1.take_ 2)
  have HB1 := Lib.hid hb1
  have HW1 := Lib.hid hW1
  clear hW1 hb1 hst1 h1 h2 h3 hrow hj
  go_enter Tryd.func7, Tryd.ntmps7
  go_wp2_with fail
  rw [← HW1.out]
  refine HP.out.mono ?_
  rintro e w' ⟨rfl, hw⟩
  rw [hw]
  clear hw w'
  go_wp2_with fail
  refine HD.out.mono ?_
  rintro e w2 ⟨A2, c2, rfl, hown2, hb2⟩
  have HLK := Lib.hid (show Calls Tryd.prog 29 #[.int .i64 1, .slice (some ⟨w.heap.size, 0, none⟩) 2 5] w2 (ActsOut (lookM 1 (ks5.take 2)) w2) from look_any 1 _ 5 (ks5.take 2) w2 (HST.out.strs (below_mem hb2).1 (below_mem hb2).2) (by decide))
  have HO2 := Lib.hid hown2
  have HB2 := Lib.hid (below_next HB1.out hb2)
  have HST2 := Lib.hid (HST.out.strs (below_mem hb2).1 (below_mem hb2).2)
  have hdl : (deedM 0 5 (ks5.take 2)).length = 8 := by decide
  have hll : (lookM 1 (ks5.take 2)).length = 3 := by decide
  clear hown2 hb2
  go_wp2_with fail
  refine HLK.out.mono ?_
  rintro e w3 ⟨A3, c3, rfl, hown3, hb3⟩
  have hal : Below w3.heap.size w3 (w3.alloc (.cells #[.slice A2 8 c2, .slice A3 3 c3] 49)) := below_alloc (Below.refl _ _) _
  have hg := heap_alloc_new w3 (.cells #[.slice A2 8 c2, .slice A3 3 c3] 49)
  obtain ⟨W4, hW4⟩ : ∃ W4, W4 = w3.alloc (.cells #[.slice A2 8 c2, .slice A3 3 c3] 49) := ⟨_, rfl⟩
  rw [← hW4] at hal hg
  have hA2 : ActsAt W4 (· < W4.heap.size) A2 (deedM 0 5 (ks5.take 2)) := SeqAt.acts (OwnsActs.acts (Cells.Owns.kept (Cells.Owns.kept HO2.out hb3) hal) (by rw [hdl]; decide) (deed_ok (by decide) hkl)).2.2 (fun b hb => hb.2) (fun _ _ _ => rfl)
  have hA3 : ActsAt W4 (· < W4.heap.size) A3 (lookM 1 (ks5.take 2)) := SeqAt.acts (OwnsActs.acts (Cells.Owns.kept hown3 hal) (by rw [hll]; decide) (look_ok (c := 1) hkl)).2.2 (fun b hb => hb.2) (fun _ _ _ => rfl)
  have hps := parts_block (W := W4) (l := [⟨A2, c2, deedM 0 5 (ks5.take 2)⟩, ⟨A3, c3, lookM 1 (ks5.take 2)⟩]) hg (by simp) (by
    intro p hp
    simp only [List.mem_cons, List.not_mem_nil, or_false] at hp
    rcases hp with rfl | rfl
    · exact hA2
    · exact hA3)
  have hjn : joinM [⟨A2, c2, deedM 0 5 (ks5.take 2)⟩, ⟨A3, c3, lookM 1 (ks5.take 2)⟩] = scActs 2 := by simp [joinM, scActs]
  have HC := Lib.hid (concat_any (some ⟨w3.heap.size, 0, none⟩) 2 _ W4 hps (by rw [hjn, hL]; decide) (by rw [hjn, hL]; decide))
  rw [hjn] at HC
  have HW4 := Lib.hid hW4
  have HB4 := Lib.hid (below_next (below_next HB2.out hb3) hal)
  have HST4 := Lib.hid (HST2.out.strs (below_mem (below_next hb3 hal)).1 (below_mem (below_next hb3 hal)).2)
  clear hown3 hb3 hal hg hW4 hA2 hA3 hps hjn
  go_wp2_with fail
  rw [← HW4.out]
  refine HC.out.mono ?_
  rintro e w5 ⟨A5, c5, rfl, hown5, hb5⟩
  have hok5 : ∀ a ∈ scActs 2, ActOk a := by
    intro a ha
    rcases List.mem_append.1 ha with ha | ha
    · exact deed_ok (by decide) hkl a ha
    · exact look_ok (c := 1) hkl a ha
  have hA5 : ActsAt w5 (· < w5.heap.size) A5 (scActs 2) := SeqAt.acts (OwnsActs.acts hown5 (by rw [hL]; decide) hok5).2.2 (fun b hb => hb.2) (fun _ _ _ => rfl)
  have HRUN := Lib.hid (kRun_any A5 c5 (scActs 2) w5 hA5 (by rw [hL]; decide))
  have HB5 := Lib.hid (below_next HB4.out hb5)
  have HST5 := Lib.hid (HST4.out.strs (below_mem hb5).1 (below_mem hb5).2)
  clear hown5 hb5 hA5 hok5
  go_wp2_with fail
  refine HRUN.out.mono ?_
  rintro e w6 ⟨g, rfl, hans, hb6⟩
  have HANS := Lib.hid hans
  have HB6 := Lib.hid (below_next HB5.out hb6)
  have HST6 := Lib.hid (HST5.out.strs (below_mem hb6).1 (below_mem hb6).2)
  have k1 := hans.ans _ xa H1.out
  have k2 := hans.ans _ xb H2.out
  have k3 := hans.ans _ xc H3.out
  have y0 := k1.p
  have y1 := k1.c
  have y2 := k2.t
  have y3 := k3.t
  rw [a0] at y0
  rw [a1] at y1
  rw [a2] at y2
  rw [a3] at y3
  rw [hL]
  clear hans hb6 k1 k2 k3
  go_wp2
  go_loopw [77] (fun i wr => ∃ m : Nat, m ≤ 2 ∧ i = .int .i64 m ∧ Below w6.heap.size w6 wr) (fun i _ => 2 - (intOf i).toNat)
  case atStart => exact ⟨0, Nat.zero_le _, rfl, Below.refl _ _⟩
  case round =>
    obtain ⟨m, hm, rfl, hb⟩ := hrel
    have HB := Lib.hid hb
    by_cases hlt : m < 2
    · obtain ⟨xr, e1, e2, e3, e4⟩ := HROW.out m hlt
      have kr := (HANS.out.kept (hb.block _ HANS.out.lt)).ans _ xr e1
      have z0 := kr.c
      have z1 := kr.i
      have z2 := kr.v
      have z3 := kr.p
      have z4 := kr.t
      have hml : m < (ks5.take 2).length := by show m < 2; exact hlt
      obtain ⟨b, o, hA, hbb, hx⟩ := SeqAt.at_ (HST6.out.strs (below_mem hb).1 (below_mem hb).2) (getD_some (d := default) hml)
      obtain ⟨rfl, rfl⟩ : w.heap.size = b ∧ 0 = o := by injection hA with e; injection e with e1 e2; exact ⟨e1, e2⟩
      have hgd : (ks5.take 2).getD m default = ks5.getD m default := by simp [List.getD, hlt]
      rw [hgd] at hx
      obtain ⟨key, hkey⟩ : ∃ key, key = ks5.getD m default := ⟨_, rfl⟩
      rw [← hkey] at hx e4
      obtain ⟨x0, xs⟩ := hx
      rw [Nat.mul_one, Nat.zero_add] at x0
      rw [e2] at z0
      rw [e3] at z1
      rw [e4, ofS_zero] at z2
      rw [show (3 * 2 + 3 + m) * 5 = (9 + m) * 5 by omega] at z0 z1 z2 z3 z4
      have j0 : (0 : Int) ≤ (m : Int) := by omega
      have j1 : (m : Int) < 2 := by omega
      have hgl : g < wr.heap.size := (HANS.out.kept (hb.block _ HANS.out.lt)).lt
      clear hb hkey kr hA e1
      go_wp2
      go_roundw
      case rel => exact ⟨m + 1, by omega, by go_num, below_alloc HB.out _⟩
      case measure => simp [intOf]; omega
    · have hme : m = 2 := by omega
      subst hme
      clear hb
      go_wp2
      go_ret
      exact ⟨rfl, below_next HB6.out HB.out⟩
set_option maxRecDepth 100000 in
set_option maxHeartbeats 4000000 in
theorem stepsCommit_K3 (w : World) (n : Int) (hn : i64 n) (hj : pickM n 5 = 2) :
    Calls Tryd.prog 7 #[.int .i64 n] w fun e w' => e = .returned (.bool true) ∧ Below w.heap.size w w' := by
  obtain ⟨W1, hW1, hb1, hst1, hs1⟩ := ks_new w
  have HP := Lib.hid (picked_any n 5 W1 hn (by decide) (by decide))
  rw [hj] at HP
  obtain ⟨⟨xa, xb, xc, h1, h2, h3, a0, a1, a2, a3⟩, hrow⟩ := sc_parts ((sc_ok 3 (by omega)).resolve_left (by omega))
  have hL : (scActs 3).length = 15 := sc_len 3 (by omega)
  have hkl : ∀ k ∈ ks5.take 3, k.size ≤ 6 := fun k hk => ks5_size k (List.mem_of_mem_take hk)
  have HD := Lib.hid (show Calls Tryd.prog 28 #[.int .i64 0, .int .i64 7, .slice (some ⟨w.heap.size, 0, none⟩) 3 5] W1 (ActsOut (deedM 0 7 (ks5.take 3)) W1) from deed_any 0 (by decide) 7 (by decide) _ 5 (ks5.take 3) W1 (hst1.take_ 3) (by decide))
  have H1 := Lib.hid h1
  have H2 := Lib.hid h2
  have H3 := Lib.hid h3
  have HROW := Lib.hid hrow
  have HST := Lib.hid (hst1.take_ 3)
  have HB1 := Lib.hid hb1
  have HW1 := Lib.hid hW1
  clear hW1 hb1 hst1 h1 h2 h3 hrow hj
  go_enter Tryd.func7, Tryd.ntmps7
  go_wp2_with fail
  rw [← HW1.out]
  refine HP.out.mono ?_
  rintro e w' ⟨rfl, hw⟩
  rw [hw]
  clear hw w'
  go_wp2_with fail
  refine HD.out.mono ?_
  rintro e w2 ⟨A2, c2, rfl, hown2, hb2⟩
  have HLK := Lib.hid (show Calls Tryd.prog 29 #[.int .i64 1, .slice (some ⟨w.heap.size, 0, none⟩) 3 5] w2 (ActsOut (lookM 1 (ks5.take 3)) w2) from look_any 1 _ 5 (ks5.take 3) w2 (HST.out.strs (below_mem hb2).1 (below_mem hb2).2) (by decide))
  have HO2 := Lib.hid hown2
  have HB2 := Lib.hid (below_next HB1.out hb2)
  have HST2 := Lib.hid (HST.out.strs (below_mem hb2).1 (below_mem hb2).2)
  have hdl : (deedM 0 7 (ks5.take 3)).length = 11 := by decide
  have hll : (lookM 1 (ks5.take 3)).length = 4 := by decide
  clear hown2 hb2
  go_wp2_with fail
  refine HLK.out.mono ?_
  rintro e w3 ⟨A3, c3, rfl, hown3, hb3⟩
  have hal : Below w3.heap.size w3 (w3.alloc (.cells #[.slice A2 11 c2, .slice A3 4 c3] 49)) := below_alloc (Below.refl _ _) _
  have hg := heap_alloc_new w3 (.cells #[.slice A2 11 c2, .slice A3 4 c3] 49)
  obtain ⟨W4, hW4⟩ : ∃ W4, W4 = w3.alloc (.cells #[.slice A2 11 c2, .slice A3 4 c3] 49) := ⟨_, rfl⟩
  rw [← hW4] at hal hg
  have hA2 : ActsAt W4 (· < W4.heap.size) A2 (deedM 0 7 (ks5.take 3)) := SeqAt.acts (OwnsActs.acts (Cells.Owns.kept (Cells.Owns.kept HO2.out hb3) hal) (by rw [hdl]; decide) (deed_ok (by decide) hkl)).2.2 (fun b hb => hb.2) (fun _ _ _ => rfl)
  have hA3 : ActsAt W4 (· < W4.heap.size) A3 (lookM 1 (ks5.take 3)) := SeqAt.acts (OwnsActs.acts (Cells.Owns.kept hown3 hal) (by rw [hll]; decide) (look_ok (c := 1) hkl)).2.2 (fun b hb => hb.2) (fun _ _ _ => rfl)
  have hps := parts_block (W := W4) (l := [⟨A2, c2, deedM 0 7 (ks5.take 3)⟩, ⟨A3, c3, lookM 1 (ks5.take 3)⟩]) hg (by simp) (by
    intro p hp
    simp only [List.mem_cons, List.not_mem_nil, or_false] at hp
    rcases hp with rfl | rfl
    · exact hA2
    · exact hA3)
  have hjn : joinM [⟨A2, c2, deedM 0 7 (ks5.take 3)⟩, ⟨A3, c3, lookM 1 (ks5.take 3)⟩] = scActs 3 := by simp [joinM, scActs]
  have HC := Lib.hid (concat_any (some ⟨w3.heap.size, 0, none⟩) 2 _ W4 hps (by rw [hjn, hL]; decide) (by rw [hjn, hL]; decide))
  rw [hjn] at HC
  have HW4 := Lib.hid hW4
  have HB4 := Lib.hid (below_next (below_next HB2.out hb3) hal)
  have HST4 := Lib.hid (HST2.out.strs (below_mem (below_next hb3 hal)).1 (below_mem (below_next hb3 hal)).2)
  clear hown3 hb3 hal hg hW4 hA2 hA3 hps hjn
  go_wp2_with fail
  rw [← HW4.out]
  refine HC.out.mono ?_
  rintro e w5 ⟨A5, c5, rfl, hown5, hb5⟩
  have hok5 : ∀ a ∈ scActs 3, ActOk a := by
    intro a ha
    rcases List.mem_append.1 ha with ha | ha
    · exact deed_ok (by decide) hkl a ha
    · exact look_ok (c := 1) hkl a ha
  have hA5 : ActsAt w5 (· < w5.heap.size) A5 (scActs 3) := SeqAt.acts (OwnsActs.acts hown5 (by rw [hL]; decide) hok5).2.2 (fun b hb => hb.2) (fun _ _ _ => rfl)
  have HRUN := Lib.hid (kRun_any A5 c5 (scActs 3) w5 hA5 (by rw [hL]; decide))
  have HB5 := Lib.hid (below_next HB4.out hb5)
  have HST5 := Lib.hid (HST4.out.strs (below_mem hb5).1 (below_mem hb5).2)
  clear hown5 hb5 hA5 hok5
  go_wp2_with fail
  refine HRUN.out.mono ?_
  rintro e w6 ⟨g, rfl, hans, hb6⟩
  have HANS := Lib.hid hans
  have HB6 := Lib.hid (below_next HB5.out hb6)
  have HST6 := Lib.hid (HST5.out.strs (below_mem hb6).1 (below_mem hb6).2)
  have k1 := hans.ans _ xa H1.out
  have k2 := hans.ans _ xb H2.out
  have k3 := hans.ans _ xc H3.out
  have y0 := k1.p
  have y1 := k1.c
  have y2 := k2.t
  have y3 := k3.t
  rw [a0] at y0
  rw [a1] at y1
  rw [a2] at y2
  rw [a3] at y3
  rw [hL]
  clear hans hb6 k1 k2 k3
  go_wp2
  go_loopw [77] (fun i wr => ∃ m : Nat, m ≤ 3 ∧ i = .int .i64 m ∧ Below w6.heap.size w6 wr) (fun i _ => 3 - (intOf i).toNat)
  case atStart => exact ⟨0, Nat.zero_le _, rfl, Below.refl _ _⟩
  case round =>
    obtain ⟨m, hm, rfl, hb⟩ := hrel
    have HB := Lib.hid hb
    by_cases hlt : m < 3
    · obtain ⟨xr, e1, e2, e3, e4⟩ := HROW.out m hlt
      have kr := (HANS.out.kept (hb.block _ HANS.out.lt)).ans _ xr e1
      have z0 := kr.c
      have z1 := kr.i
      have z2 := kr.v
      have z3 := kr.p
      have z4 := kr.t
      have hml : m < (ks5.take 3).length := by show m < 3; exact hlt
      obtain ⟨b, o, hA, hbb, hx⟩ := SeqAt.at_ (HST6.out.strs (below_mem hb).1 (below_mem hb).2) (getD_some (d := default) hml)
      obtain ⟨rfl, rfl⟩ : w.heap.size = b ∧ 0 = o := by injection hA with e; injection e with e1 e2; exact ⟨e1, e2⟩
      have hgd : (ks5.take 3).getD m default = ks5.getD m default := by simp [List.getD, hlt]
      rw [hgd] at hx
      obtain ⟨key, hkey⟩ : ∃ key, key = ks5.getD m default := ⟨_, rfl⟩
      rw [← hkey] at hx e4
      obtain ⟨x0, xs⟩ := hx
      rw [Nat.mul_one, Nat.zero_add] at x0
      rw [e2] at z0
      rw [e3] at z1
      rw [e4, ofS_zero] at z2
      rw [show (3 * 3 + 3 + m) * 5 = (12 + m) * 5 by omega] at z0 z1 z2 z3 z4
      have j0 : (0 : Int) ≤ (m : Int) := by omega
      have j1 : (m : Int) < 3 := by omega
      have hgl : g < wr.heap.size := (HANS.out.kept (hb.block _ HANS.out.lt)).lt
      clear hb hkey kr hA e1
      go_wp2
      go_roundw
      case rel => exact ⟨m + 1, by omega, by go_num, below_alloc HB.out _⟩
      case measure => simp [intOf]; omega
    · have hme : m = 3 := by omega
      subst hme
      clear hb
      go_wp2
      go_ret
      exact ⟨rfl, below_next HB6.out HB.out⟩
set_option maxRecDepth 100000 in
set_option maxHeartbeats 4000000 in
theorem stepsCommit_K4 (w : World) (n : Int) (hn : i64 n) (hj : pickM n 5 = 3) :
    Calls Tryd.prog 7 #[.int .i64 n] w fun e w' => e = .returned (.bool true) ∧ Below w.heap.size w w' := by
  obtain ⟨W1, hW1, hb1, hst1, hs1⟩ := ks_new w
  have HP := Lib.hid (picked_any n 5 W1 hn (by decide) (by decide))
  rw [hj] at HP
  obtain ⟨⟨xa, xb, xc, h1, h2, h3, a0, a1, a2, a3⟩, hrow⟩ := sc_parts ((sc_ok 4 (by omega)).resolve_left (by omega))
  have hL : (scActs 4).length = 19 := sc_len 4 (by omega)
  have hkl : ∀ k ∈ ks5.take 4, k.size ≤ 6 := fun k hk => ks5_size k (List.mem_of_mem_take hk)
  have HD := Lib.hid (show Calls Tryd.prog 28 #[.int .i64 0, .int .i64 9, .slice (some ⟨w.heap.size, 0, none⟩) 4 5] W1 (ActsOut (deedM 0 9 (ks5.take 4)) W1) from deed_any 0 (by decide) 9 (by decide) _ 5 (ks5.take 4) W1 (hst1.take_ 4) (by decide))
  have H1 := Lib.hid h1
  have H2 := Lib.hid h2
  have H3 := Lib.hid h3
  have HROW := Lib.hid hrow
  have HST := Lib.hid (hst1.take_ 4)
  have HB1 := Lib.hid hb1
  have HW1 := Lib.hid hW1
  clear hW1 hb1 hst1 h1 h2 h3 hrow hj
  go_enter Tryd.func7, Tryd.ntmps7
  go_wp2_with fail
  rw [← HW1.out]
  refine HP.out.mono ?_
  rintro e w' ⟨rfl, hw⟩
  rw [hw]
  clear hw w'
  go_wp2_with fail
  refine HD.out.mono ?_
  rintro e w2 ⟨A2, c2, rfl, hown2, hb2⟩
  have HLK := Lib.hid (show Calls Tryd.prog 29 #[.int .i64 1, .slice (some ⟨w.heap.size, 0, none⟩) 4 5] w2 (ActsOut (lookM 1 (ks5.take 4)) w2) from look_any 1 _ 5 (ks5.take 4) w2 (HST.out.strs (below_mem hb2).1 (below_mem hb2).2) (by decide))
  have HO2 := Lib.hid hown2
  have HB2 := Lib.hid (below_next HB1.out hb2)
  have HST2 := Lib.hid (HST.out.strs (below_mem hb2).1 (below_mem hb2).2)
  have hdl : (deedM 0 9 (ks5.take 4)).length = 14 := by decide
  have hll : (lookM 1 (ks5.take 4)).length = 5 := by decide
  clear hown2 hb2
  go_wp2_with fail
  refine HLK.out.mono ?_
  rintro e w3 ⟨A3, c3, rfl, hown3, hb3⟩
  have hal : Below w3.heap.size w3 (w3.alloc (.cells #[.slice A2 14 c2, .slice A3 5 c3] 49)) := below_alloc (Below.refl _ _) _
  have hg := heap_alloc_new w3 (.cells #[.slice A2 14 c2, .slice A3 5 c3] 49)
  obtain ⟨W4, hW4⟩ : ∃ W4, W4 = w3.alloc (.cells #[.slice A2 14 c2, .slice A3 5 c3] 49) := ⟨_, rfl⟩
  rw [← hW4] at hal hg
  have hA2 : ActsAt W4 (· < W4.heap.size) A2 (deedM 0 9 (ks5.take 4)) := SeqAt.acts (OwnsActs.acts (Cells.Owns.kept (Cells.Owns.kept HO2.out hb3) hal) (by rw [hdl]; decide) (deed_ok (by decide) hkl)).2.2 (fun b hb => hb.2) (fun _ _ _ => rfl)
  have hA3 : ActsAt W4 (· < W4.heap.size) A3 (lookM 1 (ks5.take 4)) := SeqAt.acts (OwnsActs.acts (Cells.Owns.kept hown3 hal) (by rw [hll]; decide) (look_ok (c := 1) hkl)).2.2 (fun b hb => hb.2) (fun _ _ _ => rfl)
  have hps := parts_block (W := W4) (l := [⟨A2, c2, deedM 0 9 (ks5.take 4)⟩, ⟨A3, c3, lookM 1 (ks5.take 4)⟩]) hg (by simp) (by
    intro p hp
    simp only [List.mem_cons, List.not_mem_nil, or_false] at hp
    rcases hp with rfl | rfl
    · exact hA2
    · exact hA3)
  have hjn : joinM [⟨A2, c2, deedM 0 9 (ks5.take 4)⟩, ⟨A3, c3, lookM 1 (ks5.take 4)⟩] = scActs 4 := by simp [joinM, scActs]
  have HC := Lib.hid (concat_any (some ⟨w3.heap.size, 0, none⟩) 2 _ W4 hps (by rw [hjn, hL]; decide) (by rw [hjn, hL]; decide))
  rw [hjn] at HC
  have HW4 := Lib.hid hW4
  have HB4 := Lib.hid (below_next (below_next HB2.out hb3) hal)
  have HST4 := Lib.hid (HST2.out.strs (below_mem (below_next hb3 hal)).1 (below_mem (below_next hb3 hal)).2)
  clear hown3 hb3 hal hg hW4 hA2 hA3 hps hjn
  go_wp2_with fail
  rw [← HW4.out]
  refine HC.out.mono ?_
  rintro e w5 ⟨A5, c5, rfl, hown5, hb5⟩
  have hok5 : ∀ a ∈ scActs 4, ActOk a := by
    intro a ha
    rcases List.mem_append.1 ha with ha | ha
    · exact deed_ok (by decide) hkl a ha
    · exact look_ok (c := 1) hkl a ha
  have hA5 : ActsAt w5 (· < w5.heap.size) A5 (scActs 4) := SeqAt.acts (OwnsActs.acts hown5 (by rw [hL]; decide) hok5).2.2 (fun b hb => hb.2) (fun _ _ _ => rfl)
  have HRUN := Lib.hid (kRun_any A5 c5 (scActs 4) w5 hA5 (by rw [hL]; decide))
  have HB5 := Lib.hid (below_next HB4.out hb5)
  have HST5 := Lib.hid (HST4.out.strs (below_mem hb5).1 (below_mem hb5).2)
  clear hown5 hb5 hA5 hok5
  go_wp2_with fail
  refine HRUN.out.mono ?_
  rintro e w6 ⟨g, rfl, hans, hb6⟩
  have HANS := Lib.hid hans
  have HB6 := Lib.hid (below_next HB5.out hb6)
  have HST6 := Lib.hid (HST5.out.strs (below_mem hb6).1 (below_mem hb6).2)
  have k1 := hans.ans _ xa H1.out
  have k2 := hans.ans _ xb H2.out
  have k3 := hans.ans _ xc H3.out
  have y0 := k1.p
  have y1 := k1.c
  have y2 := k2.t
  have y3 := k3.t
  rw [a0] at y0
  rw [a1] at y1
  rw [a2] at y2
  rw [a3] at y3
  rw [hL]
  clear hans hb6 k1 k2 k3
  go_wp2
  go_loopw [77] (fun i wr => ∃ m : Nat, m ≤ 4 ∧ i = .int .i64 m ∧ Below w6.heap.size w6 wr) (fun i _ => 4 - (intOf i).toNat)
  case atStart => exact ⟨0, Nat.zero_le _, rfl, Below.refl _ _⟩
  case round =>
    obtain ⟨m, hm, rfl, hb⟩ := hrel
    have HB := Lib.hid hb
    by_cases hlt : m < 4
    · obtain ⟨xr, e1, e2, e3, e4⟩ := HROW.out m hlt
      have kr := (HANS.out.kept (hb.block _ HANS.out.lt)).ans _ xr e1
      have z0 := kr.c
      have z1 := kr.i
      have z2 := kr.v
      have z3 := kr.p
      have z4 := kr.t
      have hml : m < (ks5.take 4).length := by show m < 4; exact hlt
      obtain ⟨b, o, hA, hbb, hx⟩ := SeqAt.at_ (HST6.out.strs (below_mem hb).1 (below_mem hb).2) (getD_some (d := default) hml)
      obtain ⟨rfl, rfl⟩ : w.heap.size = b ∧ 0 = o := by injection hA with e; injection e with e1 e2; exact ⟨e1, e2⟩
      have hgd : (ks5.take 4).getD m default = ks5.getD m default := by simp [List.getD, hlt]
      rw [hgd] at hx
      obtain ⟨key, hkey⟩ : ∃ key, key = ks5.getD m default := ⟨_, rfl⟩
      rw [← hkey] at hx e4
      obtain ⟨x0, xs⟩ := hx
      rw [Nat.mul_one, Nat.zero_add] at x0
      rw [e2] at z0
      rw [e3] at z1
      rw [e4, ofS_zero] at z2
      rw [show (3 * 4 + 3 + m) * 5 = (15 + m) * 5 by omega] at z0 z1 z2 z3 z4
      have j0 : (0 : Int) ≤ (m : Int) := by omega
      have j1 : (m : Int) < 4 := by omega
      have hgl : g < wr.heap.size := (HANS.out.kept (hb.block _ HANS.out.lt)).lt
      clear hb hkey kr hA e1
      go_wp2
      go_roundw
      case rel => exact ⟨m + 1, by omega, by go_num, below_alloc HB.out _⟩
      case measure => simp [intOf]; omega
    · have hme : m = 4 := by omega
      subst hme
      clear hb
      go_wp2
      go_ret
      exact ⟨rfl, below_next HB6.out HB.out⟩
set_option maxRecDepth 100000 in
set_option maxHeartbeats 4000000 in
theorem stepsCommit_K5 (w : World) (n : Int) (hn : i64 n) (hj : pickM n 5 = 4) :
    Calls Tryd.prog 7 #[.int .i64 n] w fun e w' => e = .returned (.bool true) ∧ Below w.heap.size w w' := by
  obtain ⟨W1, hW1, hb1, hst1, hs1⟩ := ks_new w
  have HP := Lib.hid (picked_any n 5 W1 hn (by decide) (by decide))
  rw [hj] at HP
  obtain ⟨⟨xa, xb, xc, h1, h2, h3, a0, a1, a2, a3⟩, hrow⟩ := sc_parts ((sc_ok 5 (by omega)).resolve_left (by omega))
  have hL : (scActs 5).length = 23 := sc_len 5 (by omega)
  have hkl : ∀ k ∈ ks5.take 5, k.size ≤ 6 := fun k hk => ks5_size k (List.mem_of_mem_take hk)
  have HD := Lib.hid (show Calls Tryd.prog 28 #[.int .i64 0, .int .i64 11, .slice (some ⟨w.heap.size, 0, none⟩) 5 5] W1 (ActsOut (deedM 0 11 (ks5.take 5)) W1) from deed_any 0 (by decide) 11 (by decide) _ 5 (ks5.take 5) W1 (hst1.take_ 5) (by decide))
  have H1 := Lib.hid h1
  have H2 := Lib.hid h2
  have H3 := Lib.hid h3
  have HROW := Lib.hid hrow
  have HST := Lib.hid (hst1.take_ 5)
  have HB1 := Lib.hid hb1
  have HW1 := Lib.hid hW1
  clear hW1 hb1 hst1 h1 h2 h3 hrow hj
  go_enter Tryd.func7, Tryd.ntmps7
  go_wp2_with fail
  rw [← HW1.out]
  refine HP.out.mono ?_
  rintro e w' ⟨rfl, hw⟩
  rw [hw]
  clear hw w'
  go_wp2_with fail
  refine HD.out.mono ?_
  rintro e w2 ⟨A2, c2, rfl, hown2, hb2⟩
  have HLK := Lib.hid (show Calls Tryd.prog 29 #[.int .i64 1, .slice (some ⟨w.heap.size, 0, none⟩) 5 5] w2 (ActsOut (lookM 1 (ks5.take 5)) w2) from look_any 1 _ 5 (ks5.take 5) w2 (HST.out.strs (below_mem hb2).1 (below_mem hb2).2) (by decide))
  have HO2 := Lib.hid hown2
  have HB2 := Lib.hid (below_next HB1.out hb2)
  have HST2 := Lib.hid (HST.out.strs (below_mem hb2).1 (below_mem hb2).2)
  have hdl : (deedM 0 11 (ks5.take 5)).length = 17 := by decide
  have hll : (lookM 1 (ks5.take 5)).length = 6 := by decide
  clear hown2 hb2
  go_wp2_with fail
  refine HLK.out.mono ?_
  rintro e w3 ⟨A3, c3, rfl, hown3, hb3⟩
  have hal : Below w3.heap.size w3 (w3.alloc (.cells #[.slice A2 17 c2, .slice A3 6 c3] 49)) := below_alloc (Below.refl _ _) _
  have hg := heap_alloc_new w3 (.cells #[.slice A2 17 c2, .slice A3 6 c3] 49)
  obtain ⟨W4, hW4⟩ : ∃ W4, W4 = w3.alloc (.cells #[.slice A2 17 c2, .slice A3 6 c3] 49) := ⟨_, rfl⟩
  rw [← hW4] at hal hg
  have hA2 : ActsAt W4 (· < W4.heap.size) A2 (deedM 0 11 (ks5.take 5)) := SeqAt.acts (OwnsActs.acts (Cells.Owns.kept (Cells.Owns.kept HO2.out hb3) hal) (by rw [hdl]; decide) (deed_ok (by decide) hkl)).2.2 (fun b hb => hb.2) (fun _ _ _ => rfl)
  have hA3 : ActsAt W4 (· < W4.heap.size) A3 (lookM 1 (ks5.take 5)) := SeqAt.acts (OwnsActs.acts (Cells.Owns.kept hown3 hal) (by rw [hll]; decide) (look_ok (c := 1) hkl)).2.2 (fun b hb => hb.2) (fun _ _ _ => rfl)
  have hps := parts_block (W := W4) (l := [⟨A2, c2, deedM 0 11 (ks5.take 5)⟩, ⟨A3, c3, lookM 1 (ks5.take 5)⟩]) hg (by simp) (by
    intro p hp
    simp only [List.mem_cons, List.not_mem_nil, or_false] at hp
    rcases hp with rfl | rfl
    · exact hA2
    · exact hA3)
  have hjn : joinM [⟨A2, c2, deedM 0 11 (ks5.take 5)⟩, ⟨A3, c3, lookM 1 (ks5.take 5)⟩] = scActs 5 := by simp [joinM, scActs]
  have HC := Lib.hid (concat_any (some ⟨w3.heap.size, 0, none⟩) 2 _ W4 hps (by rw [hjn, hL]; decide) (by rw [hjn, hL]; decide))
  rw [hjn] at HC
  have HW4 := Lib.hid hW4
  have HB4 := Lib.hid (below_next (below_next HB2.out hb3) hal)
  have HST4 := Lib.hid (HST2.out.strs (below_mem (below_next hb3 hal)).1 (below_mem (below_next hb3 hal)).2)
  clear hown3 hb3 hal hg hW4 hA2 hA3 hps hjn
  go_wp2_with fail
  rw [← HW4.out]
  refine HC.out.mono ?_
  rintro e w5 ⟨A5, c5, rfl, hown5, hb5⟩
  have hok5 : ∀ a ∈ scActs 5, ActOk a := by
    intro a ha
    rcases List.mem_append.1 ha with ha | ha
    · exact deed_ok (by decide) hkl a ha
    · exact look_ok (c := 1) hkl a ha
  have hA5 : ActsAt w5 (· < w5.heap.size) A5 (scActs 5) := SeqAt.acts (OwnsActs.acts hown5 (by rw [hL]; decide) hok5).2.2 (fun b hb => hb.2) (fun _ _ _ => rfl)
  have HRUN := Lib.hid (kRun_any A5 c5 (scActs 5) w5 hA5 (by rw [hL]; decide))
  have HB5 := Lib.hid (below_next HB4.out hb5)
  have HST5 := Lib.hid (HST4.out.strs (below_mem hb5).1 (below_mem hb5).2)
  clear hown5 hb5 hA5 hok5
  go_wp2_with fail
  refine HRUN.out.mono ?_
  rintro e w6 ⟨g, rfl, hans, hb6⟩
  have HANS := Lib.hid hans
  have HB6 := Lib.hid (below_next HB5.out hb6)
  have HST6 := Lib.hid (HST5.out.strs (below_mem hb6).1 (below_mem hb6).2)
  have k1 := hans.ans _ xa H1.out
  have k2 := hans.ans _ xb H2.out
  have k3 := hans.ans _ xc H3.out
  have y0 := k1.p
  have y1 := k1.c
  have y2 := k2.t
  have y3 := k3.t
  rw [a0] at y0
  rw [a1] at y1
  rw [a2] at y2
  rw [a3] at y3
  rw [hL]
  clear hans hb6 k1 k2 k3
  go_wp2
  go_loopw [77] (fun i wr => ∃ m : Nat, m ≤ 5 ∧ i = .int .i64 m ∧ Below w6.heap.size w6 wr) (fun i _ => 5 - (intOf i).toNat)
  case atStart => exact ⟨0, Nat.zero_le _, rfl, Below.refl _ _⟩
  case round =>
    obtain ⟨m, hm, rfl, hb⟩ := hrel
    have HB := Lib.hid hb
    by_cases hlt : m < 5
    · obtain ⟨xr, e1, e2, e3, e4⟩ := HROW.out m hlt
      have kr := (HANS.out.kept (hb.block _ HANS.out.lt)).ans _ xr e1
      have z0 := kr.c
      have z1 := kr.i
      have z2 := kr.v
      have z3 := kr.p
      have z4 := kr.t
      have hml : m < (ks5.take 5).length := by show m < 5; exact hlt
      obtain ⟨b, o, hA, hbb, hx⟩ := SeqAt.at_ (HST6.out.strs (below_mem hb).1 (below_mem hb).2) (getD_some (d := default) hml)
      obtain ⟨rfl, rfl⟩ : w.heap.size = b ∧ 0 = o := by injection hA with e; injection e with e1 e2; exact ⟨e1, e2⟩
      have hgd : (ks5.take 5).getD m default = ks5.getD m default := by simp [List.getD, hlt]
      rw [hgd] at hx
      obtain ⟨key, hkey⟩ : ∃ key, key = ks5.getD m default := ⟨_, rfl⟩
      rw [← hkey] at hx e4
      obtain ⟨x0, xs⟩ := hx
      rw [Nat.mul_one, Nat.zero_add] at x0
      rw [e2] at z0
      rw [e3] at z1
      rw [e4, ofS_zero] at z2
      rw [show (3 * 5 + 3 + m) * 5 = (18 + m) * 5 by omega] at z0 z1 z2 z3 z4
      have j0 : (0 : Int) ≤ (m : Int) := by omega
      have j1 : (m : Int) < 5 := by omega
      have hgl : g < wr.heap.size := (HANS.out.kept (hb.block _ HANS.out.lt)).lt
      clear hb hkey kr hA e1
      go_wp2
      go_roundw
      case rel => exact ⟨m + 1, by omega, by go_num, below_alloc HB.out _⟩
      case measure => simp [intOf]; omega
    · have hme : m = 5 := by omega
      subst hme
      clear hb
      go_wp2
      go_ret
      exact ⟨rfl, below_next HB6.out HB.out⟩
theorem stepsCommit_walk (w : World) (n : Int) (hn : i64 n) :
    Calls Tryd.prog 7 #[.int .i64 n] w fun e w' => e = .returned (.bool true) ∧ Below w.heap.size w w' := by
  obtain ⟨p0, p1⟩ := pick_bd n (show (0 : Int) < 5 by decide)
  have h : pickM n 5 = 0 ∨ pickM n 5 = 1 ∨ pickM n 5 = 2 ∨ pickM n 5 = 3 ∨ pickM n 5 = 4 := by omega
  rcases h with h | h | h | h | h
  · exact stepsCommit_K1 w n hn h
  · exact stepsCommit_K2 w n hn h
  · exact stepsCommit_K3 w n hn h
  · exact stepsCommit_K4 w n hn h
  · exact stepsCommit_K5 w n hn h
end Go.Proofs.YtambkjnhfejfaabDoor
