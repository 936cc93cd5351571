/-
  The walk of rickyardkeep.SecondLate: it returns true and turns no old memory. Conditions: none.
-/
import Derived.Test.YtambkjnhfejfaabDoorG30
namespace Go.Proofs.YtambkjnhfejfaabDoor
open Go.RowKit

/-- The acts of the script. -/
def slActs (key : ByteArray) : List ActM := [actB 1 1, ⟨3, 1, key, ⟨#[]⟩⟩] ++ deedM 0 1 [key] ++ [actB 4 1, actB 4 0, actB 4 0, actB 4 1]
def slOk (key : ByteArray) : Bool :=
  match (runAns (startW 3) (slActs key))[5]?, (runAns (startW 3) (slActs key))[7]?, (runAns (startW 3) (slActs key))[8]? with
  | some a, some b, some c => a.code == 7 && a.ph == 2 && b.ph == 0 && b.code == 0 && c.code == 8 && c.ph == 0
  | _, _, _ => false
theorem sl_ok : ∀ key ∈ keys4, slOk key = true := by decide +kernel
theorem sl_parts {key : ByteArray} (h : slOk key = true) : ∃ a b c, (runAns (startW 3) (slActs key))[5]? = some a ∧ (runAns (startW 3) (slActs key))[7]? = some b ∧ (runAns (startW 3) (slActs key))[8]? = some c ∧ a.code = 7 ∧ a.ph = 2 ∧ b.ph = 0 ∧ b.code = 0 ∧ c.code = 8 ∧ c.ph = 0 := by
  unfold slOk at h
  split at h
  · rename_i a b c h1 h2 h3
    simp only [Bool.and_eq_true, beq_iff_eq] at h
    exact ⟨a, b, c, h1, h2, h3, h.1.1.1.1.1, h.1.1.1.1.2, h.1.1.1.2, h.1.1.2, h.1.2, h.2⟩
  · cases h
theorem ofS_size {k : ByteArray} {c : Nat} (hk : k.size ≤ 6) (hc : c < 100) : (ofS k c).size ≤ 11 := by
  have h1 := itoa_size c hc
  have h2 : (⟨#[111, 102, 32]⟩ : ByteArray).size = 3 := rfl
  simp only [ofS, ByteArray.size_append]
  omega
theorem deed_ok {c : Nat} (hc : c < 100) {steps : Nat} {keys : List ByteArray} (hk : ∀ k ∈ keys, k.size ≤ 6) : ∀ a ∈ deedM c steps keys, ActOk a := by
  intro a ha
  simp only [deedM, List.mem_append, List.mem_cons, List.mem_map, List.mem_replicate] at ha
  have z : ActOk (actB 1 c) ∧ ActOk (actB 4 c) := ⟨⟨Nat.zero_le _, Nat.zero_le _⟩, ⟨Nat.zero_le _, Nat.zero_le _⟩⟩
  rcases ha with (rfl | ⟨k, hk', rfl⟩) | ⟨_, rfl⟩
  · exact z.1
  · have := hk k hk'
    have := ofS_size this hc
    exact ⟨by simp only [maxLen]; omega, by simp only [maxLen]; omega⟩
  · exact z.2
set_option maxRecDepth 100000 in
set_option maxHeartbeats 4000000 in
theorem secondLate_walk (w : World) (n : Int) (hn : i64 n) :
    Calls Tryd.prog 9 #[.int .i64 n] w fun e w' => e = .returned (.bool true) ∧ Below w.heap.size w w' := by
  have hmem := keyOf_mem n
  have hks : (keyOf n).size ≤ 6 := by have := keys4_size _ hmem; omega
  obtain ⟨xa, xb, xc, h5, h7, h8, a0, a3, b3, b0, c0, c3⟩ := sl_parts (sl_ok _ hmem)
  have HKEY := Lib.hid (kKey_any n w hn)
  obtain ⟨key, hkey⟩ : ∃ key, key = keyOf n := ⟨_, rfl⟩
  rw [← hkey] at h5 h7 h8 hks HKEY
  have H5 := Lib.hid h5
  have H7 := Lib.hid h7
  have H8 := Lib.hid h8
  clear h5 h7 h8 hkey hmem
  go_enter Tryd.func9, Tryd.ntmps9
  go_wp2_with fail
  refine HKEY.out.mono ?_
  rintro e w1 ⟨rfl, hb1⟩
  have HB1 := Lib.hid hb1
  clear hb1
  obtain ⟨W3, hW3, hb3, hs3, g1, g2⟩ := two_blocks w1 (.cells #[.int .i64 1, .int .i64 1, .string ⟨#[]⟩, .string ⟨#[]⟩, .int .i64 3, .int .i64 1, .string key, .string ⟨#[]⟩] 52) (.cells #[.string key] 9)
  have hkl : ∀ k ∈ [key], k.size ≤ 6 := by simpa using hks
  have HD := Lib.hid (show Calls Tryd.prog 28 #[.int .i64 0, .int .i64 1, .slice (some ⟨w1.heap.size + 1, 0, none⟩) 1 1] W3 (ActsOut (deedM 0 1 [key]) W3) from deed_any 0 (by decide) 1 (by decide) _ 1 [key] W3 (strs_block g2 (by simp) hkl) (by simp))
  have HA1 := Lib.hid (fun W hb => acts_block (w := W3) (W := W) (l := [actB 1 1, ⟨3, 1, key, ⟨#[]⟩⟩]) g1 rfl (by simp) (by
    intro a ha
    simp only [List.mem_cons, List.not_mem_nil, or_false] at ha
    rcases ha with rfl | rfl
    · exact ⟨Nat.zero_le _, Nat.zero_le _⟩
    · exact ⟨by simp only [maxLen]; omega, Nat.zero_le _⟩) hb)
  have HW3 := Lib.hid hW3
  have HB3 := Lib.hid (below_next HB1.out hb3)
  clear hW3 hb3 g1 g2
  go_wp2_with fail
  rw [← HW3.out]
  refine HD.out.mono ?_
  rintro e w4 ⟨A4, c4, rfl, hown4, hb4⟩
  have hdl : (deedM 0 1 [key]).length = 3 := rfl
  have HO4 := Lib.hid hown4
  have HB4 := Lib.hid hb4
  obtain ⟨W6, hW6, hb6, hs6, g1, g2⟩ := two_blocks w4 (.cells #[.int .i64 4, .int .i64 1, .string ⟨#[]⟩, .string ⟨#[]⟩, .int .i64 4, .int .i64 0, .string ⟨#[]⟩, .string ⟨#[]⟩, .int .i64 4, .int .i64 0, .string ⟨#[]⟩, .string ⟨#[]⟩, .int .i64 4, .int .i64 1, .string ⟨#[]⟩, .string ⟨#[]⟩] 52) (.cells #[.slice (some ⟨w1.heap.size, 0, none⟩) 2 2, .slice A4 3 c4, .slice (some ⟨w4.heap.size, 0, none⟩) 4 4] 49)
  have hA1 := HA1.out W6 (below_next hb4 hb6)
  have hA2 : ActsAt W6 (· < W6.heap.size) A4 (deedM 0 1 [key]) := SeqAt.acts (OwnsActs.acts (Cells.Owns.kept hown4 hb6) (by rw [hdl]; decide) (deed_ok (by decide) hkl)).2.2 (fun b hb => hb.2) (fun _ _ _ => rfl)
  have hA3 := acts_block (w := W6) (W := W6) (l := [actB 4 1, actB 4 0, actB 4 0, actB 4 1]) g1 rfl (by simp) (by
    intro a ha
    simp only [List.mem_cons, List.not_mem_nil, or_false] at ha
    rcases ha with rfl | rfl | rfl | rfl <;> exact ⟨Nat.zero_le _, Nat.zero_le _⟩) (Below.refl _ _)
  have hps := parts_block (W := W6) (l := [⟨some ⟨w1.heap.size, 0, none⟩, 2, [actB 1 1, ⟨3, 1, key, ⟨#[]⟩⟩]⟩, ⟨A4, c4, deedM 0 1 [key]⟩, ⟨some ⟨w4.heap.size, 0, none⟩, 4, [actB 4 1, actB 4 0, actB 4 0, actB 4 1]⟩]) g2 (by simp) (by
    intro p hp
    simp only [List.mem_cons, List.not_mem_nil, or_false] at hp
    rcases hp with rfl | rfl | rfl
    · exact hA1
    · exact hA2
    · exact hA3)
  have hj : joinM [⟨some ⟨w1.heap.size, 0, none⟩, 2, [actB 1 1, ⟨3, 1, key, ⟨#[]⟩⟩]⟩, ⟨A4, c4, deedM 0 1 [key]⟩, ⟨some ⟨w4.heap.size, 0, none⟩, 4, [actB 4 1, actB 4 0, actB 4 0, actB 4 1]⟩] = slActs key := by simp [joinM, slActs]
  have hsl : (slActs key).length = 9 := rfl
  have HC := Lib.hid (concat_any (some ⟨w4.heap.size + 1, 0, none⟩) 3 _ W6 hps (by rw [hj, hsl]; decide) (by rw [hj, hsl]; decide))
  rw [hj] at HC
  have HW6 := Lib.hid hW6
  have HB6 := Lib.hid (below_next (below_next HB3.out hb4) hb6)
  clear hown4 hb4 hW6 hb6 g1 g2 hA1 hA2 hA3 hps hj
  go_wp2_with fail
  rw [← HW6.out]
  refine HC.out.mono ?_
  rintro e w7 ⟨A7, c7, rfl, hown7, hb7⟩
  have hok7 : ∀ a ∈ slActs key, ActOk a := by
    intro a ha
    simp only [slActs, List.mem_append, List.mem_cons, List.not_mem_nil, or_false] at ha
    rcases ha with ((rfl | rfl) | ha) | rfl | rfl | rfl | rfl
    · exact ⟨Nat.zero_le _, Nat.zero_le _⟩
    · exact ⟨by simp only [maxLen]; omega, Nat.zero_le _⟩
    · exact deed_ok (by decide) hkl a ha
    all_goals exact ⟨Nat.zero_le _, Nat.zero_le _⟩
  have hA7 : ActsAt w7 (· < w7.heap.size) A7 (slActs key) := SeqAt.acts (OwnsActs.acts hown7 (by rw [hsl]; decide) hok7).2.2 (fun b hb => hb.2) (fun _ _ _ => rfl)
  have HRUN := Lib.hid (kRun_any A7 c7 (slActs key) w7 hA7 (by rw [hsl]; decide))
  have HB7 := Lib.hid (below_next HB6.out hb7)
  clear hown7 hb7 hA7 hok7
  go_wp2_with fail
  refine HRUN.out.mono ?_
  rintro e w8 ⟨g, rfl, hans, hb8⟩
  have k5 := hans.ans 5 xa H5.out
  have k7 := hans.ans 7 xb H7.out
  have k8 := hans.ans 8 xc H8.out
  have y0 := k5.c
  have y1 := k5.p
  have y2 := k7.p
  have y3 := k7.c
  have y4 := k8.c
  have y5 := k8.p
  rw [a0] at y0
  rw [a3] at y1
  rw [b3] at y2
  rw [b0] at y3
  rw [c0] at y4
  rw [c3] at y5
  rw [hsl]
  have HB8 := Lib.hid (below_next HB7.out hb8)
  clear hans hb8 k5 k7 k8
  go_wp2
  go_ret
  exact ⟨rfl, HB8.out⟩
end Go.Proofs.YtambkjnhfejfaabDoor
