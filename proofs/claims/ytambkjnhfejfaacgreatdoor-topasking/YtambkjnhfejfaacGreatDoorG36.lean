/-
  Contracts of functions of the program and words for memory, several texts in one: KCommIn. Conditions: those stated with each.
-/
import Derived.Test.YtambkjnhfejfaacGreatDoorG30
import Derived.Test.YtambkjnhfejfaacGreatDoorG34
import Derived.Test.YtambkjnhfejfaacGreatDoorG35
namespace Go.Proofs.YtambkjnhfejfaacGreatDoor
open Go.RowKit

theorem resolve_cls' (wo : WoM) (key : ByteArray) : (resolveW wo key).1.cls = wo.cls := by
  unfold resolveW
  dsimp only
  repeat' split
  all_goals rfl
theorem comm_in {l : List ActM} (hl : l.length ≤ 400) (hf : ∀ a ∈ l, ActFit a) (hok : ∀ a ∈ l, ActOk a) : CommIn l (runAns (startW 4) l) := by
  have both : ∀ k, k < l.length → ∃ prim, Whole prim k (ghostL l (runAns (startW 4) l) k) (woAt l k) ∧ ActFit (l.getD k default) ∧ (l.getD k default).c.toNat < (woAt l k).cls.length ∧ (runAns (startW 4) l).getD k default = (doW (woAt l k) (l.getD k default)).2 := by
    intro k hk
    obtain ⟨⟨prim, hw⟩, _, h4⟩ := whole_at hl hf k (by omega)
    have hfit := hf _ (getD_mem (d := default) hk)
    exact ⟨prim, hw, hfit, by rw [h4]; have := hfit.c0; have := hfit.c4; omega, ans_at hl hf hk⟩
  refine ⟨hl, runAns_length _ _, fun k hk => ⟨(hf _ (getD_mem hk)).c0, (hf _ (getD_mem hk)).c4⟩, hok, fun k hk h3 h0 => ?_, fun k hk hp hn => ?_⟩
  · obtain ⟨prim, hw, hfit, hC, hx⟩ := both k hk
    rw [hx] at h0
    unfold seenT
    obtain ⟨a, ha⟩ : ∃ a, a = l.getD k default := ⟨_, rfl⟩
    rw [← ha] at h0 h3 hC ⊢
    obtain ⟨c, hc⟩ : ∃ c, (woAt l k).cls[a.c.toNat]? = some c := ⟨_, List.getElem?_eq_getElem hC⟩
    have hcd : (woAt l k).cls.getD a.c.toNat default = c := by simp [List.getD, hc]
    have e : (doW (woAt l k) a).2.code = (putC c a.key a.val).2 := by
      unfold doW performW
      dsimp only
      rw [if_neg (by omega), if_neg (by omega), if_pos h3, hcd]
      rfl
    rw [e] at h0
    have hacc : accessE c a.key = 0 := by
      by_cases hz : accessE c a.key = 0
      · exact hz
      · exfalso
        rw [putC, if_pos hz] at h0
        exact hz h0
    have hph : c.ph = 1 := by
      unfold accessE at hacc
      split at hacc
      · omega
      · rename_i h1; simpa using h1
    have ht := hw.tells _ c hc
    obtain ⟨t1, t2⟩ := ht.op (by omega)
    exact ⟨by rw [ht.ph]; omega, by rw [t2]; exact (hw.good.cl hc).ws.inc⟩
  · obtain ⟨prim, hw, hfit, hC, hx⟩ := both k hk
    rw [hx] at hn ⊢
    unfold seenT at hp
    obtain ⟨a, ha⟩ : ∃ a, a = l.getD k default := ⟨_, rfl⟩
    rw [← ha] at hn hp hC ⊢
    obtain ⟨c, hc⟩ : ∃ c, (woAt l k).cls[a.c.toNat]? = some c := ⟨_, List.getElem?_eq_getElem hC⟩
    have hcd : (woAt l k).cls.getD a.c.toNat default = c := by simp [List.getD, hc]
    have hp0 : c.ph = 0 := by rw [← (hw.tells _ c hc).ph]; exact hp
    show ((performW (woAt l k) a).1.cls.getD a.c.toNat default).ph = 0
    have hn : ¬ (a.kind = 1 ∧ (performW (woAt l k) a).2.code = 0) := hn
    by_cases h1 : a.kind = 1
    · exfalso
      refine hn ⟨h1, ?_⟩
      unfold performW
      dsimp only
      rw [if_pos h1, hcd, beginW, if_pos hp0]
      rfl
    · by_cases h2 : a.kind = 2
      · unfold performW
        dsimp only
        rw [if_neg h1, if_pos h2]
        dsimp only
        rw [hcd]; exact hp0
      · by_cases h3 : a.kind = 3
        · have e : putC c a.key a.val = (c, accessE c a.key) := by
            rw [putC, if_pos]
            unfold accessE
            rw [if_pos (by omega)]
            decide
          unfold performW
          dsimp only
          rw [if_neg h1, if_neg h2, if_pos h3, hcd, e]
          show (((woAt l k).cls.set a.c.toNat c).getD a.c.toNat default).ph = 0
          simp [List.getD, hC, hp0]
        · by_cases h4 : a.kind = 4
          · unfold performW
            dsimp only
            rw [if_neg h1, if_neg h2, if_neg h3, if_pos h4, hcd, stepW, if_neg (by omega), if_neg (by omega), if_neg (by omega)]
            rw [hcd]; exact hp0
          · by_cases h5 : a.kind = 5
            · unfold performW
              dsimp only
              rw [if_neg h1, if_neg h2, if_neg h3, if_neg h4, if_pos h5, hcd, dropW, if_pos hp0]
              rw [hcd]; exact hp0
            · unfold performW
              dsimp only
              rw [if_neg h1, if_neg h2, if_neg h3, if_neg h4, if_neg h5]
              show ((resolveW (woAt l k) a.key).1.cls.getD a.c.toNat default).ph = 0
              rw [resolve_cls', hcd]; exact hp0
/-- committed, of the acts and answers of a run. -/
theorem committed_run {l : List ActM} (hl : l.length ≤ 400) (hf : ∀ a ∈ l, ActFit a) (hok : ∀ a ∈ l, ActOk a) (A : Option Addr) (q g c : Nat) (w : World) (hact : ActsAt w (· < w.heap.size) A l) (hans : AnsDone g l.length (runAns (startW 4) l) w) :
    Calls Tryz.prog 8 #[.slice A l.length q, .slice (some ⟨g, 0, none⟩) l.length c] w (CommOut l (runAns (startW 4) l) w) := by
  have h := committed_any A q l g c _ w (comm_in hl hf hok) hact hans.lt hans.ans
  rw [runAns_length] at h
  exact h
end Go.Proofs.YtambkjnhfejfaacGreatDoor
