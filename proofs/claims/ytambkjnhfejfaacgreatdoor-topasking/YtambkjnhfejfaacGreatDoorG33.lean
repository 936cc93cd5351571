/-
  Contracts of functions of the program and words for memory, several texts in one: KActsWalk0. Conditions: those stated with each.
-/
import Derived.Test.YtambkjnhfejfaacGreatDoorG28
namespace Go.Proofs.YtambkjnhfejfaacGreatDoor
open Go.RowKit Go.Deep

/-- An act in its box. -/
structure ActBox (w : World) (g : Nat) (a : ActM) : Prop where
  k : w.cell? ⟨g, 0, none⟩ = some (.int .i64 a.kind)
  c : w.cell? ⟨g, 1, none⟩ = some (.int .i64 a.c)
  y : w.cell? ⟨g, 2, none⟩ = some (.string a.key)
  v : w.cell? ⟨g, 3, none⟩ = some (.string a.val)
  f : ∀ o, w.frozen? ⟨g, o, none⟩ = false
theorem ActBox.new (w : World) (a0 a1 : Int) (a2 a3 : ByteArray) : ActBox (w.alloc (.cells #[.int .i64 a0, .int .i64 a1, .string a2, .string a3] 35)) w.heap.size ⟨a0, a1, a2, a3⟩ := ⟨by simp, by simp, by simp, by simp, fun o => by simp⟩
theorem ActBox.upto {w w' : World} {g : Nat} {a : ActM} (h : ActBox w g a) (hb : Below w.heap.size w w') : ActBox w' g a := by
  have hg : g < w.heap.size := World.block_lt_of_cell? w _ h.k
  obtain ⟨hc, hf⟩ := bcell hb
  exact ⟨(hc _ _ hg).trans h.k, (hc _ _ hg).trans h.c, (hc _ _ hg).trans h.y, (hc _ _ hg).trans h.v, fun o => (hf _ _ hg).trans (h.f o)⟩
/-- Four cells stored. -/
theorem ActBox.set4 {w : World} {g : Nat} {a : ActM} (h : ActBox w g a) (b0 b1 : Int) (b2 b3 : ByteArray) : ActBox ((((w.setCell ⟨g, 0, none⟩ (.int .i64 b0)).setCell ⟨g, 1, none⟩ (.int .i64 b1)).setCell ⟨g, 2, none⟩ (.string b2)).setCell ⟨g, 3, none⟩ (.string b3)) g ⟨b0, b1, b2, b3⟩ := by
  have ne : ∀ i j : Nat, i ≠ j → (⟨g, i, none⟩ : Addr) ≠ ⟨g, j, none⟩ := fun i j h e => h (by injection e)
  refine ⟨?_, ?_, ?_, ?_, fun o => ?_⟩
  · rw [World.cell?_setCell_other _ _ _ _ (ne 3 0 (by decide)), World.cell?_setCell_other _ _ _ _ (ne 2 0 (by decide)), World.cell?_setCell_other _ _ _ _ (ne 1 0 (by decide))]
    exact World.cell?_setCell_same _ _ _ h.k
  · rw [World.cell?_setCell_other _ _ _ _ (ne 3 1 (by decide)), World.cell?_setCell_other _ _ _ _ (ne 2 1 (by decide))]
    exact World.cell?_setCell_same _ _ _ ((World.cell?_setCell_other _ _ _ _ (ne 0 1 (by decide))).trans h.c)
  · rw [World.cell?_setCell_other _ _ _ _ (ne 3 2 (by decide))]
    exact World.cell?_setCell_same _ _ _ (((World.cell?_setCell_other _ _ _ _ (ne 1 2 (by decide))).trans (World.cell?_setCell_other _ _ _ _ (ne 0 2 (by decide)))).trans h.y)
  · exact World.cell?_setCell_same _ _ _ ((((World.cell?_setCell_other _ _ _ _ (ne 2 3 (by decide))).trans (World.cell?_setCell_other _ _ _ _ (ne 1 3 (by decide)))).trans (World.cell?_setCell_other _ _ _ _ (ne 0 3 (by decide)))).trans h.v)
  · simp only [World.frozen?_setCell]; exact h.f o
theorem below_set4 {w W : World} {B : Nat} (h : Below B w W) {g : Nat} (hg : B ≤ g) (v0 v1 v2 v3 : Value) : Below B w ((((W.setCell ⟨g, 0, none⟩ v0).setCell ⟨g, 1, none⟩ v1).setCell ⟨g, 2, none⟩ v2).setCell ⟨g, 3, none⟩ v3) := (((h.setCell hg _).setCell hg _).setCell hg _).setCell hg _
theorem size_set (w : World) (p : Addr) (v : Value) : (w.setCell p v).heap.size = w.heap.size := by simp [World.setCell]
set_option maxRecDepth 100000 in
set_option maxHeartbeats 4000000 in
theorem acts_any (A : Option Addr) (q : Nat) (l : List RawM) (most : Nat) (hmost : most ≤ 90) (cl : Nat) (hcl : 0 < cl) (hcl' : cl ≤ 5) (w : World) (hr : RawsAt w (· < w.heap.size) A l) :
    Calls Tryz.prog 4 #[.slice A l.length q, .int .i64 most, .int .i64 cl] w (ActsOut (actsM cl l (min l.length most)) w) := by
  have HR := Lib.hid hr
  have hlen := hr.1
  clear hr
  go_enter Tryz.func4, Tryz.ntmps4
  go_wp2
  go_loopw [7, 8] (fun v i wr => ∃ (k : Nat) (As : Option Addr) (cs : Nat), k ≤ min l.length most ∧ i = .int .i64 k ∧ v = .slice As k cs ∧ OwnsActs wr w.heap.size (.slice As k cs) (actsM cl l k) ∧ Below w.heap.size w wr) (fun _ i _ => min l.length most - (intOf i).toNat)
  case atStart => exact ⟨0, none, 0, Nat.zero_le _, rfl, rfl, Cells.Owns.nil _ _ _, Below.refl _ _⟩
  case round =>
    obtain ⟨k, As, cs, hk, rfl, rfl, hown, hb⟩ := hrel
    have HO := Lib.hid hown
    have HB := Lib.hid hb
    by_cases hm : k < min l.length most
    · have hml : k < l.length := by omega
      have hmm : k < most := by omega
      obtain ⟨b, o, hA, hbb, hx⟩ := SeqAt.at_ (HR.out.raws (below_mem hb).1 (below_mem hb).2) (getD_some (d := default) hml)
      subst hA
      obtain ⟨r, hrd⟩ : ∃ r, r = l.getD k default := ⟨_, rfl⟩
      rw [← hrd] at hx
      have x0 := hx.k
      have x1 := hx.a
      have x2 := hx.bb
      have x3 := hx.c
      obtain ⟨ok0, ok1, ok2, ok3⟩ := hx.ok
      have j0 : (0 : Int) ≤ (k : Int) := by omega
      have j1 : (k : Int) < (l.length : Int) := by omega
      have j2 : decide ((k : Int) < (l.length : Int)) = true := decide_eq_true (by omega)
      have j3 : decide ((k : Int) < (most : Int)) = true := decide_eq_true (by omega)
      have HRD := Lib.hid hrd
      obtain ⟨rk, ra, rb, rcc⟩ := r
      dsimp only at x0 x1 x2 x3 ok0 ok1 ok2 ok3
      clear hown hb hx hrd
      go_wp2
      obtain ⟨W1, hW1⟩ : ∃ W1, W1 = wr.alloc (.cells #[.int .i64 rk, .int .i64 ra, .int .i64 rb, .int .i64 rcc] 58) := ⟨_, rfl⟩
      have r0 : W1.cell? ⟨wr.heap.size, 0, none⟩ = some (.int .i64 rk) := by rw [hW1]; simp
      have r1 : W1.cell? ⟨wr.heap.size, 1, none⟩ = some (.int .i64 ra) := by rw [hW1]; simp
      have r3 : W1.cell? ⟨wr.heap.size, 3, none⟩ = some (.int .i64 rcc) := by rw [hW1]; simp
      have hs1 : wr.heap.size < W1.heap.size := by rw [hW1]; simp
      have HB1 := Lib.hid (show Below wr.heap.size wr W1 by rw [hW1]; exact below_alloc (Below.refl _ _) _)
      rw [← hW1]
      clear hW1 x0 x1 x2 x3
      have HSK := Lib.hid (show ∀ W, Below W1.heap.size W1 W → W.cell? ⟨wr.heap.size, 1, none⟩ = some (.int .i64 ra) ∧ W.cell? ⟨wr.heap.size, 3, none⟩ = some (.int .i64 rcc) from fun W hb => ⟨(hb.cell (p := ⟨wr.heap.size, 1, none⟩) hs1).trans r1, (hb.cell (p := ⟨wr.heap.size, 3, none⟩) hs1).trans r3⟩)
      have HPK := Lib.hid (fun W => picked_any rcc cl W ok3 (by omega) (by omega))
      have HKY := Lib.hid (fun W => kKey_any ra W ok1)
      have HIT := Lib.hid (fun W => itoa_any k (by omega) W)
      have hit := itoa_size k (by omega)
      obtain ⟨it, hitd⟩ : ∃ it, it = itoaS k := ⟨_, rfl⟩
      have HVS := Lib.hid (show vS k = (⟨#[118]⟩ : ByteArray) ++ it by rw [vS, hitd])
      rw [← hitd] at HIT hit
      have hit2 : ¬ (9223372036854775807 < 1 + it.size) := by omega
      have hky := keys4_size _ (keyOf_mem ra)
      obtain ⟨ky, hkyd⟩ : ∃ ky, ky = keyOf ra := ⟨_, rfl⟩
      rw [← hkyd] at HKY hky
      obtain ⟨pc, hpcd⟩ : ∃ pc, pc = pickM rcc cl := ⟨_, rfl⟩
      rw [← hpcd] at HPK
      have HAO := Lib.hid (show actOf cl k ⟨rk, ra, rb, rcc⟩ = if pickM rk 30 < 5 then actB 1 pc else if pickM rk 30 < 9 then ⟨2, pc, ky, ⟨#[]⟩⟩ else if pickM rk 30 < 15 then ⟨3, pc, ky, (⟨#[118]⟩ : ByteArray) ++ it⟩ else if pickM rk 30 < 27 then actB 4 pc else if pickM rk 30 = 27 then actB 5 pc else ⟨6, pc, ky, ⟨#[]⟩⟩ by rw [actOf, HVS.out, hkyd, hpcd])
      clear hitd hkyd hpcd
      go_cut [10] (fun s10 wx => ∃ g, s10 = .pointer (some ⟨g, 0, none⟩) ∧ ActBox wx g ⟨0, pc, ky, (⟨#[118]⟩ : ByteArray) ++ it⟩ ∧ W1.heap.size ≤ g ∧ Below W1.heap.size W1 wx)
      case first =>
        refine wp_region_held_drew (S := fun W => W.cell? ⟨wr.heap.size, 1, none⟩ = some (.int .i64 ra) ∧ W.cell? ⟨wr.heap.size, 3, none⟩ = some (.int .i64 rcc)) (by kernel_rfl) ?_ (fun hHeld => ?_)
        · exact ⟨r1, r3⟩
        (refine wpAnyH_take (i := 0) (oi := ?_) (v := ?_) ?_ (by kernel_rfl) ?_ ?_ ?_ ?_ (by assumption) ?_; rotate_left 2; (simp only [List.getElem?_toArray, List.getElem?_cons_zero]; rfl); kernel_rfl; kernel_rfl; exact fun _ _ _ h => h; (refine Or.inl ⟨by rfl, ?_⟩; intro w hSw; (try dsimp only at hSw); go_simp; (first | done | with_reducible rfl)); (try simp only [Act.put, List.setIfInBounds_toArray, List.set_cons_zero, List.set_cons_succ]))
        (first | (refine wpAnyH_take (i := 1) (oi := ?_) (v := ?_) ?_ (by kernel_rfl) ?_ ?_ ?_ ?_ (by assumption) ?_; rotate_left 2; (simp only [List.getElem?_toArray, List.getElem?_cons_zero, List.getElem?_cons_succ]; rfl); kernel_rfl; kernel_rfl; exact fun _ _ _ h => h; (refine Or.inl ⟨by rfl, ?_⟩; intro w hSw; (try dsimp only at hSw); go_simp; (first | done | with_reducible rfl)); (try simp only [Act.put, List.setIfInBounds_toArray, List.set_cons_zero, List.set_cons_succ])) | (refine wpAnyH_take (i := 1) (oi := ?_) (v := undef) ?_ (by kernel_rfl) ?_ ?_ ?_ ?_ (by assumption) ?_; rotate_left 1; (simp only [List.getElem?_toArray, List.getElem?_cons_zero, List.getElem?_cons_succ]; rfl); kernel_rfl; kernel_rfl; exact fun _ _ _ h => h; exact Or.inr ⟨by rfl, rfl⟩; (try simp only [Act.put, List.setIfInBounds_toArray, List.set_cons_zero, List.set_cons_succ])))
        (first | (refine wpAnyH_take (i := 2) (oi := ?_) (v := ?_) ?_ (by kernel_rfl) ?_ ?_ ?_ ?_ (by assumption) ?_; rotate_left 2; (simp only [List.getElem?_toArray, List.getElem?_cons_zero, List.getElem?_cons_succ]; rfl); kernel_rfl; kernel_rfl; exact fun _ _ _ h => h; (refine Or.inl ⟨by rfl, ?_⟩; intro w hSw; (try dsimp only at hSw); go_simp; (first | done | with_reducible rfl)); (try simp only [Act.put, List.setIfInBounds_toArray, List.set_cons_zero, List.set_cons_succ])) | (refine wpAnyH_take (i := 2) (oi := ?_) (v := undef) ?_ (by kernel_rfl) ?_ ?_ ?_ ?_ (by assumption) ?_; rotate_left 1; (simp only [List.getElem?_toArray, List.getElem?_cons_zero, List.getElem?_cons_succ]; rfl); kernel_rfl; kernel_rfl; exact fun _ _ _ h => h; exact Or.inr ⟨by rfl, rfl⟩; (try simp only [Act.put, List.setIfInBounds_toArray, List.set_cons_zero, List.set_cons_succ])))
        (first | (refine wpAnyH_take (i := 4) (oi := ?_) (v := ?_) ?_ (by kernel_rfl) ?_ ?_ ?_ ?_ (by assumption) ?_; rotate_left 2; (simp only [List.getElem?_toArray, List.getElem?_cons_zero, List.getElem?_cons_succ]; rfl); kernel_rfl; kernel_rfl; exact fun _ _ _ h => h; (refine Or.inl ⟨by rfl, ?_⟩; intro w hSw; (try dsimp only at hSw); go_simp; (first | done | with_reducible rfl)); (try simp only [Act.put, List.setIfInBounds_toArray, List.set_cons_zero, List.set_cons_succ])) | (refine wpAnyH_take (i := 4) (oi := ?_) (v := undef) ?_ (by kernel_rfl) ?_ ?_ ?_ ?_ (by assumption) ?_; rotate_left 1; (simp only [List.getElem?_toArray, List.getElem?_cons_zero, List.getElem?_cons_succ]; rfl); kernel_rfl; kernel_rfl; exact fun _ _ _ h => h; exact Or.inr ⟨by rfl, rfl⟩; (try simp only [Act.put, List.setIfInBounds_toArray, List.set_cons_zero, List.set_cons_succ])))
        (first | (refine wpAnyH_take (i := 5) (oi := ?_) (v := ?_) ?_ (by kernel_rfl) ?_ ?_ ?_ ?_ (by assumption) ?_; rotate_left 2; (simp only [List.getElem?_toArray, List.getElem?_cons_zero, List.getElem?_cons_succ]; rfl); kernel_rfl; kernel_rfl; exact fun _ _ _ h => h; (refine Or.inl ⟨by rfl, ?_⟩; intro w hSw; (try dsimp only at hSw); go_simp; (first | done | with_reducible rfl)); (try simp only [Act.put, List.setIfInBounds_toArray, List.set_cons_zero, List.set_cons_succ])) | (refine wpAnyH_take (i := 5) (oi := ?_) (v := undef) ?_ (by kernel_rfl) ?_ ?_ ?_ ?_ (by assumption) ?_; rotate_left 1; (simp only [List.getElem?_toArray, List.getElem?_cons_zero, List.getElem?_cons_succ]; rfl); kernel_rfl; kernel_rfl; exact fun _ _ _ h => h; exact Or.inr ⟨by rfl, rfl⟩; (try simp only [Act.put, List.setIfInBounds_toArray, List.set_cons_zero, List.set_cons_succ])))
        (first | (refine wpAnyH_take (i := 7) (oi := ?_) (v := ?_) ?_ (by kernel_rfl) ?_ ?_ ?_ ?_ (by assumption) ?_; rotate_left 2; (simp only [List.getElem?_toArray, List.getElem?_cons_zero, List.getElem?_cons_succ]; rfl); kernel_rfl; kernel_rfl; exact fun _ _ _ h => h; (refine Or.inl ⟨by rfl, ?_⟩; intro w hSw; (try dsimp only at hSw); go_simp; (first | done | with_reducible rfl)); (try simp only [Act.put, List.setIfInBounds_toArray, List.set_cons_zero, List.set_cons_succ])) | (refine wpAnyH_take (i := 7) (oi := ?_) (v := undef) ?_ (by kernel_rfl) ?_ ?_ ?_ ?_ (by assumption) ?_; rotate_left 1; (simp only [List.getElem?_toArray, List.getElem?_cons_zero, List.getElem?_cons_succ]; rfl); kernel_rfl; kernel_rfl; exact fun _ _ _ h => h; exact Or.inr ⟨by rfl, rfl⟩; (try simp only [Act.put, List.setIfInBounds_toArray, List.set_cons_zero, List.set_cons_succ])))
        refine wpAnyH_ready (rs := [3, 11]) (by kernel_rfl) (by simp) ?_
        refine AllReadyH.cons (o := ?_) ?_ (fun K hK => ?_) ?_
        rotate_left 1
        · (simp only [List.getElem?_toArray, List.getElem?_cons_zero, List.getElem?_cons_succ]; rfl)
        · go_simp
          refine (HPK.out _).mono ?_
          rintro e w' ⟨rfl, hw⟩
          rw [hw]
          clear hw w'
          clear hHeld
          (refine hK.out _ _ ?_ (fun hHeld => ?_); exact HSK.out _ (below_drew (Below.refl _ _)); clear hK K)
          refine wpAnyH_ready (rs := [6, 11]) (by kernel_rfl) (by simp) ?_
          refine AllReadyH.cons (o := ?_) ?_ (fun K hK => ?_) ?_
          rotate_left 1
          · (simp only [List.getElem?_toArray, List.getElem?_cons_zero, List.getElem?_cons_succ]; rfl)
          · go_simp
            refine (HKY.out _).mono ?_
            rintro e w2 ⟨rfl, hb2⟩
            have HB2 := Lib.hid (show Below W1.heap.size W1 w2 from below_next (below_drew (Below.refl _ _)) hb2)
            clear hb2
            clear hHeld
            (refine hK.out _ _ ?_ (fun hHeld => ?_); exact HSK.out _ HB2.out; clear hK K)
            refine wpAnyH_ready (rs := [8, 11]) (by kernel_rfl) (by simp) ?_
            refine AllReadyH.cons (o := ?_) ?_ (fun K hK => ?_) ?_
            rotate_left 1
            · (simp only [List.getElem?_toArray, List.getElem?_cons_zero, List.getElem?_cons_succ]; rfl)
            · go_simp
              refine (HIT.out _).mono ?_
              rintro e w' ⟨rfl, hw⟩
              rw [hw]
              clear hw w'
              clear hHeld
              (refine hK.out _ _ ?_ (fun hHeld => ?_); exact HSK.out _ HB2.out; clear hK K)
              (first | (refine wpAnyH_take (i := 9) (oi := ?_) (v := ?_) ?_ (by kernel_rfl) ?_ ?_ ?_ ?_ (by assumption) ?_; rotate_left 2; (simp only [List.getElem?_toArray, List.getElem?_cons_zero, List.getElem?_cons_succ]; rfl); kernel_rfl; kernel_rfl; exact fun _ _ _ h => h; (refine Or.inl ⟨by rfl, ?_⟩; intro w hSw; (try dsimp only at hSw); go_simp; (first | done | with_reducible rfl)); (try simp only [Act.put, List.setIfInBounds_toArray, List.set_cons_zero, List.set_cons_succ])) | (refine wpAnyH_take (i := 9) (oi := ?_) (v := undef) ?_ (by kernel_rfl) ?_ ?_ ?_ ?_ (by assumption) ?_; rotate_left 1; (simp only [List.getElem?_toArray, List.getElem?_cons_zero, List.getElem?_cons_succ]; rfl); kernel_rfl; kernel_rfl; exact fun _ _ _ h => h; exact Or.inr ⟨by rfl, rfl⟩; (try simp only [Act.put, List.setIfInBounds_toArray, List.set_cons_zero, List.set_cons_succ])))
              (first | (refine wpAnyH_take (i := 10) (oi := ?_) (v := ?_) ?_ (by kernel_rfl) ?_ ?_ ?_ ?_ (by assumption) ?_; rotate_left 2; (simp only [List.getElem?_toArray, List.getElem?_cons_zero, List.getElem?_cons_succ]; rfl); kernel_rfl; kernel_rfl; exact fun _ _ _ h => h; (refine Or.inl ⟨by rfl, ?_⟩; intro w hSw; (try dsimp only at hSw); go_simp; (first | done | with_reducible rfl)); (try simp only [Act.put, List.setIfInBounds_toArray, List.set_cons_zero, List.set_cons_succ])) | (refine wpAnyH_take (i := 10) (oi := ?_) (v := undef) ?_ (by kernel_rfl) ?_ ?_ ?_ ?_ (by assumption) ?_; rotate_left 1; (simp only [List.getElem?_toArray, List.getElem?_cons_zero, List.getElem?_cons_succ]; rfl); kernel_rfl; kernel_rfl; exact fun _ _ _ h => h; exact Or.inr ⟨by rfl, rfl⟩; (try simp only [Act.put, List.setIfInBounds_toArray, List.set_cons_zero, List.set_cons_succ])))
              (refine wpAnyH_ready (rs := [11]) (by kernel_rfl) (by simp) ?_; refine AllReadyH.cons (o := ?_) ?_ (fun K hK => ?_) AllReadyH.nil; rotate_left 1; (simp only [List.getElem?_toArray, List.getElem?_cons_zero, List.getElem?_cons_succ]; rfl); go_simp)
              clear hHeld
              (refine hK.out _ _ ?_ (fun hHeld => ?_); exact HSK.out _ (below_alloc HB2.out _); clear hK K)
              (refine wpAnyH_ready (rs := [12]) (by kernel_rfl) (by simp) ?_; refine AllReadyH.cons (o := ?_) ?_ (fun K hK => ?_) AllReadyH.nil; rotate_left 1; (simp only [List.getElem?_toArray, List.getElem?_cons_zero, List.getElem?_cons_succ]; rfl); go_simp)
              clear hHeld
              (refine hK.out _ _ ?_ (fun hHeld => ?_); exact HSK.out _ (below_alloc HB2.out _); clear hK K)
              refine wpAnyH_done (by kernel_rfl) ?_ _
              clear hHeld
              go_wp2_with fail
              go_meet
              exact ⟨_, rfl, ActBox.new w2 _ _ _ _, HB2.out.size, below_alloc HB2.out _⟩
            · refine AllReadyH.cons (o := ?_) ?_ (fun K hK => ?_) AllReadyH.nil
              rotate_left 1
              · (simp only [List.getElem?_toArray, List.getElem?_cons_zero, List.getElem?_cons_succ]; rfl)
              · go_simp
                clear hHeld
                (refine hK.out _ _ ?_ (fun hHeld => ?_); exact HSK.out _ (below_alloc HB2.out _); clear hK K)
                (refine wpAnyH_ready (rs := [8]) (by kernel_rfl) (by simp) ?_; refine AllReadyH.cons (o := ?_) ?_ (fun K hK => ?_) AllReadyH.nil; rotate_left 1; (simp only [List.getElem?_toArray, List.getElem?_cons_zero, List.getElem?_cons_succ]; rfl); go_simp)
                refine (HIT.out _).mono ?_
                rintro e w' ⟨rfl, hw⟩
                rw [hw]
                clear hw w'
                clear hHeld
                (refine hK.out _ _ ?_ (fun hHeld => ?_); exact HSK.out _ (below_alloc HB2.out _); clear hK K)
                (first | (refine wpAnyH_take (i := 9) (oi := ?_) (v := ?_) ?_ (by kernel_rfl) ?_ ?_ ?_ ?_ (by assumption) ?_; rotate_left 2; (simp only [List.getElem?_toArray, List.getElem?_cons_zero, List.getElem?_cons_succ]; rfl); kernel_rfl; kernel_rfl; exact fun _ _ _ h => h; (refine Or.inl ⟨by rfl, ?_⟩; intro w hSw; (try dsimp only at hSw); go_simp; (first | done | with_reducible rfl)); (try simp only [Act.put, List.setIfInBounds_toArray, List.set_cons_zero, List.set_cons_succ])) | (refine wpAnyH_take (i := 9) (oi := ?_) (v := undef) ?_ (by kernel_rfl) ?_ ?_ ?_ ?_ (by assumption) ?_; rotate_left 1; (simp only [List.getElem?_toArray, List.getElem?_cons_zero, List.getElem?_cons_succ]; rfl); kernel_rfl; kernel_rfl; exact fun _ _ _ h => h; exact Or.inr ⟨by rfl, rfl⟩; (try simp only [Act.put, List.setIfInBounds_toArray, List.set_cons_zero, List.set_cons_succ])))
                (first | (refine wpAnyH_take (i := 10) (oi := ?_) (v := ?_) ?_ (by kernel_rfl) ?_ ?_ ?_ ?_ (by assumption) ?_; rotate_left 2; (simp only [List.getElem?_toArray, List.getElem?_cons_zero, List.getElem?_cons_succ]; rfl); kernel_rfl; kernel_rfl; exact fun _ _ _ h => h; (refine Or.inl ⟨by rfl, ?_⟩; intro w hSw; (try dsimp only at hSw); go_simp; (first | done | with_reducible rfl)); (try simp only [Act.put, List.setIfInBounds_toArray, List.set_cons_zero, List.set_cons_succ])) | (refine wpAnyH_take (i := 10) (oi := ?_) (v := undef) ?_ (by kernel_rfl) ?_ ?_ ?_ ?_ (by assumption) ?_; rotate_left 1; (simp only [List.getElem?_toArray, List.getElem?_cons_zero, List.getElem?_cons_succ]; rfl); kernel_rfl; kernel_rfl; exact fun _ _ _ h => h; exact Or.inr ⟨by rfl, rfl⟩; (try simp only [Act.put, List.setIfInBounds_toArray, List.set_cons_zero, List.set_cons_succ])))
                (refine wpAnyH_ready (rs := [12]) (by kernel_rfl) (by simp) ?_; refine AllReadyH.cons (o := ?_) ?_ (fun K hK => ?_) AllReadyH.nil; rotate_left 1; (simp only [List.getElem?_toArray, List.getElem?_cons_zero, List.getElem?_cons_succ]; rfl); go_simp)
                clear hHeld
                (refine hK.out _ _ ?_ (fun hHeld => ?_); exact HSK.out _ (below_alloc HB2.out _); clear hK K)
                refine wpAnyH_done (by kernel_rfl) ?_ _
                clear hHeld
                go_wp2_with fail
                go_meet
                exact ⟨_, rfl, ActBox.new w2 _ _ _ _, HB2.out.size, below_alloc HB2.out _⟩
          · refine AllReadyH.cons (o := ?_) ?_ (fun K hK => ?_) AllReadyH.nil
            rotate_left 1
            · (simp only [List.getElem?_toArray, List.getElem?_cons_zero, List.getElem?_cons_succ]; rfl)
            · go_simp
              clear hHeld
              (refine hK.out _ _ ?_ (fun hHeld => ?_); exact HSK.out _ (below_alloc (below_drew (Below.refl _ _)) _); clear hK K)
              (refine wpAnyH_ready (rs := [6]) (by kernel_rfl) (by simp) ?_; refine AllReadyH.cons (o := ?_) ?_ (fun K hK => ?_) AllReadyH.nil; rotate_left 1; (simp only [List.getElem?_toArray, List.getElem?_cons_zero, List.getElem?_cons_succ]; rfl); go_simp)
              refine (HKY.out _).mono ?_
              rintro e w2 ⟨rfl, hb2⟩
              have hbx := (ActBox.new W1.drew 0 0 ⟨#[]⟩ ⟨#[]⟩).upto hb2
              have HBX := Lib.hid hbx
              have y0 : w2.cell? ⟨W1.heap.size, 0, none⟩ = some (.int .i64 0) := hbx.k
              have y1 : w2.cell? ⟨W1.heap.size, 1, none⟩ = some (.int .i64 0) := hbx.c
              have y2 : w2.cell? ⟨W1.heap.size, 2, none⟩ = some (.string ⟨#[]⟩) := hbx.y
              have y3 : w2.cell? ⟨W1.heap.size, 3, none⟩ = some (.string ⟨#[]⟩) := hbx.v
              have f0 : w2.frozen? ⟨W1.heap.size, 0, none⟩ = false := hbx.f 0
              have f1 : w2.frozen? ⟨W1.heap.size, 1, none⟩ = false := hbx.f 1
              have f2 : w2.frozen? ⟨W1.heap.size, 2, none⟩ = false := hbx.f 2
              have f3 : w2.frozen? ⟨W1.heap.size, 3, none⟩ = false := hbx.f 3
              have HB2 := Lib.hid (show Below W1.heap.size W1 w2 from below_next (below_alloc (below_drew (Below.refl _ _)) _) hb2)
              clear hb2 hbx
              clear hHeld
              (refine hK.out _ _ ?_ (fun hHeld => ?_); exact HSK.out _ HB2.out; clear hK K)
              (refine wpAnyH_ready (rs := [8]) (by kernel_rfl) (by simp) ?_; refine AllReadyH.cons (o := ?_) ?_ (fun K hK => ?_) AllReadyH.nil; rotate_left 1; (simp only [List.getElem?_toArray, List.getElem?_cons_zero, List.getElem?_cons_succ]; rfl); go_simp)
              refine (HIT.out _).mono ?_
              rintro e w' ⟨rfl, hw⟩
              rw [hw]
              clear hw w'
              clear hHeld
              (refine hK.out _ _ ?_ (fun hHeld => ?_); exact HSK.out _ HB2.out; clear hK K)
              (first | (refine wpAnyH_take (i := 9) (oi := ?_) (v := ?_) ?_ (by kernel_rfl) ?_ ?_ ?_ ?_ (by assumption) ?_; rotate_left 2; (simp only [List.getElem?_toArray, List.getElem?_cons_zero, List.getElem?_cons_succ]; rfl); kernel_rfl; kernel_rfl; exact fun _ _ _ h => h; (refine Or.inl ⟨by rfl, ?_⟩; intro w hSw; (try dsimp only at hSw); go_simp; (first | done | with_reducible rfl)); (try simp only [Act.put, List.setIfInBounds_toArray, List.set_cons_zero, List.set_cons_succ])) | (refine wpAnyH_take (i := 9) (oi := ?_) (v := undef) ?_ (by kernel_rfl) ?_ ?_ ?_ ?_ (by assumption) ?_; rotate_left 1; (simp only [List.getElem?_toArray, List.getElem?_cons_zero, List.getElem?_cons_succ]; rfl); kernel_rfl; kernel_rfl; exact fun _ _ _ h => h; exact Or.inr ⟨by rfl, rfl⟩; (try simp only [Act.put, List.setIfInBounds_toArray, List.set_cons_zero, List.set_cons_succ])))
              (first | (refine wpAnyH_take (i := 10) (oi := ?_) (v := ?_) ?_ (by kernel_rfl) ?_ ?_ ?_ ?_ (by assumption) ?_; rotate_left 2; (simp only [List.getElem?_toArray, List.getElem?_cons_zero, List.getElem?_cons_succ]; rfl); kernel_rfl; kernel_rfl; exact fun _ _ _ h => h; (refine Or.inl ⟨by rfl, ?_⟩; intro w hSw; (try dsimp only at hSw); go_simp; (first | done | with_reducible rfl)); (try simp only [Act.put, List.setIfInBounds_toArray, List.set_cons_zero, List.set_cons_succ])) | (refine wpAnyH_take (i := 10) (oi := ?_) (v := undef) ?_ (by kernel_rfl) ?_ ?_ ?_ ?_ (by assumption) ?_; rotate_left 1; (simp only [List.getElem?_toArray, List.getElem?_cons_zero, List.getElem?_cons_succ]; rfl); kernel_rfl; kernel_rfl; exact fun _ _ _ h => h; exact Or.inr ⟨by rfl, rfl⟩; (try simp only [Act.put, List.setIfInBounds_toArray, List.set_cons_zero, List.set_cons_succ])))
              (refine wpAnyH_ready (rs := [12]) (by kernel_rfl) (by simp) ?_; refine AllReadyH.cons (o := ?_) ?_ (fun K hK => ?_) AllReadyH.nil; rotate_left 1; (simp only [List.getElem?_toArray, List.getElem?_cons_zero, List.getElem?_cons_succ]; rfl); go_simp)
              clear hHeld
              (refine hK.out _ _ ?_ (fun hHeld => ?_); exact HSK.out _ (below_set4 HB2.out (Nat.le_refl _) _ _ _ _); clear hK K)
              refine wpAnyH_done (by kernel_rfl) ?_ _
              clear hHeld
              go_wp2_with fail
              go_meet
              exact ⟨_, rfl, HBX.out.set4 _ _ _ _, Nat.le_refl _, below_set4 HB2.out (Nat.le_refl _) _ _ _ _⟩
        · refine AllReadyH.cons (o := ?_) ?_ (fun K hK => ?_) AllReadyH.nil
          rotate_left 1
          · (simp only [List.getElem?_toArray, List.getElem?_cons_zero, List.getElem?_cons_succ]; rfl)
          · go_simp
            clear hHeld
            (refine hK.out _ _ ?_ (fun hHeld => ?_); exact HSK.out _ (below_alloc (below_drew (Below.refl _ _)) _); clear hK K)
            (refine wpAnyH_ready (rs := [3]) (by kernel_rfl) (by simp) ?_; refine AllReadyH.cons (o := ?_) ?_ (fun K hK => ?_) AllReadyH.nil; rotate_left 1; (simp only [List.getElem?_toArray, List.getElem?_cons_zero, List.getElem?_cons_succ]; rfl); go_simp)
            refine (HPK.out _).mono ?_
            rintro e w' ⟨rfl, hw⟩
            rw [hw]
            clear hw w'
            clear hHeld
            (refine hK.out _ _ ?_ (fun hHeld => ?_); exact HSK.out _ (below_alloc (below_drew (Below.refl _ _)) _); clear hK K)
            (refine wpAnyH_ready (rs := [6]) (by kernel_rfl) (by simp) ?_; refine AllReadyH.cons (o := ?_) ?_ (fun K hK => ?_) AllReadyH.nil; rotate_left 1; (simp only [List.getElem?_toArray, List.getElem?_cons_zero, List.getElem?_cons_succ]; rfl); go_simp)
            refine (HKY.out _).mono ?_
            rintro e w2 ⟨rfl, hb2⟩
            have hbx := (ActBox.new W1.drew 0 0 ⟨#[]⟩ ⟨#[]⟩).upto hb2
            have HBX := Lib.hid hbx
            have y0 : w2.cell? ⟨W1.heap.size, 0, none⟩ = some (.int .i64 0) := hbx.k
            have y1 : w2.cell? ⟨W1.heap.size, 1, none⟩ = some (.int .i64 0) := hbx.c
            have y2 : w2.cell? ⟨W1.heap.size, 2, none⟩ = some (.string ⟨#[]⟩) := hbx.y
            have y3 : w2.cell? ⟨W1.heap.size, 3, none⟩ = some (.string ⟨#[]⟩) := hbx.v
            have f0 : w2.frozen? ⟨W1.heap.size, 0, none⟩ = false := hbx.f 0
            have f1 : w2.frozen? ⟨W1.heap.size, 1, none⟩ = false := hbx.f 1
            have f2 : w2.frozen? ⟨W1.heap.size, 2, none⟩ = false := hbx.f 2
            have f3 : w2.frozen? ⟨W1.heap.size, 3, none⟩ = false := hbx.f 3
            have HB2 := Lib.hid (show Below W1.heap.size W1 w2 from below_next (below_alloc (below_drew (Below.refl _ _)) _) hb2)
            clear hb2 hbx
            clear hHeld
            (refine hK.out _ _ ?_ (fun hHeld => ?_); exact HSK.out _ HB2.out; clear hK K)
            (refine wpAnyH_ready (rs := [8]) (by kernel_rfl) (by simp) ?_; refine AllReadyH.cons (o := ?_) ?_ (fun K hK => ?_) AllReadyH.nil; rotate_left 1; (simp only [List.getElem?_toArray, List.getElem?_cons_zero, List.getElem?_cons_succ]; rfl); go_simp)
            refine (HIT.out _).mono ?_
            rintro e w' ⟨rfl, hw⟩
            rw [hw]
            clear hw w'
            clear hHeld
            (refine hK.out _ _ ?_ (fun hHeld => ?_); exact HSK.out _ HB2.out; clear hK K)
            (first | (refine wpAnyH_take (i := 9) (oi := ?_) (v := ?_) ?_ (by kernel_rfl) ?_ ?_ ?_ ?_ (by assumption) ?_; rotate_left 2; (simp only [List.getElem?_toArray, List.getElem?_cons_zero, List.getElem?_cons_succ]; rfl); kernel_rfl; kernel_rfl; exact fun _ _ _ h => h; (refine Or.inl ⟨by rfl, ?_⟩; intro w hSw; (try dsimp only at hSw); go_simp; (first | done | with_reducible rfl)); (try simp only [Act.put, List.setIfInBounds_toArray, List.set_cons_zero, List.set_cons_succ])) | (refine wpAnyH_take (i := 9) (oi := ?_) (v := undef) ?_ (by kernel_rfl) ?_ ?_ ?_ ?_ (by assumption) ?_; rotate_left 1; (simp only [List.getElem?_toArray, List.getElem?_cons_zero, List.getElem?_cons_succ]; rfl); kernel_rfl; kernel_rfl; exact fun _ _ _ h => h; exact Or.inr ⟨by rfl, rfl⟩; (try simp only [Act.put, List.setIfInBounds_toArray, List.set_cons_zero, List.set_cons_succ])))
            (first | (refine wpAnyH_take (i := 10) (oi := ?_) (v := ?_) ?_ (by kernel_rfl) ?_ ?_ ?_ ?_ (by assumption) ?_; rotate_left 2; (simp only [List.getElem?_toArray, List.getElem?_cons_zero, List.getElem?_cons_succ]; rfl); kernel_rfl; kernel_rfl; exact fun _ _ _ h => h; (refine Or.inl ⟨by rfl, ?_⟩; intro w hSw; (try dsimp only at hSw); go_simp; (first | done | with_reducible rfl)); (try simp only [Act.put, List.setIfInBounds_toArray, List.set_cons_zero, List.set_cons_succ])) | (refine wpAnyH_take (i := 10) (oi := ?_) (v := undef) ?_ (by kernel_rfl) ?_ ?_ ?_ ?_ (by assumption) ?_; rotate_left 1; (simp only [List.getElem?_toArray, List.getElem?_cons_zero, List.getElem?_cons_succ]; rfl); kernel_rfl; kernel_rfl; exact fun _ _ _ h => h; exact Or.inr ⟨by rfl, rfl⟩; (try simp only [Act.put, List.setIfInBounds_toArray, List.set_cons_zero, List.set_cons_succ])))
            (refine wpAnyH_ready (rs := [12]) (by kernel_rfl) (by simp) ?_; refine AllReadyH.cons (o := ?_) ?_ (fun K hK => ?_) AllReadyH.nil; rotate_left 1; (simp only [List.getElem?_toArray, List.getElem?_cons_zero, List.getElem?_cons_succ]; rfl); go_simp)
            clear hHeld
            (refine hK.out _ _ ?_ (fun hHeld => ?_); exact HSK.out _ (below_set4 HB2.out (Nat.le_refl _) _ _ _ _); clear hK K)
            refine wpAnyH_done (by kernel_rfl) ?_ _
            clear hHeld
            go_wp2_with fail
            go_meet
            exact ⟨_, rfl, HBX.out.set4 _ _ _ _, Nat.le_refl _, below_set4 HB2.out (Nat.le_refl _) _ _ _ _⟩
      case rest =>
        obtain ⟨g, rfl, hbx, hge, hbc⟩ := hcut
        have y0 := hbx.k
        have y1 := hbx.c
        have y2 := hbx.y
        have y3 := hbx.v
        have f0 := hbx.f 0
        have f1 := hbx.f 1
        have f2 := hbx.f 2
        have f3 := hbx.f 3
        dsimp only at y0 y1 y2 y3
        have s0 := (hbc.cell (p := ⟨wr.heap.size, 0, none⟩) hs1).trans r0
        have hgw : wr.heap.size ≤ g := by omega
        have HBC := Lib.hid (below_next HB1.out hbc)
        have hlk := actsM_len cl l k
        have hsl : Value.slice As (actsM cl l k).length cs = Value.slice As k cs := by rw [hlk]
        have hown' : OwnsActs wr w.heap.size (.slice As (actsM cl l k).length cs) (actsM cl l k) := by rw [hsl]; exact HO.out
        have HAP := Lib.hid (show ∀ (W' : World) (ty : TypeId) (a0 a1 : Int) (a2 a3 : ByteArray) (s : Nat), W'.heap.size = s → Below wr.heap.size wr W' → ∃ v' w', (Builtin.append_ #[23, 23] ty #[.slice As k cs, .slice (some ⟨s, 0, none⟩) 1 1]).run Tryz.prog (W'.alloc (.cells #[.int .i64 a0, .int .i64 a1, .string a2, .string a3] 35)) = .ok v' w' ∧ ∃ A' c', v' = .slice A' (k + 1) c' ∧ OwnsActs w' w.heap.size (.slice A' (k + 1) c') (actsM cl l k ++ [⟨a0, a1, a2, a3⟩]) ∧ Below w.heap.size w w' from fun W' ty a0 a1 a2 a3 s hs hb => by
          subst hs
          have h := app_act (ty := ty) W' w w.heap.size cs As (actsM cl l k) ⟨a0, a1, a2, a3⟩ (Cells.Owns.kept hown' hb) (by rw [hlk]; omega) (Nat.le_trans HB.out.size hb.size) (below_next HB.out hb)
          rw [hlk] at h
          exact h)
        clear hsl hown'
        have HP30 := Lib.hid (picked_any rk 30 wc ok0 (by decide) (by decide))
        obtain ⟨p0, p1⟩ := pick_bd rk (show (0 : Int) < 30 by decide)
        have HSUC := Lib.hid (actsM_succ cl l k)
        rw [← HRD.out] at HSUC
        rw [HAO.out] at HSUC
        clear HAO
        obtain ⟨p, hpd⟩ : ∃ p, p = pickM rk 30 := ⟨_, rfl⟩
        rw [← hpd] at HP30 p0 p1 HSUC
        clear hpd hbx hbc HIT HKY HPK HVS HSK r0 r1 r3 hlk
        by_cases t5 : p < 5
        · have d1 : decide (p < 5) = true := decide_eq_true t5
          rw [if_pos t5] at HSUC
          go_wp2_with fail
          refine HP30.out.mono ?_
          rintro e w' ⟨rfl, hw⟩
          rw [hw]
          clear hw w'
          go_wp2_with (at_builtin; refine (wpList_append_run _ rfl (.tmp 70) (.tmp 72) 23 rfl (.slice As k cs) (.slice (some ⟨wc.heap.size, 0, none⟩) 1 1) rfl rfl (HAP.out _ _ 1 pc ⟨#[]⟩ ⟨#[]⟩ wc.heap.size (by simp only [size_set]) (by repeat (first | exact HBC.out | (refine Below.setCell ?_ (show wr.heap.size ≤ g from hgw) _)))) ?_); rintro v1 w2 ⟨A2, c2, rfl, hown2, hb2⟩; have HO2 := Lib.hid hown2; have HB2 := Lib.hid hb2; clear hown2 hb2)
          go_roundw
          case rel => exact ⟨k + 1, A2, c2, by omega, by go_num, rfl, by rw [HSUC.out]; exact HO2.out, HB2.out⟩
          case measure => simp [intOf]; omega
        have d1 : decide (p < 5) = false := decide_eq_false t5
        rw [if_neg t5] at HSUC
        by_cases t9 : p < 9
        · have d2 : decide (p < 9) = true := decide_eq_true t9
          rw [if_pos t9] at HSUC
          go_wp2_with fail
          refine HP30.out.mono ?_
          rintro e w' ⟨rfl, hw⟩
          rw [hw]
          clear hw w'
          go_wp2_with (at_builtin; refine (wpList_append_run _ rfl (.tmp 70) (.tmp 72) 23 rfl (.slice As k cs) (.slice (some ⟨wc.heap.size, 0, none⟩) 1 1) rfl rfl (HAP.out _ _ 2 pc ky ⟨#[]⟩ wc.heap.size (by simp only [size_set]) (by repeat (first | exact HBC.out | (refine Below.setCell ?_ (show wr.heap.size ≤ g from hgw) _)))) ?_); rintro v1 w2 ⟨A2, c2, rfl, hown2, hb2⟩; have HO2 := Lib.hid hown2; have HB2 := Lib.hid hb2; clear hown2 hb2)
          go_roundw
          case rel => exact ⟨k + 1, A2, c2, by omega, by go_num, rfl, by rw [HSUC.out]; exact HO2.out, HB2.out⟩
          case measure => simp [intOf]; omega
        have d2 : decide (p < 9) = false := decide_eq_false t9
        rw [if_neg t9] at HSUC
        by_cases t15 : p < 15
        · have d3 : decide (p < 15) = true := decide_eq_true t15
          rw [if_pos t15] at HSUC
          go_wp2_with fail
          refine HP30.out.mono ?_
          rintro e w' ⟨rfl, hw⟩
          rw [hw]
          clear hw w'
          go_wp2_with (at_builtin; refine (wpList_append_run _ rfl (.tmp 70) (.tmp 72) 23 rfl (.slice As k cs) (.slice (some ⟨wc.heap.size, 0, none⟩) 1 1) rfl rfl (HAP.out _ _ 3 pc ky ((⟨#[118]⟩ : ByteArray) ++ it) wc.heap.size (by simp only [size_set]) (by repeat (first | exact HBC.out | (refine Below.setCell ?_ (show wr.heap.size ≤ g from hgw) _)))) ?_); rintro v1 w2 ⟨A2, c2, rfl, hown2, hb2⟩; have HO2 := Lib.hid hown2; have HB2 := Lib.hid hb2; clear hown2 hb2)
          go_roundw
          case rel => exact ⟨k + 1, A2, c2, by omega, by go_num, rfl, by rw [HSUC.out]; exact HO2.out, HB2.out⟩
          case measure => simp [intOf]; omega
        have d3 : decide (p < 15) = false := decide_eq_false t15
        rw [if_neg t15] at HSUC
        by_cases t27 : p < 27
        · have d4 : decide (p < 27) = true := decide_eq_true t27
          rw [if_pos t27] at HSUC
          go_wp2_with fail
          refine HP30.out.mono ?_
          rintro e w' ⟨rfl, hw⟩
          rw [hw]
          clear hw w'
          go_wp2_with (at_builtin; refine (wpList_append_run _ rfl (.tmp 70) (.tmp 72) 23 rfl (.slice As k cs) (.slice (some ⟨wc.heap.size, 0, none⟩) 1 1) rfl rfl (HAP.out _ _ 4 pc ⟨#[]⟩ ⟨#[]⟩ wc.heap.size (by simp only [size_set]) (by repeat (first | exact HBC.out | (refine Below.setCell ?_ (show wr.heap.size ≤ g from hgw) _)))) ?_); rintro v1 w2 ⟨A2, c2, rfl, hown2, hb2⟩; have HO2 := Lib.hid hown2; have HB2 := Lib.hid hb2; clear hown2 hb2)
          go_roundw
          case rel => exact ⟨k + 1, A2, c2, by omega, by go_num, rfl, by rw [HSUC.out]; exact HO2.out, HB2.out⟩
          case measure => simp [intOf]; omega
        have d4 : decide (p < 27) = false := decide_eq_false t27
        rw [if_neg t27] at HSUC
        by_cases te : p = 27
        · have d5 : (p == 27) = true := by simpa using te
          rw [if_pos te] at HSUC
          go_wp2_with fail
          refine HP30.out.mono ?_
          rintro e w' ⟨rfl, hw⟩
          rw [hw]
          clear hw w'
          go_wp2_with (at_builtin; refine (wpList_append_run _ rfl (.tmp 70) (.tmp 72) 23 rfl (.slice As k cs) (.slice (some ⟨wc.heap.size, 0, none⟩) 1 1) rfl rfl (HAP.out _ _ 5 pc ⟨#[]⟩ ⟨#[]⟩ wc.heap.size (by simp only [size_set]) (by repeat (first | exact HBC.out | (refine Below.setCell ?_ (show wr.heap.size ≤ g from hgw) _)))) ?_); rintro v1 w2 ⟨A2, c2, rfl, hown2, hb2⟩; have HO2 := Lib.hid hown2; have HB2 := Lib.hid hb2; clear hown2 hb2)
          go_roundw
          case rel => exact ⟨k + 1, A2, c2, by omega, by go_num, rfl, by rw [HSUC.out]; exact HO2.out, HB2.out⟩
          case measure => simp [intOf]; omega
        · have d5 : (p == 27) = false := by simpa using te
          rw [if_neg te] at HSUC
          go_wp2_with fail
          refine HP30.out.mono ?_
          rintro e w' ⟨rfl, hw⟩
          rw [hw]
          clear hw w'
          go_wp2_with (at_builtin; refine (wpList_append_run _ rfl (.tmp 70) (.tmp 72) 23 rfl (.slice As k cs) (.slice (some ⟨wc.heap.size, 0, none⟩) 1 1) rfl rfl (HAP.out _ _ 6 pc ky ⟨#[]⟩ wc.heap.size (by simp only [size_set]) (by repeat (first | exact HBC.out | (refine Below.setCell ?_ (show wr.heap.size ≤ g from hgw) _)))) ?_); rintro v1 w2 ⟨A2, c2, rfl, hown2, hb2⟩; have HO2 := Lib.hid hown2; have HB2 := Lib.hid hb2; clear hown2 hb2)
          go_roundw
          case rel => exact ⟨k + 1, A2, c2, by omega, by go_num, rfl, by rw [HSUC.out]; exact HO2.out, HB2.out⟩
          case measure => simp [intOf]; omega
    · have hke : k = min l.length most := by omega
      have hlk := actsM_len cl l k
      have HK := Lib.hid hke
      by_cases hq : k < l.length
      · have j2 : decide ((k : Int) < (l.length : Int)) = true := decide_eq_true (by omega)
        have j3 : decide ((k : Int) < (most : Int)) = false := decide_eq_false (by omega)
        clear hown hb hke
        go_wp2
        go_ret
        exact ⟨As, cs, by rw [← HK.out, hlk]; rfl, by rw [← HK.out, hlk]; exact HO.out, HB.out⟩
      · have j2 : decide ((k : Int) < (l.length : Int)) = false := decide_eq_false (by omega)
        clear hown hb hke
        go_wp2
        go_ret
        exact ⟨As, cs, by rw [← HK.out, hlk]; rfl, by rw [← HK.out, hlk]; exact HO.out, HB.out⟩
end Go.Proofs.YtambkjnhfejfaacGreatDoor
