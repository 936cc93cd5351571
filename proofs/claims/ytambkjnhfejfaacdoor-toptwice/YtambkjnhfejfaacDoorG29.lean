/-
  Contracts of functions of the program and words for memory, several texts in one: KDeed, KRaw, KActsWalk0, KTopRun. Conditions: those stated with each.
-/
import Derived.Test.YtambkjnhfejfaacDoorG01
import Derived.Test.YtambkjnhfejfaacDoorG28
import Derived.Deep.DeepCutAuto
namespace Go.Proofs.YtambkjnhfejfaacDoor
open Go.RowKit

/-- Short strings in memory. -/
abbrev StrsAt (w : World) (P : Nat → Prop) (A : Option Addr) (l : List ByteArray) : Prop := SeqAt P 1 100000 (fun b o (k : ByteArray) => w.cell? ⟨b, o, none⟩ = some (.string k) ∧ k.size ≤ 6) A l
theorem SeqAt.strs {w w' : World} {P P' : Nat → Prop} {A : Option Addr} {l : List ByteArray} (h : StrsAt w P A l) (hP : ∀ b, P b → P' b) (hk : ∀ b k, P b → w'.cell? ⟨b, k, none⟩ = w.cell? ⟨b, k, none⟩) : StrsAt w' P' A l :=
  SeqAt.mono h hP fun b _ _ _ hb hx => ⟨(hk b _ hb).trans hx.1, hx.2⟩
/-- A slice of acts that goes out. -/
def ActsOut (l : List ActM) (w : World) (e : Ending) (w' : World) : Prop :=
  ∃ A c, e = .returned (.slice A l.length c) ∧ OwnsActs w' w.heap.size (.slice A l.length c) l ∧ Below w.heap.size w w'
def actB (k c : Int) : ActM := ⟨k, c, ⟨#[]⟩, ⟨#[]⟩⟩
/-- look at keys. -/
def lookM (c : Int) (keys : List ByteArray) : List ActM := actB 1 c :: keys.map fun k => ⟨2, c, k, ⟨#[]⟩⟩
theorem map_take_snoc {α β : Type} {d : α} (f : α → β) {l : List α} {k : Nat} (hk : k < l.length) : (l.take (k + 1)).map f = (l.take k).map f ++ [f (l.getD k d)] := by
  rw [List.take_succ_eq_append_getElem hk, List.map_append]
  simp [List.getD, hk]
theorem one_own (w : World) (a : ActM) : OwnsActs (w.alloc (.cells #[.int .i64 a.kind, .int .i64 a.c, .string a.key, .string a.val] 44)) w.heap.size (.slice (some ⟨w.heap.size, 0, none⟩) 1 1) [a] :=
  Cells.Owns.block (C := actCells) (l := [a]) (Nat.le_refl _) (heap_alloc_new w _) rfl (by simp)

/-- The value of a write. -/
def ofS (k : ByteArray) (c : Nat) : ByteArray := (⟨#[111, 102, 32]⟩ : ByteArray) ++ k ++ itoaS c
/-- put of keys, and so many steps. -/
def deedM (c : Nat) (steps : Nat) (keys : List ByteArray) : List ActM := (actB 1 c :: keys.map fun k => ⟨3, c, k, ofS k c⟩) ++ List.replicate steps (actB 4 c)
end Go.Proofs.YtambkjnhfejfaacDoor

namespace Go.Proofs.YtambkjnhfejfaacDoor
open Go.ChangeShapes Go.WideShapes Go.ChangeAt Go.RowKit Go.Deep

/-- Some numbers. -/
structure RawM where
  kind : Int
  a : Int
  b : Int
  c : Int
instance : Inhabited RawM := ⟨⟨0, 0, 0, 0⟩⟩
structure RawAt (w : World) (b o : Nat) (r : RawM) : Prop where
  k : w.cell? ⟨b, o, none⟩ = some (.int .i64 r.kind)
  a : w.cell? ⟨b, o + 1, none⟩ = some (.int .i64 r.a)
  bb : w.cell? ⟨b, o + 2, none⟩ = some (.int .i64 r.b)
  c : w.cell? ⟨b, o + 3, none⟩ = some (.int .i64 r.c)
  ok : i64 r.kind ∧ i64 r.a ∧ i64 r.b ∧ i64 r.c
abbrev RawsAt (w : World) (P : Nat → Prop) (A : Option Addr) (l : List RawM) : Prop := SeqAt P 4 4398046511104 (RawAt w) A l
theorem RawAt.keep {w w' : World} {b o : Nat} {x : RawM} (h : RawAt w b o x) (hk : ∀ k, w'.cell? ⟨b, k, none⟩ = w.cell? ⟨b, k, none⟩) : RawAt w' b o x := ⟨(hk _).trans h.k, (hk _).trans h.a, (hk _).trans h.bb, (hk _).trans h.c, h.ok⟩
theorem SeqAt.raws {w w' : World} {P P' : Nat → Prop} {A : Option Addr} {l : List RawM} (h : RawsAt w P A l) (hP : ∀ b, P b → P' b) (hk : ∀ b k, P b → w'.cell? ⟨b, k, none⟩ = w.cell? ⟨b, k, none⟩) : RawsAt w' P' A l :=
  SeqAt.mono h hP fun b _ _ _ hb hx => hx.keep fun k => hk b k hb
/-- The value of a write that the i-th act makes. -/
def vS (i : Nat) : ByteArray := (⟨#[118]⟩ : ByteArray) ++ itoaS i
def actOf (clients : Int) (i : Nat) (r : RawM) : ActM :=
  if pickM r.kind 30 < 5 then actB 1 (pickM r.c clients)
  else if pickM r.kind 30 < 9 then ⟨2, pickM r.c clients, keyOf r.a, ⟨#[]⟩⟩
  else if pickM r.kind 30 < 15 then ⟨3, pickM r.c clients, keyOf r.a, vS i⟩
  else if pickM r.kind 30 < 27 then actB 4 (pickM r.c clients)
  else if pickM r.kind 30 = 27 then actB 5 (pickM r.c clients)
  else ⟨6, pickM r.c clients, keyOf r.a, ⟨#[]⟩⟩
/-- The first k acts. -/
def actsM (clients : Int) (l : List RawM) (k : Nat) : List ActM := (List.range k).map fun i => actOf clients i (l.getD i default)
theorem actsM_succ (clients : Int) (l : List RawM) (k : Nat) : actsM clients l (k + 1) = actsM clients l k ++ [actOf clients k (l.getD k default)] := by
  rw [actsM, actsM, List.range_succ, List.map_append]; rfl
theorem actsM_len (clients : Int) (l : List RawM) (k : Nat) : (actsM clients l k).length = k := by simp [actsM]
theorem vS_size {i : Nat} (h : i < 100) : (vS i).size ≤ 3 := by
  have h1 := itoa_size i h
  have h2 : (⟨#[118]⟩ : ByteArray).size = 1 := rfl
  simp only [vS, ByteArray.size_append]
  omega
theorem actOf_ok {clients : Int} {i : Nat} (h : i < 100) (r : RawM) : ActOk (actOf clients i r) := by
  have h1 := keys4_size _ (keyOf_mem r.a)
  have h2 := vS_size h
  have e : (⟨#[]⟩ : ByteArray).size = 0 := rfl
  have hk : (keyOf r.a).size ≤ maxLen := by simp only [maxLen]; omega
  have hv : (vS i).size ≤ maxLen := by simp only [maxLen]; omega
  have hz : (⟨#[]⟩ : ByteArray).size ≤ maxLen := by rw [e]; exact Nat.zero_le _
  unfold actOf
  repeat' split
  all_goals first | exact ⟨hz, hz⟩ | exact ⟨hk, hz⟩ | exact ⟨hk, hv⟩
theorem actsM_ok {clients : Int} {l : List RawM} {k : Nat} (h : k ≤ 100) : ∀ a ∈ actsM clients l k, ActOk a := by
  intro a ha
  obtain ⟨i, hi, rfl⟩ := List.mem_map.1 ha
  exact actOf_ok (by have := List.mem_range.1 hi; omega) _

theorem cells_raw : Tryd.prog.cellsOf 41 = 4 := by kernel_rfl
theorem bytes_raw : Tryd.prog.bytesOf 41 = 32 := by kernel_rfl
theorem cells_rawsS : Tryd.prog.cellsOf 22 = 1 := by kernel_rfl
section
variable {H : Type} {enc : TypeId × Value → H} {W : World}
set_option maxRecDepth 100000 in
theorem open_rawAt {n b o : Nat} {cs : List Value} {x : DataW H × List MemPlace} (hc : W.cells? 0 ⟨b, o, none⟩ 4 = some cs) (h : DataW.trod enc Tryd.prog W 0 (fun _ => true) true n 41 cs = some x) : ∃ r : RawM, RawAt W b o r := by
  obtain ⟨_, hcl, hat⟩ := World.cells?_some hc
  obtain ⟨ys, n', _, hx, hlen, hyl, hg⟩ := DataW.trod_struct Tryd.underlying41 h
  match cs, hcl with
  | [v0, v1, v2, v3], _ =>
    have f0 : DataW.trod enc Tryd.prog W 0 (fun _ => true) true n' 3 (([v0, v1, v2, v3].drop 0).take (Tryd.prog.cellsOf 3)) = ys[0]? := hg 0 _ rfl
    have f1 : DataW.trod enc Tryd.prog W 0 (fun _ => true) true n' 3 (([v0, v1, v2, v3].drop 1).take (Tryd.prog.cellsOf 3)) = ys[1]? := hg 1 _ rfl
    have f2 : DataW.trod enc Tryd.prog W 0 (fun _ => true) true n' 3 (([v0, v1, v2, v3].drop 2).take (Tryd.prog.cellsOf 3)) = ys[2]? := hg 2 _ rfl
    have f3 : DataW.trod enc Tryd.prog W 0 (fun _ => true) true n' 3 (([v0, v1, v2, v3].drop 3).take (Tryd.prog.cellsOf 3)) = ys[3]? := hg 3 _ rfl
    rw [cells_int] at f0 f1 f2 f3
    match ys, hyl with
    | [y0, y1, y2, y3], _ =>
      simp only [List.drop_zero, List.take_succ_cons, List.take_zero, List.drop_succ_cons, List.getElem?_cons_zero, List.getElem?_cons_succ] at f0 f1 f2 f3
      obtain ⟨p, e0, _, w0⟩ := DataW.trod_int Tryd.underlying3 f0
      obtain ⟨s, e1, _, w1⟩ := DataW.trod_int Tryd.underlying3 f1
      obtain ⟨m, e2, _, w2⟩ := DataW.trod_int Tryd.underlying3 f2
      obtain ⟨a, e3, _, w3⟩ := DataW.trod_int Tryd.underlying3 f3
      simp only [List.cons.injEq, and_true] at e0 e1 e2 e3
      subst e0 e1 e2 e3
      exact ⟨⟨p, s, m, a⟩, by simpa [Addr.add] using hat 0 (by omega), by simpa [Addr.add] using hat 1 (by omega), by simpa [Addr.add] using hat 2 (by omega), by simpa [Addr.add] using hat 3 (by omega), i64_of_wf w0, i64_of_wf w1, i64_of_wf w2, i64_of_wf w3⟩
set_option maxRecDepth 100000 in
/-- A slice of raw numbers that came in. -/
theorem open_raws {r0 : Reach} {base : Nat} {v : Value} {d : DataW H} {p : List MemPlace} (hv : Value.okWide Tryd.prog W r0 base 22 v) (h : DataW.Trod enc Tryd.prog W 0 (fun _ => true) true 22 v d p)
    (hz : ∀ k ∈ d.weights Tryd.prog 22, k ≤ reachBytes) : ∃ (l : List RawM) (A : Option Addr) (c : Nat), v = .slice A l.length c ∧ RawsAt W (· < W.heap.size) A l := by
  obtain ⟨fuel, hf⟩ := h
  obtain ⟨A, n, c, rfl⟩ := okWide_slice Tryd.underlying22 hv
  obtain ⟨l, hl, hr, hcap⟩ := open_seq (E := RawAt W) (sz := 4) (by_ := 32) (mx := 4398046511104) Tryd.underlying22 cells_raw (by omega) bytes_raw (fun n h => by unfold reachBytes at h; omega) hf hz (fun b o n' cs y hc ht _ => open_rawAt hc ht)
  exact ⟨l, A, c, by rw [hl], hr⟩
end
end Go.Proofs.YtambkjnhfejfaacDoor

namespace Go.Proofs.YtambkjnhfejfaacDoor
open Go.RowKit Go.Deep

/-- An act in its box. -/
structure ActBox (w : World) (g : Nat) (a : ActM) : Prop where
  k : w.cell? ⟨g, 0, none⟩ = some (.int .i64 a.kind)
  c : w.cell? ⟨g, 1, none⟩ = some (.int .i64 a.c)
  y : w.cell? ⟨g, 2, none⟩ = some (.string a.key)
  v : w.cell? ⟨g, 3, none⟩ = some (.string a.val)
  f : ∀ o, w.frozen? ⟨g, o, none⟩ = false
theorem ActBox.new (w : World) (a0 a1 : Int) (a2 a3 : ByteArray) : ActBox (w.alloc (.cells #[.int .i64 a0, .int .i64 a1, .string a2, .string a3] 44)) w.heap.size ⟨a0, a1, a2, a3⟩ := ⟨by simp, by simp, by simp, by simp, fun o => by simp⟩
theorem ActBox.upto {w w' : World} {g : Nat} {a : ActM} (h : ActBox w g a) (hb : Below w.heap.size w w') : ActBox w' g a := by
  have hg : g < w.heap.size := World.block_lt_of_cell? w _ h.k
  obtain ⟨hc, hf⟩ := bcell hb
  exact ⟨(hc _ _ hg).trans h.k, (hc _ _ hg).trans h.c, (hc _ _ hg).trans h.y, (hc _ _ hg).trans h.v, fun o => (hf _ _ hg).trans (h.f o)⟩
/-- Four cells stored. -/
theorem ActBox.set4 {w : World} {g : Nat} {a : ActM} (h : ActBox w g a) (b0 b1 : Int) (b2 b3 : ByteArray) : ActBox ((((w.setCell ⟨g, 0, none⟩ (.int .i64 b0)).setCell ⟨g, 1, none⟩ (.int .i64 b1)).setCell ⟨g, 2, none⟩ (.string b2)).setCell ⟨g, 3, none⟩ (.string b3)) g ⟨b0, b1, b2, b3⟩ := by
  have ne : ∀ i j : Nat, i ≠ j → (⟨g, i, none⟩ : Addr) ≠ ⟨g, j, none⟩ := fun i j h e => h (by injection e)
  refine ⟨?_, ?_, ?_, ?_, fun o => ?_⟩
  · rw [World.cell?_setCell_other _ _ _ _ (ne 3 0 (by decide)), World.cell?_setCell_other _ _ _ _ (ne 2 0 (by decide)), World.cell?_setCell_other _ _ _ _ (ne 1 0 (by decide))]
    exact World.cell?_setCell_same _ _ _ h.k
  · rw [World.cell?_setCell_other _ _ _ _ (ne 3 1 (by decide)), World.cell?_setCell_other _ _ _ _ (ne 2 1 (by decide))]
    exact World.cell?_setCell_same _ _ _ ((World.cell?_setCell_other _ _ _ _ (ne 0 1 (by decide))).trans h.c)
  · rw [World.cell?_setCell_other _ _ _ _ (ne 3 2 (by decide))]
    exact World.cell?_setCell_same _ _ _ (((World.cell?_setCell_other _ _ _ _ (ne 1 2 (by decide))).trans (World.cell?_setCell_other _ _ _ _ (ne 0 2 (by decide)))).trans h.y)
  · exact World.cell?_setCell_same _ _ _ ((((World.cell?_setCell_other _ _ _ _ (ne 2 3 (by decide))).trans (World.cell?_setCell_other _ _ _ _ (ne 1 3 (by decide)))).trans (World.cell?_setCell_other _ _ _ _ (ne 0 3 (by decide)))).trans h.v)
  · simp only [World.frozen?_setCell]; exact h.f o
theorem below_set4 {w W : World} {B : Nat} (h : Below B w W) {g : Nat} (hg : B ≤ g) (v0 v1 v2 v3 : Value) : Below B w ((((W.setCell ⟨g, 0, none⟩ v0).setCell ⟨g, 1, none⟩ v1).setCell ⟨g, 2, none⟩ v2).setCell ⟨g, 3, none⟩ v3) := (((h.setCell hg _).setCell hg _).setCell hg _).setCell hg _
theorem size_set (w : World) (p : Addr) (v : Value) : (w.setCell p v).heap.size = w.heap.size := by simp [World.setCell]
set_option maxRecDepth 100000 in
set_option maxHeartbeats 4000000 in
theorem acts_any (A : Option Addr) (q : Nat) (l : List RawM) (most : Nat) (hmost : most ≤ 90) (cl : Nat) (hcl : 0 < cl) (hcl' : cl ≤ 5) (w : World) (hr : RawsAt w (· < w.heap.size) A l) :
    Calls Tryd.prog 6 #[.slice A l.length q, .int .i64 most, .int .i64 cl] w (ActsOut (actsM cl l (min l.length most)) w) := by
  have HR := Lib.hid hr
  have hlen := hr.1
  clear hr
  go_enter Tryd.func6, Tryd.ntmps6
  go_wp2
  go_loopw [7, 8] (fun v i wr => ∃ (k : Nat) (As : Option Addr) (cs : Nat), k ≤ min l.length most ∧ i = .int .i64 k ∧ v = .slice As k cs ∧ OwnsActs wr w.heap.size (.slice As k cs) (actsM cl l k) ∧ Below w.heap.size w wr) (fun _ i _ => min l.length most - (intOf i).toNat)
  case atStart => exact ⟨0, none, 0, Nat.zero_le _, rfl, rfl, Cells.Owns.nil _ _ _, Below.refl _ _⟩
  case round =>
    obtain ⟨k, As, cs, hk, rfl, rfl, hown, hb⟩ := hrel
    have HO := Lib.hid hown
    have HB := Lib.hid hb
    by_cases hm : k < min l.length most
    · have hml : k < l.length := by omega
      have hmm : k < most := by omega
      obtain ⟨b, o, hA, hbb, hx⟩ := SeqAt.at_ (HR.out.raws (below_mem hb).1 (below_mem hb).2) (getD_some (d := default) hml)
      subst hA
      obtain ⟨r, hrd⟩ : ∃ r, r = l.getD k default := ⟨_, rfl⟩
      rw [← hrd] at hx
      have x0 := hx.k
      have x1 := hx.a
      have x2 := hx.bb
      have x3 := hx.c
      obtain ⟨ok0, ok1, ok2, ok3⟩ := hx.ok
      have j0 : (0 : Int) ≤ (k : Int) := by omega
      have j1 : (k : Int) < (l.length : Int) := by omega
      have j2 : decide ((k : Int) < (l.length : Int)) = true := decide_eq_true (by omega)
      have j3 : decide ((k : Int) < (most : Int)) = true := decide_eq_true (by omega)
      have HRD := Lib.hid hrd
      obtain ⟨rk, ra, rb, rcc⟩ := r
      dsimp only at x0 x1 x2 x3 ok0 ok1 ok2 ok3
      clear hown hb hx hrd
      go_wp2
      obtain ⟨W1, hW1⟩ : ∃ W1, W1 = wr.alloc (.cells #[.int .i64 rk, .int .i64 ra, .int .i64 rb, .int .i64 rcc] 41) := ⟨_, rfl⟩
      have r0 : W1.cell? ⟨wr.heap.size, 0, none⟩ = some (.int .i64 rk) := by rw [hW1]; simp
      have r1 : W1.cell? ⟨wr.heap.size, 1, none⟩ = some (.int .i64 ra) := by rw [hW1]; simp
      have r3 : W1.cell? ⟨wr.heap.size, 3, none⟩ = some (.int .i64 rcc) := by rw [hW1]; simp
      have hs1 : wr.heap.size < W1.heap.size := by rw [hW1]; simp
      have HB1 := Lib.hid (show Below wr.heap.size wr W1 by rw [hW1]; exact below_alloc (Below.refl _ _) _)
      rw [← hW1]
      clear hW1 x0 x1 x2 x3
      have HSK := Lib.hid (show ∀ W, Below W1.heap.size W1 W → W.cell? ⟨wr.heap.size, 1, none⟩ = some (.int .i64 ra) ∧ W.cell? ⟨wr.heap.size, 3, none⟩ = some (.int .i64 rcc) from fun W hb => ⟨(hb.cell (p := ⟨wr.heap.size, 1, none⟩) hs1).trans r1, (hb.cell (p := ⟨wr.heap.size, 3, none⟩) hs1).trans r3⟩)
      have HPK := Lib.hid (fun W => picked_any rcc cl W ok3 (by omega) (by omega))
      have HKY := Lib.hid (fun W => kKey_any ra W ok1)
      have HIT := Lib.hid (fun W => itoa_any k (by omega) W)
      have hit := itoa_size k (by omega)
      obtain ⟨it, hitd⟩ : ∃ it, it = itoaS k := ⟨_, rfl⟩
      have HVS := Lib.hid (show vS k = (⟨#[118]⟩ : ByteArray) ++ it by rw [vS, hitd])
      rw [← hitd] at HIT hit
      have hit2 : ¬ (9223372036854775807 < 1 + it.size) := by omega
      have hky := keys4_size _ (keyOf_mem ra)
      obtain ⟨ky, hkyd⟩ : ∃ ky, ky = keyOf ra := ⟨_, rfl⟩
      rw [← hkyd] at HKY hky
      obtain ⟨pc, hpcd⟩ : ∃ pc, pc = pickM rcc cl := ⟨_, rfl⟩
      rw [← hpcd] at HPK
      have HAO := Lib.hid (show actOf cl k ⟨rk, ra, rb, rcc⟩ = if pickM rk 30 < 5 then actB 1 pc else if pickM rk 30 < 9 then ⟨2, pc, ky, ⟨#[]⟩⟩ else if pickM rk 30 < 15 then ⟨3, pc, ky, (⟨#[118]⟩ : ByteArray) ++ it⟩ else if pickM rk 30 < 27 then actB 4 pc else if pickM rk 30 = 27 then actB 5 pc else ⟨6, pc, ky, ⟨#[]⟩⟩ by rw [actOf, HVS.out, hkyd, hpcd])
      clear hitd hkyd hpcd
      go_cut [10] (fun s10 wx => ∃ g, s10 = .pointer (some ⟨g, 0, none⟩) ∧ ActBox wx g ⟨0, pc, ky, (⟨#[118]⟩ : ByteArray) ++ it⟩ ∧ W1.heap.size ≤ g ∧ Below W1.heap.size W1 wx)
      case first =>
        refine wp_region_held_drew (S := fun W => W.cell? ⟨wr.heap.size, 1, none⟩ = some (.int .i64 ra) ∧ W.cell? ⟨wr.heap.size, 3, none⟩ = some (.int .i64 rcc)) (by kernel_rfl) ?_ (fun hHeld => ?_)
        · exact ⟨r1, r3⟩
        (refine wpAnyH_take (i := 0) (oi := ?_) (v := ?_) ?_ (by kernel_rfl) ?_ ?_ ?_ ?_ (by assumption) ?_; rotate_left 2; (simp only [List.getElem?_toArray, List.getElem?_cons_zero]; rfl); kernel_rfl; kernel_rfl; exact fun _ _ _ h => h; (refine Or.inl ⟨by rfl, ?_⟩; intro w hSw; (try dsimp only at hSw); go_simp; (first | done | with_reducible rfl)); (try simp only [Act.put, List.setIfInBounds_toArray, List.set_cons_zero, List.set_cons_succ]))
        (first | (refine wpAnyH_take (i := 1) (oi := ?_) (v := ?_) ?_ (by kernel_rfl) ?_ ?_ ?_ ?_ (by assumption) ?_; rotate_left 2; (simp only [List.getElem?_toArray, List.getElem?_cons_zero, List.getElem?_cons_succ]; rfl); kernel_rfl; kernel_rfl; exact fun _ _ _ h => h; (refine Or.inl ⟨by rfl, ?_⟩; intro w hSw; (try dsimp only at hSw); go_simp; (first | done | with_reducible rfl)); (try simp only [Act.put, List.setIfInBounds_toArray, List.set_cons_zero, List.set_cons_succ])) | (refine wpAnyH_take (i := 1) (oi := ?_) (v := undef) ?_ (by kernel_rfl) ?_ ?_ ?_ ?_ (by assumption) ?_; rotate_left 1; (simp only [List.getElem?_toArray, List.getElem?_cons_zero, List.getElem?_cons_succ]; rfl); kernel_rfl; kernel_rfl; exact fun _ _ _ h => h; exact Or.inr ⟨by rfl, rfl⟩; (try simp only [Act.put, List.setIfInBounds_toArray, List.set_cons_zero, List.set_cons_succ])))
        (first | (refine wpAnyH_take (i := 2) (oi := ?_) (v := ?_) ?_ (by kernel_rfl) ?_ ?_ ?_ ?_ (by assumption) ?_; rotate_left 2; (simp only [List.getElem?_toArray, List.getElem?_cons_zero, List.getElem?_cons_succ]; rfl); kernel_rfl; kernel_rfl; exact fun _ _ _ h => h; (refine Or.inl ⟨by rfl, ?_⟩; intro w hSw; (try dsimp only at hSw); go_simp; (first | done | with_reducible rfl)); (try simp only [Act.put, List.setIfInBounds_toArray, List.set_cons_zero, List.set_cons_succ])) | (refine wpAnyH_take (i := 2) (oi := ?_) (v := undef) ?_ (by kernel_rfl) ?_ ?_ ?_ ?_ (by assumption) ?_; rotate_left 1; (simp only [List.getElem?_toArray, List.getElem?_cons_zero, List.getElem?_cons_succ]; rfl); kernel_rfl; kernel_rfl; exact fun _ _ _ h => h; exact Or.inr ⟨by rfl, rfl⟩; (try simp only [Act.put, List.setIfInBounds_toArray, List.set_cons_zero, List.set_cons_succ])))
        (first | (refine wpAnyH_take (i := 4) (oi := ?_) (v := ?_) ?_ (by kernel_rfl) ?_ ?_ ?_ ?_ (by assumption) ?_; rotate_left 2; (simp only [List.getElem?_toArray, List.getElem?_cons_zero, List.getElem?_cons_succ]; rfl); kernel_rfl; kernel_rfl; exact fun _ _ _ h => h; (refine Or.inl ⟨by rfl, ?_⟩; intro w hSw; (try dsimp only at hSw); go_simp; (first | done | with_reducible rfl)); (try simp only [Act.put, List.setIfInBounds_toArray, List.set_cons_zero, List.set_cons_succ])) | (refine wpAnyH_take (i := 4) (oi := ?_) (v := undef) ?_ (by kernel_rfl) ?_ ?_ ?_ ?_ (by assumption) ?_; rotate_left 1; (simp only [List.getElem?_toArray, List.getElem?_cons_zero, List.getElem?_cons_succ]; rfl); kernel_rfl; kernel_rfl; exact fun _ _ _ h => h; exact Or.inr ⟨by rfl, rfl⟩; (try simp only [Act.put, List.setIfInBounds_toArray, List.set_cons_zero, List.set_cons_succ])))
        (first | (refine wpAnyH_take (i := 5) (oi := ?_) (v := ?_) ?_ (by kernel_rfl) ?_ ?_ ?_ ?_ (by assumption) ?_; rotate_left 2; (simp only [List.getElem?_toArray, List.getElem?_cons_zero, List.getElem?_cons_succ]; rfl); kernel_rfl; kernel_rfl; exact fun _ _ _ h => h; (refine Or.inl ⟨by rfl, ?_⟩; intro w hSw; (try dsimp only at hSw); go_simp; (first | done | with_reducible rfl)); (try simp only [Act.put, List.setIfInBounds_toArray, List.set_cons_zero, List.set_cons_succ])) | (refine wpAnyH_take (i := 5) (oi := ?_) (v := undef) ?_ (by kernel_rfl) ?_ ?_ ?_ ?_ (by assumption) ?_; rotate_left 1; (simp only [List.getElem?_toArray, List.getElem?_cons_zero, List.getElem?_cons_succ]; rfl); kernel_rfl; kernel_rfl; exact fun _ _ _ h => h; exact Or.inr ⟨by rfl, rfl⟩; (try simp only [Act.put, List.setIfInBounds_toArray, List.set_cons_zero, List.set_cons_succ])))
        (first | (refine wpAnyH_take (i := 7) (oi := ?_) (v := ?_) ?_ (by kernel_rfl) ?_ ?_ ?_ ?_ (by assumption) ?_; rotate_left 2; (simp only [List.getElem?_toArray, List.getElem?_cons_zero, List.getElem?_cons_succ]; rfl); kernel_rfl; kernel_rfl; exact fun _ _ _ h => h; (refine Or.inl ⟨by rfl, ?_⟩; intro w hSw; (try dsimp only at hSw); go_simp; (first | done | with_reducible rfl)); (try simp only [Act.put, List.setIfInBounds_toArray, List.set_cons_zero, List.set_cons_succ])) | (refine wpAnyH_take (i := 7) (oi := ?_) (v := undef) ?_ (by kernel_rfl) ?_ ?_ ?_ ?_ (by assumption) ?_; rotate_left 1; (simp only [List.getElem?_toArray, List.getElem?_cons_zero, List.getElem?_cons_succ]; rfl); kernel_rfl; kernel_rfl; exact fun _ _ _ h => h; exact Or.inr ⟨by rfl, rfl⟩; (try simp only [Act.put, List.setIfInBounds_toArray, List.set_cons_zero, List.set_cons_succ])))
        refine wpAnyH_ready (rs := [3, 11]) (by kernel_rfl) (by simp) ?_
        refine AllReadyH.cons (o := ?_) ?_ (fun K hK => ?_) ?_
        rotate_left 1
        · (simp only [List.getElem?_toArray, List.getElem?_cons_zero, List.getElem?_cons_succ]; rfl)
        · go_simp
          refine (HPK.out _).mono ?_
          rintro e w' ⟨rfl, hw⟩
          rw [hw]
          clear hw w'
          clear hHeld
          (refine hK.out _ _ ?_ (fun hHeld => ?_); exact HSK.out _ (below_drew (Below.refl _ _)); clear hK K)
          refine wpAnyH_ready (rs := [6, 11]) (by kernel_rfl) (by simp) ?_
          refine AllReadyH.cons (o := ?_) ?_ (fun K hK => ?_) ?_
          rotate_left 1
          · (simp only [List.getElem?_toArray, List.getElem?_cons_zero, List.getElem?_cons_succ]; rfl)
          · go_simp
            refine (HKY.out _).mono ?_
            rintro e w2 ⟨rfl, hb2⟩
            have HB2 := Lib.hid (show Below W1.heap.size W1 w2 from below_next (below_drew (Below.refl _ _)) hb2)
            clear hb2
            clear hHeld
            (refine hK.out _ _ ?_ (fun hHeld => ?_); exact HSK.out _ HB2.out; clear hK K)
            refine wpAnyH_ready (rs := [8, 11]) (by kernel_rfl) (by simp) ?_
            refine AllReadyH.cons (o := ?_) ?_ (fun K hK => ?_) ?_
            rotate_left 1
            · (simp only [List.getElem?_toArray, List.getElem?_cons_zero, List.getElem?_cons_succ]; rfl)
            · go_simp
              refine (HIT.out _).mono ?_
              rintro e w' ⟨rfl, hw⟩
              rw [hw]
              clear hw w'
              clear hHeld
              (refine hK.out _ _ ?_ (fun hHeld => ?_); exact HSK.out _ HB2.out; clear hK K)
              (first | (refine wpAnyH_take (i := 9) (oi := ?_) (v := ?_) ?_ (by kernel_rfl) ?_ ?_ ?_ ?_ (by assumption) ?_; rotate_left 2; (simp only [List.getElem?_toArray, List.getElem?_cons_zero, List.getElem?_cons_succ]; rfl); kernel_rfl; kernel_rfl; exact fun _ _ _ h => h; (refine Or.inl ⟨by rfl, ?_⟩; intro w hSw; (try dsimp only at hSw); go_simp; (first | done | with_reducible rfl)); (try simp only [Act.put, List.setIfInBounds_toArray, List.set_cons_zero, List.set_cons_succ])) | (refine wpAnyH_take (i := 9) (oi := ?_) (v := undef) ?_ (by kernel_rfl) ?_ ?_ ?_ ?_ (by assumption) ?_; rotate_left 1; (simp only [List.getElem?_toArray, List.getElem?_cons_zero, List.getElem?_cons_succ]; rfl); kernel_rfl; kernel_rfl; exact fun _ _ _ h => h; exact Or.inr ⟨by rfl, rfl⟩; (try simp only [Act.put, List.setIfInBounds_toArray, List.set_cons_zero, List.set_cons_succ])))
              (first | (refine wpAnyH_take (i := 10) (oi := ?_) (v := ?_) ?_ (by kernel_rfl) ?_ ?_ ?_ ?_ (by assumption) ?_; rotate_left 2; (simp only [List.getElem?_toArray, List.getElem?_cons_zero, List.getElem?_cons_succ]; rfl); kernel_rfl; kernel_rfl; exact fun _ _ _ h => h; (refine Or.inl ⟨by rfl, ?_⟩; intro w hSw; (try dsimp only at hSw); go_simp; (first | done | with_reducible rfl)); (try simp only [Act.put, List.setIfInBounds_toArray, List.set_cons_zero, List.set_cons_succ])) | (refine wpAnyH_take (i := 10) (oi := ?_) (v := undef) ?_ (by kernel_rfl) ?_ ?_ ?_ ?_ (by assumption) ?_; rotate_left 1; (simp only [List.getElem?_toArray, List.getElem?_cons_zero, List.getElem?_cons_succ]; rfl); kernel_rfl; kernel_rfl; exact fun _ _ _ h => h; exact Or.inr ⟨by rfl, rfl⟩; (try simp only [Act.put, List.setIfInBounds_toArray, List.set_cons_zero, List.set_cons_succ])))
              (refine wpAnyH_ready (rs := [11]) (by kernel_rfl) (by simp) ?_; refine AllReadyH.cons (o := ?_) ?_ (fun K hK => ?_) AllReadyH.nil; rotate_left 1; (simp only [List.getElem?_toArray, List.getElem?_cons_zero, List.getElem?_cons_succ]; rfl); go_simp)
              clear hHeld
              (refine hK.out _ _ ?_ (fun hHeld => ?_); exact HSK.out _ (below_alloc HB2.out _); clear hK K)
              (refine wpAnyH_ready (rs := [12]) (by kernel_rfl) (by simp) ?_; refine AllReadyH.cons (o := ?_) ?_ (fun K hK => ?_) AllReadyH.nil; rotate_left 1; (simp only [List.getElem?_toArray, List.getElem?_cons_zero, List.getElem?_cons_succ]; rfl); go_simp)
              clear hHeld
              (refine hK.out _ _ ?_ (fun hHeld => ?_); exact HSK.out _ (below_alloc HB2.out _); clear hK K)
              refine wpAnyH_done (by kernel_rfl) ?_ _
              clear hHeld
              go_wp2_with fail
              go_meet
              exact ⟨_, rfl, ActBox.new w2 _ _ _ _, HB2.out.size, below_alloc HB2.out _⟩
            · refine AllReadyH.cons (o := ?_) ?_ (fun K hK => ?_) AllReadyH.nil
              rotate_left 1
              · (simp only [List.getElem?_toArray, List.getElem?_cons_zero, List.getElem?_cons_succ]; rfl)
              · go_simp
                clear hHeld
                (refine hK.out _ _ ?_ (fun hHeld => ?_); exact HSK.out _ (below_alloc HB2.out _); clear hK K)
                (refine wpAnyH_ready (rs := [8]) (by kernel_rfl) (by simp) ?_; refine AllReadyH.cons (o := ?_) ?_ (fun K hK => ?_) AllReadyH.nil; rotate_left 1; (simp only [List.getElem?_toArray, List.getElem?_cons_zero, List.getElem?_cons_succ]; rfl); go_simp)
                refine (HIT.out _).mono ?_
                rintro e w' ⟨rfl, hw⟩
                rw [hw]
                clear hw w'
                clear hHeld
                (refine hK.out _ _ ?_ (fun hHeld => ?_); exact HSK.out _ (below_alloc HB2.out _); clear hK K)
                (first | (refine wpAnyH_take (i := 9) (oi := ?_) (v := ?_) ?_ (by kernel_rfl) ?_ ?_ ?_ ?_ (by assumption) ?_; rotate_left 2; (simp only [List.getElem?_toArray, List.getElem?_cons_zero, List.getElem?_cons_succ]; rfl); kernel_rfl; kernel_rfl; exact fun _ _ _ h => h; (refine Or.inl ⟨by rfl, ?_⟩; intro w hSw; (try dsimp only at hSw); go_simp; (first | done | with_reducible rfl)); (try simp only [Act.put, List.setIfInBounds_toArray, List.set_cons_zero, List.set_cons_succ])) | (refine wpAnyH_take (i := 9) (oi := ?_) (v := undef) ?_ (by kernel_rfl) ?_ ?_ ?_ ?_ (by assumption) ?_; rotate_left 1; (simp only [List.getElem?_toArray, List.getElem?_cons_zero, List.getElem?_cons_succ]; rfl); kernel_rfl; kernel_rfl; exact fun _ _ _ h => h; exact Or.inr ⟨by rfl, rfl⟩; (try simp only [Act.put, List.setIfInBounds_toArray, List.set_cons_zero, List.set_cons_succ])))
                (first | (refine wpAnyH_take (i := 10) (oi := ?_) (v := ?_) ?_ (by kernel_rfl) ?_ ?_ ?_ ?_ (by assumption) ?_; rotate_left 2; (simp only [List.getElem?_toArray, List.getElem?_cons_zero, List.getElem?_cons_succ]; rfl); kernel_rfl; kernel_rfl; exact fun _ _ _ h => h; (refine Or.inl ⟨by rfl, ?_⟩; intro w hSw; (try dsimp only at hSw); go_simp; (first | done | with_reducible rfl)); (try simp only [Act.put, List.setIfInBounds_toArray, List.set_cons_zero, List.set_cons_succ])) | (refine wpAnyH_take (i := 10) (oi := ?_) (v := undef) ?_ (by kernel_rfl) ?_ ?_ ?_ ?_ (by assumption) ?_; rotate_left 1; (simp only [List.getElem?_toArray, List.getElem?_cons_zero, List.getElem?_cons_succ]; rfl); kernel_rfl; kernel_rfl; exact fun _ _ _ h => h; exact Or.inr ⟨by rfl, rfl⟩; (try simp only [Act.put, List.setIfInBounds_toArray, List.set_cons_zero, List.set_cons_succ])))
                (refine wpAnyH_ready (rs := [12]) (by kernel_rfl) (by simp) ?_; refine AllReadyH.cons (o := ?_) ?_ (fun K hK => ?_) AllReadyH.nil; rotate_left 1; (simp only [List.getElem?_toArray, List.getElem?_cons_zero, List.getElem?_cons_succ]; rfl); go_simp)
                clear hHeld
                (refine hK.out _ _ ?_ (fun hHeld => ?_); exact HSK.out _ (below_alloc HB2.out _); clear hK K)
                refine wpAnyH_done (by kernel_rfl) ?_ _
                clear hHeld
                go_wp2_with fail
                go_meet
                exact ⟨_, rfl, ActBox.new w2 _ _ _ _, HB2.out.size, below_alloc HB2.out _⟩
          · refine AllReadyH.cons (o := ?_) ?_ (fun K hK => ?_) AllReadyH.nil
            rotate_left 1
            · (simp only [List.getElem?_toArray, List.getElem?_cons_zero, List.getElem?_cons_succ]; rfl)
            · go_simp
              clear hHeld
              (refine hK.out _ _ ?_ (fun hHeld => ?_); exact HSK.out _ (below_alloc (below_drew (Below.refl _ _)) _); clear hK K)
              (refine wpAnyH_ready (rs := [6]) (by kernel_rfl) (by simp) ?_; refine AllReadyH.cons (o := ?_) ?_ (fun K hK => ?_) AllReadyH.nil; rotate_left 1; (simp only [List.getElem?_toArray, List.getElem?_cons_zero, List.getElem?_cons_succ]; rfl); go_simp)
              refine (HKY.out _).mono ?_
              rintro e w2 ⟨rfl, hb2⟩
              have hbx := (ActBox.new W1.drew 0 0 ⟨#[]⟩ ⟨#[]⟩).upto hb2
              have HBX := Lib.hid hbx
              have y0 : w2.cell? ⟨W1.heap.size, 0, none⟩ = some (.int .i64 0) := hbx.k
              have y1 : w2.cell? ⟨W1.heap.size, 1, none⟩ = some (.int .i64 0) := hbx.c
              have y2 : w2.cell? ⟨W1.heap.size, 2, none⟩ = some (.string ⟨#[]⟩) := hbx.y
              have y3 : w2.cell? ⟨W1.heap.size, 3, none⟩ = some (.string ⟨#[]⟩) := hbx.v
              have f0 : w2.frozen? ⟨W1.heap.size, 0, none⟩ = false := hbx.f 0
              have f1 : w2.frozen? ⟨W1.heap.size, 1, none⟩ = false := hbx.f 1
              have f2 : w2.frozen? ⟨W1.heap.size, 2, none⟩ = false := hbx.f 2
              have f3 : w2.frozen? ⟨W1.heap.size, 3, none⟩ = false := hbx.f 3
              have HB2 := Lib.hid (show Below W1.heap.size W1 w2 from below_next (below_alloc (below_drew (Below.refl _ _)) _) hb2)
              clear hb2 hbx
              clear hHeld
              (refine hK.out _ _ ?_ (fun hHeld => ?_); exact HSK.out _ HB2.out; clear hK K)
              (refine wpAnyH_ready (rs := [8]) (by kernel_rfl) (by simp) ?_; refine AllReadyH.cons (o := ?_) ?_ (fun K hK => ?_) AllReadyH.nil; rotate_left 1; (simp only [List.getElem?_toArray, List.getElem?_cons_zero, List.getElem?_cons_succ]; rfl); go_simp)
              refine (HIT.out _).mono ?_
              rintro e w' ⟨rfl, hw⟩
              rw [hw]
              clear hw w'
              clear hHeld
              (refine hK.out _ _ ?_ (fun hHeld => ?_); exact HSK.out _ HB2.out; clear hK K)
              (first | (refine wpAnyH_take (i := 9) (oi := ?_) (v := ?_) ?_ (by kernel_rfl) ?_ ?_ ?_ ?_ (by assumption) ?_; rotate_left 2; (simp only [List.getElem?_toArray, List.getElem?_cons_zero, List.getElem?_cons_succ]; rfl); kernel_rfl; kernel_rfl; exact fun _ _ _ h => h; (refine Or.inl ⟨by rfl, ?_⟩; intro w hSw; (try dsimp only at hSw); go_simp; (first | done | with_reducible rfl)); (try simp only [Act.put, List.setIfInBounds_toArray, List.set_cons_zero, List.set_cons_succ])) | (refine wpAnyH_take (i := 9) (oi := ?_) (v := undef) ?_ (by kernel_rfl) ?_ ?_ ?_ ?_ (by assumption) ?_; rotate_left 1; (simp only [List.getElem?_toArray, List.getElem?_cons_zero, List.getElem?_cons_succ]; rfl); kernel_rfl; kernel_rfl; exact fun _ _ _ h => h; exact Or.inr ⟨by rfl, rfl⟩; (try simp only [Act.put, List.setIfInBounds_toArray, List.set_cons_zero, List.set_cons_succ])))
              (first | (refine wpAnyH_take (i := 10) (oi := ?_) (v := ?_) ?_ (by kernel_rfl) ?_ ?_ ?_ ?_ (by assumption) ?_; rotate_left 2; (simp only [List.getElem?_toArray, List.getElem?_cons_zero, List.getElem?_cons_succ]; rfl); kernel_rfl; kernel_rfl; exact fun _ _ _ h => h; (refine Or.inl ⟨by rfl, ?_⟩; intro w hSw; (try dsimp only at hSw); go_simp; (first | done | with_reducible rfl)); (try simp only [Act.put, List.setIfInBounds_toArray, List.set_cons_zero, List.set_cons_succ])) | (refine wpAnyH_take (i := 10) (oi := ?_) (v := undef) ?_ (by kernel_rfl) ?_ ?_ ?_ ?_ (by assumption) ?_; rotate_left 1; (simp only [List.getElem?_toArray, List.getElem?_cons_zero, List.getElem?_cons_succ]; rfl); kernel_rfl; kernel_rfl; exact fun _ _ _ h => h; exact Or.inr ⟨by rfl, rfl⟩; (try simp only [Act.put, List.setIfInBounds_toArray, List.set_cons_zero, List.set_cons_succ])))
              (refine wpAnyH_ready (rs := [12]) (by kernel_rfl) (by simp) ?_; refine AllReadyH.cons (o := ?_) ?_ (fun K hK => ?_) AllReadyH.nil; rotate_left 1; (simp only [List.getElem?_toArray, List.getElem?_cons_zero, List.getElem?_cons_succ]; rfl); go_simp)
              clear hHeld
              (refine hK.out _ _ ?_ (fun hHeld => ?_); exact HSK.out _ (below_set4 HB2.out (Nat.le_refl _) _ _ _ _); clear hK K)
              refine wpAnyH_done (by kernel_rfl) ?_ _
              clear hHeld
              go_wp2_with fail
              go_meet
              exact ⟨_, rfl, HBX.out.set4 _ _ _ _, Nat.le_refl _, below_set4 HB2.out (Nat.le_refl _) _ _ _ _⟩
        · refine AllReadyH.cons (o := ?_) ?_ (fun K hK => ?_) AllReadyH.nil
          rotate_left 1
          · (simp only [List.getElem?_toArray, List.getElem?_cons_zero, List.getElem?_cons_succ]; rfl)
          · go_simp
            clear hHeld
            (refine hK.out _ _ ?_ (fun hHeld => ?_); exact HSK.out _ (below_alloc (below_drew (Below.refl _ _)) _); clear hK K)
            (refine wpAnyH_ready (rs := [3]) (by kernel_rfl) (by simp) ?_; refine AllReadyH.cons (o := ?_) ?_ (fun K hK => ?_) AllReadyH.nil; rotate_left 1; (simp only [List.getElem?_toArray, List.getElem?_cons_zero, List.getElem?_cons_succ]; rfl); go_simp)
            refine (HPK.out _).mono ?_
            rintro e w' ⟨rfl, hw⟩
            rw [hw]
            clear hw w'
            clear hHeld
            (refine hK.out _ _ ?_ (fun hHeld => ?_); exact HSK.out _ (below_alloc (below_drew (Below.refl _ _)) _); clear hK K)
            (refine wpAnyH_ready (rs := [6]) (by kernel_rfl) (by simp) ?_; refine AllReadyH.cons (o := ?_) ?_ (fun K hK => ?_) AllReadyH.nil; rotate_left 1; (simp only [List.getElem?_toArray, List.getElem?_cons_zero, List.getElem?_cons_succ]; rfl); go_simp)
            refine (HKY.out _).mono ?_
            rintro e w2 ⟨rfl, hb2⟩
            have hbx := (ActBox.new W1.drew 0 0 ⟨#[]⟩ ⟨#[]⟩).upto hb2
            have HBX := Lib.hid hbx
            have y0 : w2.cell? ⟨W1.heap.size, 0, none⟩ = some (.int .i64 0) := hbx.k
            have y1 : w2.cell? ⟨W1.heap.size, 1, none⟩ = some (.int .i64 0) := hbx.c
            have y2 : w2.cell? ⟨W1.heap.size, 2, none⟩ = some (.string ⟨#[]⟩) := hbx.y
            have y3 : w2.cell? ⟨W1.heap.size, 3, none⟩ = some (.string ⟨#[]⟩) := hbx.v
            have f0 : w2.frozen? ⟨W1.heap.size, 0, none⟩ = false := hbx.f 0
            have f1 : w2.frozen? ⟨W1.heap.size, 1, none⟩ = false := hbx.f 1
            have f2 : w2.frozen? ⟨W1.heap.size, 2, none⟩ = false := hbx.f 2
            have f3 : w2.frozen? ⟨W1.heap.size, 3, none⟩ = false := hbx.f 3
            have HB2 := Lib.hid (show Below W1.heap.size W1 w2 from below_next (below_alloc (below_drew (Below.refl _ _)) _) hb2)
            clear hb2 hbx
            clear hHeld
            (refine hK.out _ _ ?_ (fun hHeld => ?_); exact HSK.out _ HB2.out; clear hK K)
            (refine wpAnyH_ready (rs := [8]) (by kernel_rfl) (by simp) ?_; refine AllReadyH.cons (o := ?_) ?_ (fun K hK => ?_) AllReadyH.nil; rotate_left 1; (simp only [List.getElem?_toArray, List.getElem?_cons_zero, List.getElem?_cons_succ]; rfl); go_simp)
            refine (HIT.out _).mono ?_
            rintro e w' ⟨rfl, hw⟩
            rw [hw]
            clear hw w'
            clear hHeld
            (refine hK.out _ _ ?_ (fun hHeld => ?_); exact HSK.out _ HB2.out; clear hK K)
            (first | (refine wpAnyH_take (i := 9) (oi := ?_) (v := ?_) ?_ (by kernel_rfl) ?_ ?_ ?_ ?_ (by assumption) ?_; rotate_left 2; (simp only [List.getElem?_toArray, List.getElem?_cons_zero, List.getElem?_cons_succ]; rfl); kernel_rfl; kernel_rfl; exact fun _ _ _ h => h; (refine Or.inl ⟨by rfl, ?_⟩; intro w hSw; (try dsimp only at hSw); go_simp; (first | done | with_reducible rfl)); (try simp only [Act.put, List.setIfInBounds_toArray, List.set_cons_zero, List.set_cons_succ])) | (refine wpAnyH_take (i := 9) (oi := ?_) (v := undef) ?_ (by kernel_rfl) ?_ ?_ ?_ ?_ (by assumption) ?_; rotate_left 1; (simp only [List.getElem?_toArray, List.getElem?_cons_zero, List.getElem?_cons_succ]; rfl); kernel_rfl; kernel_rfl; exact fun _ _ _ h => h; exact Or.inr ⟨by rfl, rfl⟩; (try simp only [Act.put, List.setIfInBounds_toArray, List.set_cons_zero, List.set_cons_succ])))
            (first | (refine wpAnyH_take (i := 10) (oi := ?_) (v := ?_) ?_ (by kernel_rfl) ?_ ?_ ?_ ?_ (by assumption) ?_; rotate_left 2; (simp only [List.getElem?_toArray, List.getElem?_cons_zero, List.getElem?_cons_succ]; rfl); kernel_rfl; kernel_rfl; exact fun _ _ _ h => h; (refine Or.inl ⟨by rfl, ?_⟩; intro w hSw; (try dsimp only at hSw); go_simp; (first | done | with_reducible rfl)); (try simp only [Act.put, List.setIfInBounds_toArray, List.set_cons_zero, List.set_cons_succ])) | (refine wpAnyH_take (i := 10) (oi := ?_) (v := undef) ?_ (by kernel_rfl) ?_ ?_ ?_ ?_ (by assumption) ?_; rotate_left 1; (simp only [List.getElem?_toArray, List.getElem?_cons_zero, List.getElem?_cons_succ]; rfl); kernel_rfl; kernel_rfl; exact fun _ _ _ h => h; exact Or.inr ⟨by rfl, rfl⟩; (try simp only [Act.put, List.setIfInBounds_toArray, List.set_cons_zero, List.set_cons_succ])))
            (refine wpAnyH_ready (rs := [12]) (by kernel_rfl) (by simp) ?_; refine AllReadyH.cons (o := ?_) ?_ (fun K hK => ?_) AllReadyH.nil; rotate_left 1; (simp only [List.getElem?_toArray, List.getElem?_cons_zero, List.getElem?_cons_succ]; rfl); go_simp)
            clear hHeld
            (refine hK.out _ _ ?_ (fun hHeld => ?_); exact HSK.out _ (below_set4 HB2.out (Nat.le_refl _) _ _ _ _); clear hK K)
            refine wpAnyH_done (by kernel_rfl) ?_ _
            clear hHeld
            go_wp2_with fail
            go_meet
            exact ⟨_, rfl, HBX.out.set4 _ _ _ _, Nat.le_refl _, below_set4 HB2.out (Nat.le_refl _) _ _ _ _⟩
      case rest =>
        obtain ⟨g, rfl, hbx, hge, hbc⟩ := hcut
        have y0 := hbx.k
        have y1 := hbx.c
        have y2 := hbx.y
        have y3 := hbx.v
        have f0 := hbx.f 0
        have f1 := hbx.f 1
        have f2 := hbx.f 2
        have f3 := hbx.f 3
        dsimp only at y0 y1 y2 y3
        have s0 := (hbc.cell (p := ⟨wr.heap.size, 0, none⟩) hs1).trans r0
        have hgw : wr.heap.size ≤ g := by omega
        have HBC := Lib.hid (below_next HB1.out hbc)
        have hlk := actsM_len cl l k
        have hsl : Value.slice As (actsM cl l k).length cs = Value.slice As k cs := by rw [hlk]
        have hown' : OwnsActs wr w.heap.size (.slice As (actsM cl l k).length cs) (actsM cl l k) := by rw [hsl]; exact HO.out
        have HAP := Lib.hid (show ∀ (W' : World) (ty : TypeId) (a0 a1 : Int) (a2 a3 : ByteArray) (s : Nat), W'.heap.size = s → Below wr.heap.size wr W' → ∃ v' w', (Builtin.append_ #[31, 31] ty #[.slice As k cs, .slice (some ⟨s, 0, none⟩) 1 1]).run Tryd.prog (W'.alloc (.cells #[.int .i64 a0, .int .i64 a1, .string a2, .string a3] 44)) = .ok v' w' ∧ ∃ A' c', v' = .slice A' (k + 1) c' ∧ OwnsActs w' w.heap.size (.slice A' (k + 1) c') (actsM cl l k ++ [⟨a0, a1, a2, a3⟩]) ∧ Below w.heap.size w w' from fun W' ty a0 a1 a2 a3 s hs hb => by
          subst hs
          have h := app_act (ty := ty) W' w w.heap.size cs As (actsM cl l k) ⟨a0, a1, a2, a3⟩ (Cells.Owns.kept hown' hb) (by rw [hlk]; omega) (Nat.le_trans HB.out.size hb.size) (below_next HB.out hb)
          rw [hlk] at h
          exact h)
        clear hsl hown'
        have HP30 := Lib.hid (picked_any rk 30 wc ok0 (by decide) (by decide))
        obtain ⟨p0, p1⟩ := pick_bd rk (show (0 : Int) < 30 by decide)
        have HSUC := Lib.hid (actsM_succ cl l k)
        rw [← HRD.out] at HSUC
        rw [HAO.out] at HSUC
        clear HAO
        obtain ⟨p, hpd⟩ : ∃ p, p = pickM rk 30 := ⟨_, rfl⟩
        rw [← hpd] at HP30 p0 p1 HSUC
        clear hpd hbx hbc HIT HKY HPK HVS HSK r0 r1 r3 hlk
        by_cases t5 : p < 5
        · have d1 : decide (p < 5) = true := decide_eq_true t5
          rw [if_pos t5] at HSUC
          go_wp2_with fail
          refine HP30.out.mono ?_
          rintro e w' ⟨rfl, hw⟩
          rw [hw]
          clear hw w'
          go_wp2_with (at_builtin; refine (wpList_append_run _ rfl (.tmp 70) (.tmp 72) 31 rfl (.slice As k cs) (.slice (some ⟨wc.heap.size, 0, none⟩) 1 1) rfl rfl (HAP.out _ _ 1 pc ⟨#[]⟩ ⟨#[]⟩ wc.heap.size (by simp only [size_set]) (by repeat (first | exact HBC.out | (refine Below.setCell ?_ (show wr.heap.size ≤ g from hgw) _)))) ?_); rintro v1 w2 ⟨A2, c2, rfl, hown2, hb2⟩; have HO2 := Lib.hid hown2; have HB2 := Lib.hid hb2; clear hown2 hb2)
          go_roundw
          case rel => exact ⟨k + 1, A2, c2, by omega, by go_num, rfl, by rw [HSUC.out]; exact HO2.out, HB2.out⟩
          case measure => simp [intOf]; omega
        have d1 : decide (p < 5) = false := decide_eq_false t5
        rw [if_neg t5] at HSUC
        by_cases t9 : p < 9
        · have d2 : decide (p < 9) = true := decide_eq_true t9
          rw [if_pos t9] at HSUC
          go_wp2_with fail
          refine HP30.out.mono ?_
          rintro e w' ⟨rfl, hw⟩
          rw [hw]
          clear hw w'
          go_wp2_with (at_builtin; refine (wpList_append_run _ rfl (.tmp 70) (.tmp 72) 31 rfl (.slice As k cs) (.slice (some ⟨wc.heap.size, 0, none⟩) 1 1) rfl rfl (HAP.out _ _ 2 pc ky ⟨#[]⟩ wc.heap.size (by simp only [size_set]) (by repeat (first | exact HBC.out | (refine Below.setCell ?_ (show wr.heap.size ≤ g from hgw) _)))) ?_); rintro v1 w2 ⟨A2, c2, rfl, hown2, hb2⟩; have HO2 := Lib.hid hown2; have HB2 := Lib.hid hb2; clear hown2 hb2)
          go_roundw
          case rel => exact ⟨k + 1, A2, c2, by omega, by go_num, rfl, by rw [HSUC.out]; exact HO2.out, HB2.out⟩
          case measure => simp [intOf]; omega
        have d2 : decide (p < 9) = false := decide_eq_false t9
        rw [if_neg t9] at HSUC
        by_cases t15 : p < 15
        · have d3 : decide (p < 15) = true := decide_eq_true t15
          rw [if_pos t15] at HSUC
          go_wp2_with fail
          refine HP30.out.mono ?_
          rintro e w' ⟨rfl, hw⟩
          rw [hw]
          clear hw w'
          go_wp2_with (at_builtin; refine (wpList_append_run _ rfl (.tmp 70) (.tmp 72) 31 rfl (.slice As k cs) (.slice (some ⟨wc.heap.size, 0, none⟩) 1 1) rfl rfl (HAP.out _ _ 3 pc ky ((⟨#[118]⟩ : ByteArray) ++ it) wc.heap.size (by simp only [size_set]) (by repeat (first | exact HBC.out | (refine Below.setCell ?_ (show wr.heap.size ≤ g from hgw) _)))) ?_); rintro v1 w2 ⟨A2, c2, rfl, hown2, hb2⟩; have HO2 := Lib.hid hown2; have HB2 := Lib.hid hb2; clear hown2 hb2)
          go_roundw
          case rel => exact ⟨k + 1, A2, c2, by omega, by go_num, rfl, by rw [HSUC.out]; exact HO2.out, HB2.out⟩
          case measure => simp [intOf]; omega
        have d3 : decide (p < 15) = false := decide_eq_false t15
        rw [if_neg t15] at HSUC
        by_cases t27 : p < 27
        · have d4 : decide (p < 27) = true := decide_eq_true t27
          rw [if_pos t27] at HSUC
          go_wp2_with fail
          refine HP30.out.mono ?_
          rintro e w' ⟨rfl, hw⟩
          rw [hw]
          clear hw w'
          go_wp2_with (at_builtin; refine (wpList_append_run _ rfl (.tmp 70) (.tmp 72) 31 rfl (.slice As k cs) (.slice (some ⟨wc.heap.size, 0, none⟩) 1 1) rfl rfl (HAP.out _ _ 4 pc ⟨#[]⟩ ⟨#[]⟩ wc.heap.size (by simp only [size_set]) (by repeat (first | exact HBC.out | (refine Below.setCell ?_ (show wr.heap.size ≤ g from hgw) _)))) ?_); rintro v1 w2 ⟨A2, c2, rfl, hown2, hb2⟩; have HO2 := Lib.hid hown2; have HB2 := Lib.hid hb2; clear hown2 hb2)
          go_roundw
          case rel => exact ⟨k + 1, A2, c2, by omega, by go_num, rfl, by rw [HSUC.out]; exact HO2.out, HB2.out⟩
          case measure => simp [intOf]; omega
        have d4 : decide (p < 27) = false := decide_eq_false t27
        rw [if_neg t27] at HSUC
        by_cases te : p = 27
        · have d5 : (p == 27) = true := by simpa using te
          rw [if_pos te] at HSUC
          go_wp2_with fail
          refine HP30.out.mono ?_
          rintro e w' ⟨rfl, hw⟩
          rw [hw]
          clear hw w'
          go_wp2_with (at_builtin; refine (wpList_append_run _ rfl (.tmp 70) (.tmp 72) 31 rfl (.slice As k cs) (.slice (some ⟨wc.heap.size, 0, none⟩) 1 1) rfl rfl (HAP.out _ _ 5 pc ⟨#[]⟩ ⟨#[]⟩ wc.heap.size (by simp only [size_set]) (by repeat (first | exact HBC.out | (refine Below.setCell ?_ (show wr.heap.size ≤ g from hgw) _)))) ?_); rintro v1 w2 ⟨A2, c2, rfl, hown2, hb2⟩; have HO2 := Lib.hid hown2; have HB2 := Lib.hid hb2; clear hown2 hb2)
          go_roundw
          case rel => exact ⟨k + 1, A2, c2, by omega, by go_num, rfl, by rw [HSUC.out]; exact HO2.out, HB2.out⟩
          case measure => simp [intOf]; omega
        · have d5 : (p == 27) = false := by simpa using te
          rw [if_neg te] at HSUC
          go_wp2_with fail
          refine HP30.out.mono ?_
          rintro e w' ⟨rfl, hw⟩
          rw [hw]
          clear hw w'
          go_wp2_with (at_builtin; refine (wpList_append_run _ rfl (.tmp 70) (.tmp 72) 31 rfl (.slice As k cs) (.slice (some ⟨wc.heap.size, 0, none⟩) 1 1) rfl rfl (HAP.out _ _ 6 pc ky ⟨#[]⟩ wc.heap.size (by simp only [size_set]) (by repeat (first | exact HBC.out | (refine Below.setCell ?_ (show wr.heap.size ≤ g from hgw) _)))) ?_); rintro v1 w2 ⟨A2, c2, rfl, hown2, hb2⟩; have HO2 := Lib.hid hown2; have HB2 := Lib.hid hb2; clear hown2 hb2)
          go_roundw
          case rel => exact ⟨k + 1, A2, c2, by omega, by go_num, rfl, by rw [HSUC.out]; exact HO2.out, HB2.out⟩
          case measure => simp [intOf]; omega
    · have hke : k = min l.length most := by omega
      have hlk := actsM_len cl l k
      have HK := Lib.hid hke
      by_cases hq : k < l.length
      · have j2 : decide ((k : Int) < (l.length : Int)) = true := decide_eq_true (by omega)
        have j3 : decide ((k : Int) < (most : Int)) = false := decide_eq_false (by omega)
        clear hown hb hke
        go_wp2
        go_ret
        exact ⟨As, cs, by rw [← HK.out, hlk]; rfl, by rw [← HK.out, hlk]; exact HO.out, HB.out⟩
      · have j2 : decide ((k : Int) < (l.length : Int)) = false := decide_eq_false (by omega)
        clear hown hb hke
        go_wp2
        go_ret
        exact ⟨As, cs, by rw [← HK.out, hlk]; rfl, by rw [← HK.out, hlk]; exact HO.out, HB.out⟩
end Go.Proofs.YtambkjnhfejfaacDoor

namespace Go.Proofs.YtambkjnhfejfaacDoor
open Go.RowKit
/-- The answers and the world that go out. -/
def TopOut (l : List ActM) (w : World) (e : Ending) (w' : World) : Prop :=
  ∃ g RA n rc CA m cc, e = .returned (.tuple #[.slice (some ⟨g, 0, none⟩) l.length l.length, woV RA n rc (runWo (startW 4) l).clock CA m cc, .int .i64 0]) ∧ WoInX w' (fun b => b ≤ w.heap.size) RA n rc CA m cc (runWo (startW 4) l) ∧ AnsDone g l.length (runAns (startW 4) l) w' ∧ w.heap.size ≤ g ∧ Below w.heap.size w w'
set_option maxRecDepth 100000 in
set_option maxHeartbeats 4000000 in
theorem topRun_any (A : Option Addr) (q : Nat) (l : List ActM) (w : World) (hact : ActsAt w (· < w.heap.size) A l) (hl : l.length ≤ 400) :
    Calls Tryd.prog 5 #[.slice A l.length q] w (TopOut l w) := by
  obtain ⟨W0, hW, hb0, p0, p1, p2⟩ := world_new w
  have HR := Lib.hid (run_any 4 A l q W0 (hact.acts (below_mem hb0).1 (below_mem hb0).2))
  have HW := Lib.hid hW
  have HB0 := Lib.hid hb0
  have hpf : ∀ o, W0.frozen? ⟨w.heap.size, o, none⟩ = false := fun o => by rw [hW]; simp
  have HPF := Lib.hid hpf
  have hs0 : w.heap.size < W0.heap.size := by rw [hW]; simp
  clear hact hW hb0 hpf
  go_enter Tryd.func5, Tryd.ntmps5
  go_wp2_with fail
  rw [← HW.out]
  refine HR.out.mono ?_
  rintro e w1 ⟨hb1, hor⟩
  rcases hor with ⟨h, _⟩ | ⟨_, h, _⟩ | ⟨_, _, g, RA, n, rc, CA, m, cc, rfl, hwo, hans, hg⟩
  · exact absurd h (by decide)
  · omega
  · have e4 : ((4 : Int)).toNat = 4 := rfl
    rw [e4] at hwo hans ⊢
    obtain ⟨WO, hWO⟩ : ∃ WO, WO = runWo (startW 4) l := ⟨_, rfl⟩
    rw [← hWO] at hwo ⊢
    obtain ⟨hc1, hf1⟩ := bcell hb1
    have q0 := (hc1 _ 0 hs0).trans p0
    have q1 := (hc1 _ 1 hs0).trans p1
    have q2 := (hc1 _ 2 hs0).trans p2
    have f0 := (hf1 _ 0 hs0).trans (HPF.out 0)
    have f1 := (hf1 _ 1 hs0).trans (HPF.out 1)
    have f2 := (hf1 _ 2 hs0).trans (HPF.out 2)
    have HA := Lib.hid hans
    have HB := Lib.hid (below_next HB0.out hb1)
    have HWI := Lib.hid hwo
    have HWO := Lib.hid hWO
    have hs1 : w.heap.size < w1.heap.size := Nat.lt_of_lt_of_le hs0 hb1.size
    have hgw : w.heap.size < g := by omega
    have t0 : ((l.length : Int) != (l.length : Int)) = false := by simp
    clear hwo hans hb1 hWO hc1 hf1
    have hn1 : w.heap.size ≠ w1.heap.size := by omega
    have hn2 : w1.heap.size ≠ w.heap.size := by omega
    obtain ⟨W2, hW2, k0, k1, k2, hb2, hs2⟩ := box3_new w1 (.slice RA n rc) (.int .i64 WO.clock) (.slice CA m cc) 27
    obtain ⟨hc2, hf2⟩ := bcell hb2
    have q0 := (hc2 _ _ hs1).trans q0
    have q1 := (hc2 _ _ hs1).trans q1
    have q2 := (hc2 _ _ hs1).trans q2
    have f0 := (hf2 _ _ hs1).trans f0
    have f1 := (hf2 _ _ hs1).trans f1
    have f2 := (hf2 _ _ hs1).trans f2
    have HW2 := Lib.hid hW2
    have HB2 := Lib.hid hb2
    clear hW2 hb2 hc2 hf2
    go_wp2
    rw [← HW2.out]
    go_region
    obtain ⟨m0, m1, m2⟩ := set3_at q0 q1 q2 (.slice RA n rc) (.int .i64 WO.clock) (.slice CA m cc)
    have hs := set3_same W2 w.heap.size (.slice RA n rc) (.int .i64 WO.clock) (.slice CA m cc)
    have hgh := set3_heap W2 w.heap.size (.slice RA n rc) (.int .i64 WO.clock) (.slice CA m cc) (k := g) (by omega)
    have hbel : Below w.heap.size w (set3 W2 w.heap.size (.slice RA n rc) (.int .i64 WO.clock) (.slice CA m cc)) := (((below_next HB.out HB2.out).setCell (Nat.le_refl w.heap.size) _).setCell (Nat.le_refl w.heap.size) _).setCell (Nat.le_refl w.heap.size) _
    obtain ⟨V, hV⟩ : ∃ V, V = set3 W2 w.heap.size (.slice RA n rc) (.int .i64 WO.clock) (.slice CA m cc) := ⟨_, rfl⟩
    rw [← hV] at m0 m1 m2 hs hgh hbel
    have hV' : V = ((W2.setCell ⟨w.heap.size, 0, none⟩ (.slice RA n rc)).setCell ⟨w.heap.size, 1, none⟩ (.int .i64 WO.clock)).setCell ⟨w.heap.size, 2, none⟩ (.slice CA m cc) := hV
    rw [← hV']
    have hX : WoInX W2 (fun b => b ≤ w.heap.size) RA n rc CA m cc WO := (HWI.out.less fun b e => by show b < _; have e : b ≤ w.heap.size := e; omega).upto HB2.out
    have HWV := Lib.hid ((hX.same hs (fun p e => Nat.le_of_eq e)).upto (below_drew (Below.refl _ _)))
    have hA2 : AnsDone g l.length (runAns (startW 4) l) W2 := HA.out.kept (HB2.out.block _ HA.out.lt)
    have HAV := Lib.hid ((hA2.kept hgh).kept (show V.drew.heap[g]? = V.heap[g]? from rfl))
    have HBV := Lib.hid (below_drew hbel)
    clear hV hV' hs hgh hbel hX hA2 q0 q1 q2
    go_wp2
    refine bodyPost_ret (v := .tuple #[.slice (some ⟨g, 0, none⟩) l.length l.length, woV RA n rc WO.clock CA m cc, .int .i64 0]) (by simp [results, Tryd.results5, go_sem, m0, m1, m2]) rfl ⟨g, RA, n, rc, CA, m, cc, ?_, ?_, HAV.out, Nat.le_of_lt hgw, HBV.out⟩
    · rw [← HWO.out]
    · rw [← HWO.out]; exact HWV.out
end Go.Proofs.YtambkjnhfejfaacDoor
