/-
  Contracts of functions of the program and words for memory, several texts in one: Open, TOpen, KDoor, Small. Conditions: those stated with each.
-/
import Derived.Test.YtambkjnhfejfaabDoorG00
import Derived.Test.YtambkjnhfejfaabDoorRows
import Derived.WalkKit
import Derived.ProofKit
import Derived.OpenShut
import Derived.ShutString
import Derived.ChangeOld
import Derived.Below
import Derived.SizedLaws
import Derived.Deep.Slices
import Derived.Deep.Fields
import Derived.Deep.Strs
import Derived.ChangeSame
import Derived.Test.YtambkjnhfejfaabDoorCards
import Derived.Test.YtambkjnhfejfaabDoorTie
import Derived.LaidMore
import Derived.Stop.Joined
import Derived.SevenTiedAt
import Derived.Outline
import Derived.WalkLawsBesides
import Derived.Shelf.Abstract
namespace Go.Proofs.YtambkjnhfejfaabDoor
open Go.ChangeShapes Go.WideShapes Go.ChangeAt Go.RowKit Go.Deep

set_option maxRecDepth 100000
theorem own_knob : ownKnob Tryd.prog.godebug = none := by kernel_rfl
theorem laidOut : laidOutB Tryd.prog = true := by kernel_rfl
theorem cells_row : Tryd.prog.cellsOf 27 = 5 := by kernel_rfl
theorem cells_lock : Tryd.prog.cellsOf 24 = 2 := by kernel_rfl
theorem cells_string : Tryd.prog.cellsOf 9 = 1 := by kernel_rfl
theorem cells_int : Tryd.prog.cellsOf 3 = 1 := by kernel_rfl
theorem cells_recs : Tryd.prog.cellsOf 25 = 1 := by kernel_rfl
theorem cells_rec : Tryd.prog.cellsOf 40 = 3 := by kernel_rfl
theorem bytes_rec : Tryd.prog.bytesOf 40 = 32 := by kernel_rfl

theorem i64_of_wf {n : Int} (h : (Lit.int .i64 n).wf = true) : i64 n := by
  have := bounds_i64 h
  unfold i64
  omega

section
variable {H : Type} {enc : TypeId × Value → H} {W : World}

/-- One record of a slice that came in. -/
theorem open_rec {n b o : Nat} {cs : List Value} {x : DataW H × List MemPlace} {spare : Nat → Bool} {held : Bool} (hc : W.cells? 0 ⟨b, o, none⟩ 3 = some cs) (h : DataW.trod enc Tryd.prog W 0 spare held n 40 cs = some x) :
    ∃ r : RecM, RecOk r ∧ RecAt W b o r := by
  obtain ⟨_, hcl, hat⟩ := World.cells?_some hc
  obtain ⟨ys, n', _, _, hlen, hyl, hf⟩ := DataW.trod_struct Tryd.underlying40 h
  match cs, hcl with
  | [v0, v1, v2], _ =>
    have f0 : DataW.trod enc Tryd.prog W 0 spare held n' 3 (([v0, v1, v2].drop 0).take (Tryd.prog.cellsOf 3)) = ys[0]? := hf 0 _ rfl
    have f1 : DataW.trod enc Tryd.prog W 0 spare held n' 3 (([v0, v1, v2].drop 1).take (Tryd.prog.cellsOf 3)) = ys[1]? := hf 1 _ rfl
    have f2 : DataW.trod enc Tryd.prog W 0 spare held n' 9 (([v0, v1, v2].drop 2).take (Tryd.prog.cellsOf 9)) = ys[2]? := hf 2 _ rfl
    rw [cells_int] at f0 f1
    rw [cells_string] at f2
    match ys, hyl with
    | [y0, y1, y2], _ =>
      simp only [List.drop_zero, List.take_succ_cons, List.take_zero, List.drop_succ_cons, List.getElem?_cons_zero, List.getElem?_cons_succ] at f0 f1 f2
      obtain ⟨s, e0, _, ws⟩ := DataW.trod_int Tryd.underlying3 f0
      obtain ⟨c, e1, _, wc⟩ := DataW.trod_int Tryd.underlying3 f1
      obtain ⟨v, e2, _, wv⟩ := DataW.trod_string Tryd.underlying9 f2
      simp only [List.cons.injEq, and_true] at e0 e1 e2
      subst e0 e1 e2
      refine ⟨⟨s, c, v⟩, ⟨i64_of_wf ws, i64_of_wf wc, wv⟩, ?_, ?_, ?_⟩
      · simpa [Addr.add] using hat 0 (by omega)
      · simpa [Addr.add] using hat 1 (by omega)
      · simpa [Addr.add] using hat 2 (by omega)

/-- The records of a slice that came in. -/
theorem open_recs {fuel : Nat} {A : Option Addr} {n c : Nat} {x : DataW H × List MemPlace} (h : DataW.trod enc Tryd.prog W 0 (fun _ => true) true fuel 25 [.slice A n c] = some x)
    (hz : ∀ k ∈ x.1.weights Tryd.prog 25, k ≤ reachBytes) : ∃ l : List RecM, n = l.length ∧ RecsAt W W.heap.size A l ∧ n ≤ c := by
  rcases open_slice Tryd.underlying25 h with ⟨hcs, _⟩ | ⟨a, len, cap, m, n', D, Pl, hcs, hb, hl, hm, hmm, hx, hi⟩
  · simp only [List.cons.injEq, Value.slice.injEq, and_true] at hcs
    obtain ⟨_, rfl, rfl⟩ := hcs
    exact ⟨[], rfl, RecsAt.nil_ _ _ _, Nat.le_refl _⟩
  · simp only [List.cons.injEq, Value.slice.injEq, and_true] at hcs
    obtain ⟨rfl, rfl, rfl⟩ := hcs
    simp only [if_true] at hmm
    subst hmm
    have hw : (n + (m - n)) * 32 ≤ reachBytes := by
      have := hz ((n + (m - n)) * Tryd.prog.bytesOf 40) (by
        rw [hx]
        simp only [DataW.weights, Tryd.underlying25]
        simp)
      rwa [bytes_rec] at this
    have hn : n ≤ 4398046511104 := by unfold reachBytes at hw; omega
    rcases Nat.eq_zero_or_pos n with h0 | h0
    · subst h0
      exact ⟨[], rfl, RecsAt.nil_ _ _ _, Nat.zero_le _⟩
    · obtain ⟨b, o, spot⟩ := a
      rw [cells_rec] at hi
      have hsp : spot = none := by
        obtain ⟨cs, hc, _⟩ := hi 0 (by omega)
        obtain ⟨_, hcl, hat⟩ := World.cells?_some hc
        have h3 := hat 0 (by omega)
        have : cs[0]? = some (cs[0]'(by omega)) := List.getElem?_eq_getElem (by omega)
        rw [this] at h3
        simpa [Addr.add] using World.cell?_spot h3
      subst hsp
      have hr : ∀ i, i < n → ∃ r : RecM, RecOk r ∧ RecAt W b (o + i * 3) r := by
        intro i hin
        obtain ⟨cs, hc, ht⟩ := hi i (by omega)
        have e : (⟨b, o, none⟩ : Addr).add (i * 3) = ⟨b, o + i * 3, none⟩ := by
          unfold Addr.add
          split
          · rename_i h; rw [h]; rfl
          · rfl
        rw [e] at hc
        exact open_rec hc ht
      obtain ⟨f, hf⟩ := choose_lt hr
      refine ⟨(List.range n).map f, by simp, ⟨by simpa using hn, fun r hrm => ?_, fun _ => ⟨b, o, rfl, ?_, fun i r hir => ?_⟩⟩, hl⟩
      · obtain ⟨i, hin, rfl⟩ := List.mem_map.1 hrm
        exact (hf i (List.mem_range.1 hin)).1
      · exact World.block_lt_of_cell? W _ (hf 0 h0).2.s
      · have hin : i < n := by have := (List.getElem?_eq_some_iff.1 hir).1; simpa using this
        have : r = f i := by simpa [hin] using hir.symm
        rw [this]
        exact (hf i hin).2

/-- A row that came in. -/
theorem open_row {r0 : Reach} {base : Nat} {v : Value} {d : DataW H} {p : List MemPlace} (hv : Value.okWide Tryd.prog W r0 base 27 v) (h : DataW.Trod enc Tryd.prog W 0 (fun _ => true) true 27 v d p)
    (hz : ∀ k ∈ d.weights Tryd.prog 27, k ≤ reachBytes) :
    ∃ (key lp val : ByteArray) (ls : Int) (A : Option Addr) (n c : Nat) (l : List RecM), v = .agg #[.string key, .int .i64 ls, .string lp, .string val, .slice A n c] ∧ key.size ≤ maxLen ∧ lp.size ≤ maxLen ∧ val.size ≤ maxLen ∧ i64 ls ∧
      n = l.length ∧ RecsAt W W.heap.size A l ∧ n ≤ c := by
  obtain ⟨cs, rfl, hsz⟩ := okWide_struct Tryd.underlying27 hv
  obtain ⟨lst⟩ := cs
  match lst, hsz.trans cells_row with
  | [v0, v1, v2, v3, v4], _ =>
    obtain ⟨fuel, hf⟩ := h
    obtain ⟨ys, n', _, hx, hlen, hyl, hg⟩ := DataW.trod_struct Tryd.underlying27 hf
    have f0 : DataW.trod enc Tryd.prog W 0 (fun _ => true) true n' 9 (([v0, v1, v2, v3, v4].drop 0).take (Tryd.prog.cellsOf 9)) = ys[0]? := hg 0 _ rfl
    have f1 : DataW.trod enc Tryd.prog W 0 (fun _ => true) true n' 24 (([v0, v1, v2, v3, v4].drop 1).take (Tryd.prog.cellsOf 24)) = ys[1]? := hg 1 _ rfl
    have f2 : DataW.trod enc Tryd.prog W 0 (fun _ => true) true n' 9 (([v0, v1, v2, v3, v4].drop 3).take (Tryd.prog.cellsOf 9)) = ys[2]? := hg 2 _ rfl
    have f3 : DataW.trod enc Tryd.prog W 0 (fun _ => true) true n' 25 (([v0, v1, v2, v3, v4].drop 4).take (Tryd.prog.cellsOf 25)) = ys[3]? := hg 3 _ rfl
    rw [cells_string] at f0 f2
    rw [cells_lock] at f1
    rw [cells_recs] at f3
    match ys, hyl with
    | [y0, y1, y2, y3], _ =>
      simp only [List.drop_zero, List.take_succ_cons, List.take_zero, List.drop_succ_cons, List.getElem?_cons_zero, List.getElem?_cons_succ] at f0 f1 f2 f3
      obtain ⟨key, e0, _, wk⟩ := DataW.trod_string Tryd.underlying9 f0
      obtain ⟨val, e2, _, wv⟩ := DataW.trod_string Tryd.underlying9 f2
      obtain ⟨zs, n'', _, _, _, hzl, hg'⟩ := DataW.trod_struct Tryd.underlying24 f1
      have g0 : DataW.trod enc Tryd.prog W 0 (fun _ => true) true n'' 3 (([v1, v2].drop 0).take (Tryd.prog.cellsOf 3)) = zs[0]? := hg' 0 _ rfl
      have g1 : DataW.trod enc Tryd.prog W 0 (fun _ => true) true n'' 9 (([v1, v2].drop 1).take (Tryd.prog.cellsOf 9)) = zs[1]? := hg' 1 _ rfl
      rw [cells_int] at g0
      rw [cells_string] at g1
      match zs, hzl with
      | [z0, z1], _ =>
        simp only [List.drop_zero, List.take_succ_cons, List.take_zero, List.drop_succ_cons, List.getElem?_cons_zero, List.getElem?_cons_succ] at g0 g1
        obtain ⟨ls, e3, _, wl⟩ := DataW.trod_int Tryd.underlying3 g0
        obtain ⟨lp, e4, _, wp⟩ := DataW.trod_string Tryd.underlying9 g1
        simp only [List.cons.injEq, and_true] at e0 e2 e3 e4
        subst e0 e2 e3 e4
        have hd : d = .agg [y0.1, y1.1, y2.1, y3.1] := by simp only [Prod.mk.injEq] at hx; simpa using hx.1
        have hz3 : ∀ k ∈ y3.1.weights Tryd.prog 25, k ≤ reachBytes := by
          intro k hk
          refine hz k ?_
          rw [hd]
          simp only [DataW.weights, Tryd.underlying27]
          exact DataW.weights_mem_each (j := 3) (t := 25) (d := y3.1) (by simp) (by simp) k hk
        rcases open_slice Tryd.underlying25 f3 with ⟨hcs, _⟩ | ⟨a, len, cap, _, _, _, _, hcs, _⟩
        · simp only [List.cons.injEq, and_true] at hcs
          subst hcs
          obtain ⟨l, hl, hr, hcap⟩ := open_recs f3 hz3
          exact ⟨key, lp, val, ls, _, _, _, l, rfl, wk, wp, wv, i64_of_wf wl, hl, hr, hcap⟩
        · simp only [List.cons.injEq, and_true] at hcs
          subst hcs
          obtain ⟨l, hl, hr, hcap⟩ := open_recs f3 hz3
          exact ⟨key, lp, val, ls, _, _, _, l, rfl, wk, wp, wv, i64_of_wf wl, hl, hr, hcap⟩
/-- What the reach says of one argument. -/
theorem reach_at {ts : List TypeId} {ds : List (DataW H)} {j : Nat} {t : TypeId} {d : DataW H} (h : (DataW.weightsEach Tryd.prog ts ds).all (fun x => decide (x ≤ reachBytes)) = true) (ht : ts[j]? = some t) (hd : ds[j]? = some d) :
    ∀ k ∈ d.weights Tryd.prog t, k ≤ reachBytes := fun k hk => by
  have := List.all_eq_true.1 h k (DataW.weights_mem_each ht hd k hk)
  simpa using this
end
end Go.Proofs.YtambkjnhfejfaabDoor

namespace Go.Proofs.YtambkjnhfejfaabDoor
open Go.ChangeShapes Go.WideShapes Go.ChangeAt Go.RowKit Go.Deep

set_option maxRecDepth 100000
theorem cells_world : Tryd.prog.cellsOf 67 = 3 := by kernel_rfl
theorem cells_client : Tryd.prog.cellsOf 109 = 5 := by kernel_rfl
theorem cells_write : Tryd.prog.cellsOf 127 = 2 := by kernel_rfl
theorem cells_rowsS : Tryd.prog.cellsOf 64 = 1 := by kernel_rfl
theorem cells_clientsS : Tryd.prog.cellsOf 65 = 1 := by kernel_rfl
theorem cells_writesS : Tryd.prog.cellsOf 107 = 1 := by kernel_rfl
theorem bytes_row : Tryd.prog.bytesOf 27 = 80 := by kernel_rfl
theorem bytes_client : Tryd.prog.bytesOf 109 = 56 := by kernel_rfl
theorem bytes_write : Tryd.prog.bytesOf 127 = 32 := by kernel_rfl

section
variable {H : Type} {enc : TypeId × Value → H} {W : World}

theorem weights_all {P : Program} {e : TypeId} {l : List (DataW H)} {d : DataW H} (hd : d ∈ l) : ∀ k ∈ d.weights P e, k ∈ DataW.weightsAll P e l := by
  induction l with
  | nil => cases hd
  | cons x l ih =>
    intro k hk
    simp only [DataW.weightsAll, List.mem_append]
    rcases List.mem_cons.1 hd with rfl | hd
    · exact .inl hk
    · exact .inr (ih hd k hk)

/-- A slice of elements that came in. -/
theorem open_seq {α : Type} [Inhabited α] {E : Nat → Nat → α → Prop} {t e : TypeId} {sz by_ mx : Nat} (hu : Tryd.prog.underlying t = some (.slice e)) (hce : Tryd.prog.cellsOf e = sz) (hs0 : 0 < sz) (hbe : Tryd.prog.bytesOf e = by_) (hmx : ∀ n, n * by_ ≤ reachBytes → n ≤ mx)
    {fuel : Nat} {A : Option Addr} {n c : Nat} {x : DataW H × List MemPlace} (h : DataW.trod enc Tryd.prog W 0 (fun _ => true) true fuel t [.slice A n c] = some x) (hz : ∀ k ∈ x.1.weights Tryd.prog t, k ≤ reachBytes)
    (hE : ∀ (b o n' : Nat) (cs : List Value) (y : DataW H × List MemPlace), W.cells? 0 ⟨b, o, none⟩ sz = some cs → DataW.trod enc Tryd.prog W 0 (fun _ => true) true n' e cs = some y → (∀ k ∈ y.1.weights Tryd.prog e, k ≤ reachBytes) → ∃ r, E b o r) :
    ∃ l : List α, n = l.length ∧ SeqAt (· < W.heap.size) sz mx E A l ∧ n ≤ c := by
  rcases open_slice hu h with ⟨hcs, _⟩ | ⟨a, len, cap, m, n', D, Pl, hcs, hb, hl, hm, hmm, hx, hi⟩
  · simp only [List.cons.injEq, Value.slice.injEq, and_true] at hcs
    obtain ⟨_, rfl, rfl⟩ := hcs
    exact ⟨[], rfl, SeqAt.nil_ _, Nat.le_refl _⟩
  · simp only [List.cons.injEq, Value.slice.injEq, and_true] at hcs
    obtain ⟨rfl, rfl, rfl⟩ := hcs
    simp only [if_true] at hmm
    subst hmm
    have hw : (n + (m - n)) * by_ ≤ reachBytes := by
      have := hz ((n + (m - n)) * Tryd.prog.bytesOf e) (by
        rw [hx]
        simp only [DataW.weights, hu]
        simp)
      rwa [hbe] at this
    have hn : n ≤ mx := hmx n (Nat.le_trans (Nat.mul_le_mul_right _ (by omega)) hw)
    rcases Nat.eq_zero_or_pos n with h0 | h0
    · subst h0
      exact ⟨[], rfl, SeqAt.nil_ _, Nat.zero_le _⟩
    · obtain ⟨b, o, spot⟩ := a
      rw [hce] at hi
      have hone : ∀ i, i < n → ∃ cs v, W.cells? 0 ((⟨b, o, spot⟩ : Addr).add (i * sz)) sz = some cs ∧ W.cell? (((⟨b, o, spot⟩ : Addr).add (i * sz)).add 0) = some v := by
        intro i hin
        obtain ⟨cs, hc, _⟩ := hi i (by omega)
        obtain ⟨_, hcl, hat⟩ := World.cells?_some hc
        have h3 := hat 0 (by omega)
        have : cs[0]? = some (cs[0]'(by omega)) := List.getElem?_eq_getElem (by omega)
        rw [this] at h3
        exact ⟨cs, _, hc, h3⟩
      have hsp : spot = none := by
        obtain ⟨cs, v, _, h3⟩ := hone 0 h0
        simpa [Addr.add] using World.cell?_spot h3
      subst hsp
      have ea : ∀ j, (⟨b, o, none⟩ : Addr).add j = ⟨b, o + j, none⟩ := by
        intro j
        unfold Addr.add
        split
        · rename_i h; rw [h]; rfl
        · rfl
      have hr : ∀ i, i < n → ∃ r : α, E b (o + i * sz) r := by
        intro i hin
        obtain ⟨cs, hc, ht⟩ := hi i (by omega)
        rw [ea] at hc
        refine hE b _ _ cs _ hc ht fun k hk => hz k ?_
        rw [hx]
        simp only [DataW.weights, hu]
        refine List.mem_cons_of_mem _ (List.mem_append_left _ (weights_all (List.mem_map.2 ⟨i, List.mem_range.2 hin, rfl⟩) k hk))
      obtain ⟨f, hf⟩ := choose_lt hr
      refine ⟨(List.range n).map f, by simp, ⟨by simpa using hn, fun _ => ⟨b, o, rfl, ?_, fun i r hir => ?_⟩⟩, hl⟩
      · obtain ⟨cs, v, _, h3⟩ := hone 0 h0
        have h4 := World.block_lt_of_cell? W _ h3
        rw [ea] at h4
        rw [show (⟨b, o + 0 * sz, none⟩ : Addr).add 0 = ⟨b, o + 0 * sz, none⟩ from by unfold Addr.add; split <;> simp_all] at h4
        exact h4
      · have hin : i < n := by have := (List.getElem?_eq_some_iff.1 hir).1; simpa using this
        have : r = f i := by simpa [hin] using hir.symm
        rw [this]
        exact hf i hin

/-- A row in memory that came in. -/
theorem open_rowAt {n b o : Nat} {cs : List Value} {x : DataW H × List MemPlace} (hc : W.cells? 0 ⟨b, o, none⟩ 5 = some cs) (h : DataW.trod enc Tryd.prog W 0 (fun _ => true) true n 27 cs = some x) (hz : ∀ k ∈ x.1.weights Tryd.prog 27, k ≤ reachBytes) :
    ∃ r : RowM, RowAt W (· < W.heap.size) b o r := by
  obtain ⟨_, hcl, hat⟩ := World.cells?_some hc
  obtain ⟨ys, n', _, hx, hlen, hyl, hg⟩ := DataW.trod_struct Tryd.underlying27 h
  match cs, hcl with
  | [v0, v1, v2, v3, v4], _ =>
    have f0 : DataW.trod enc Tryd.prog W 0 (fun _ => true) true n' 9 (([v0, v1, v2, v3, v4].drop 0).take (Tryd.prog.cellsOf 9)) = ys[0]? := hg 0 _ rfl
    have f1 : DataW.trod enc Tryd.prog W 0 (fun _ => true) true n' 24 (([v0, v1, v2, v3, v4].drop 1).take (Tryd.prog.cellsOf 24)) = ys[1]? := hg 1 _ rfl
    have f2 : DataW.trod enc Tryd.prog W 0 (fun _ => true) true n' 9 (([v0, v1, v2, v3, v4].drop 3).take (Tryd.prog.cellsOf 9)) = ys[2]? := hg 2 _ rfl
    have f3 : DataW.trod enc Tryd.prog W 0 (fun _ => true) true n' 25 (([v0, v1, v2, v3, v4].drop 4).take (Tryd.prog.cellsOf 25)) = ys[3]? := hg 3 _ rfl
    rw [cells_string] at f0 f2
    rw [cells_lock] at f1
    rw [cells_recs] at f3
    match ys, hyl with
    | [y0, y1, y2, y3], _ =>
      simp only [List.drop_zero, List.take_succ_cons, List.take_zero, List.drop_succ_cons, List.getElem?_cons_zero, List.getElem?_cons_succ] at f0 f1 f2 f3
      obtain ⟨key, e0, _, wk⟩ := DataW.trod_string Tryd.underlying9 f0
      obtain ⟨val, e2, _, wv⟩ := DataW.trod_string Tryd.underlying9 f2
      obtain ⟨zs, n'', _, _, _, hzl, hg'⟩ := DataW.trod_struct Tryd.underlying24 f1
      have g0 : DataW.trod enc Tryd.prog W 0 (fun _ => true) true n'' 3 (([v1, v2].drop 0).take (Tryd.prog.cellsOf 3)) = zs[0]? := hg' 0 _ rfl
      have g1 : DataW.trod enc Tryd.prog W 0 (fun _ => true) true n'' 9 (([v1, v2].drop 1).take (Tryd.prog.cellsOf 9)) = zs[1]? := hg' 1 _ rfl
      rw [cells_int] at g0
      rw [cells_string] at g1
      match zs, hzl with
      | [z0, z1], _ =>
        simp only [List.drop_zero, List.take_succ_cons, List.take_zero, List.drop_succ_cons, List.getElem?_cons_zero, List.getElem?_cons_succ] at g0 g1
        obtain ⟨ls, e3, _, wl⟩ := DataW.trod_int Tryd.underlying3 g0
        obtain ⟨lp, e4, _, wp⟩ := DataW.trod_string Tryd.underlying9 g1
        simp only [List.cons.injEq, and_true] at e0 e2 e3 e4
        subst e0 e2 e3 e4
        have hd : x.1 = .agg [y0.1, y1.1, y2.1, y3.1] := by rw [hx]; simp
        have hz3 : ∀ k ∈ y3.1.weights Tryd.prog 25, k ≤ reachBytes := by
          intro k hk
          refine hz k ?_
          rw [hd]
          simp only [DataW.weights, Tryd.underlying27]
          exact DataW.weights_mem_each (j := 3) (t := 25) (d := y3.1) (by simp) (by simp) k hk
        have a0 : W.cell? ⟨b, o, none⟩ = some (.string key) := by simpa [Addr.add] using hat 0 (by omega)
        have a1 : W.cell? ⟨b, o + 1, none⟩ = some (.int .i64 ls) := by simpa [Addr.add] using hat 1 (by omega)
        have a2 : W.cell? ⟨b, o + 2, none⟩ = some (.string lp) := by simpa [Addr.add] using hat 2 (by omega)
        have a3 : W.cell? ⟨b, o + 3, none⟩ = some (.string val) := by simpa [Addr.add] using hat 3 (by omega)
        have a4 : W.cell? ⟨b, o + 4, none⟩ = some v4 := by simpa [Addr.add] using hat 4 (by omega)
        have hv4 : ∃ A m c, v4 = .slice A m c := by
          rcases open_slice Tryd.underlying25 f3 with ⟨hcs, _⟩ | ⟨a, len, cap, _, _, _, _, hcs, _⟩
          · simp only [List.cons.injEq, and_true] at hcs; exact ⟨_, _, _, hcs⟩
          · simp only [List.cons.injEq, and_true] at hcs; exact ⟨_, _, _, hcs⟩
        obtain ⟨A, m, c, rfl⟩ := hv4
        obtain ⟨l, hl, hr, hcap⟩ := open_recs f3 hz3
        subst hl
        exact ⟨⟨key, ls, lp, val, l⟩, a0, a1, a2, a3, ⟨A, c, a4, hcap, hr⟩, wk, wp, wv, i64_of_wf wl⟩

/-- A write in memory that came in. -/
theorem open_wrAt {n b o : Nat} {cs : List Value} {x : DataW H × List MemPlace} (hc : W.cells? 0 ⟨b, o, none⟩ 2 = some cs) (h : DataW.trod enc Tryd.prog W 0 (fun _ => true) true n 127 cs = some x) : ∃ r : WrM, WrAt W b o r := by
  obtain ⟨_, hcl, hat⟩ := World.cells?_some hc
  obtain ⟨ys, n', _, hx, hlen, hyl, hg⟩ := DataW.trod_struct Tryd.underlying127 h
  match cs, hcl with
  | [v0, v1], _ =>
    have f0 : DataW.trod enc Tryd.prog W 0 (fun _ => true) true n' 9 (([v0, v1].drop 0).take (Tryd.prog.cellsOf 9)) = ys[0]? := hg 0 _ rfl
    have f1 : DataW.trod enc Tryd.prog W 0 (fun _ => true) true n' 9 (([v0, v1].drop 1).take (Tryd.prog.cellsOf 9)) = ys[1]? := hg 1 _ rfl
    rw [cells_string] at f0 f1
    match ys, hyl with
    | [y0, y1], _ =>
      simp only [List.drop_zero, List.take_succ_cons, List.take_zero, List.drop_succ_cons, List.getElem?_cons_zero, List.getElem?_cons_succ] at f0 f1
      obtain ⟨k, e0, _, wk⟩ := DataW.trod_string Tryd.underlying9 f0
      obtain ⟨v, e1, _, wv⟩ := DataW.trod_string Tryd.underlying9 f1
      simp only [List.cons.injEq, and_true] at e0 e1
      subst e0 e1
      exact ⟨⟨k, v⟩, by simpa [Addr.add] using hat 0 (by omega), by simpa [Addr.add] using hat 1 (by omega), wk, wv⟩

/-- A client in memory that came in. -/
theorem open_clAt {n b o : Nat} {cs : List Value} {x : DataW H × List MemPlace} (hc : W.cells? 0 ⟨b, o, none⟩ 5 = some cs) (h : DataW.trod enc Tryd.prog W 0 (fun _ => true) true n 109 cs = some x) (hz : ∀ k ∈ x.1.weights Tryd.prog 109, k ≤ reachBytes) :
    ∃ r : ClM, ClAt W (· < W.heap.size) b o r := by
  obtain ⟨_, hcl, hat⟩ := World.cells?_some hc
  obtain ⟨ys, n', _, hx, hlen, hyl, hg⟩ := DataW.trod_struct Tryd.underlying109 h
  match cs, hcl with
  | [v0, v1, v2, v3, v4], _ =>
    have f0 : DataW.trod enc Tryd.prog W 0 (fun _ => true) true n' 3 (([v0, v1, v2, v3, v4].drop 0).take (Tryd.prog.cellsOf 3)) = ys[0]? := hg 0 _ rfl
    have f1 : DataW.trod enc Tryd.prog W 0 (fun _ => true) true n' 3 (([v0, v1, v2, v3, v4].drop 1).take (Tryd.prog.cellsOf 3)) = ys[1]? := hg 1 _ rfl
    have f2 : DataW.trod enc Tryd.prog W 0 (fun _ => true) true n' 3 (([v0, v1, v2, v3, v4].drop 2).take (Tryd.prog.cellsOf 3)) = ys[2]? := hg 2 _ rfl
    have f3 : DataW.trod enc Tryd.prog W 0 (fun _ => true) true n' 107 (([v0, v1, v2, v3, v4].drop 3).take (Tryd.prog.cellsOf 107)) = ys[3]? := hg 3 _ rfl
    have f4 : DataW.trod enc Tryd.prog W 0 (fun _ => true) true n' 3 (([v0, v1, v2, v3, v4].drop 4).take (Tryd.prog.cellsOf 3)) = ys[4]? := hg 4 _ rfl
    rw [cells_int] at f0 f1 f2 f4
    rw [cells_writesS] at f3
    match ys, hyl with
    | [y0, y1, y2, y3, y4], _ =>
      simp only [List.drop_zero, List.take_succ_cons, List.take_zero, List.drop_succ_cons, List.getElem?_cons_zero, List.getElem?_cons_succ] at f0 f1 f2 f3 f4
      obtain ⟨p, e0, _, w0⟩ := DataW.trod_int Tryd.underlying3 f0
      obtain ⟨s, e1, _, w1⟩ := DataW.trod_int Tryd.underlying3 f1
      obtain ⟨m, e2, _, w2⟩ := DataW.trod_int Tryd.underlying3 f2
      obtain ⟨a, e4, _, w4⟩ := DataW.trod_int Tryd.underlying3 f4
      simp only [List.cons.injEq, and_true] at e0 e1 e2 e4
      subst e0 e1 e2 e4
      have hd : x.1 = .agg [y0.1, y1.1, y2.1, y3.1, y4.1] := by rw [hx]; simp
      have hz3 : ∀ k ∈ y3.1.weights Tryd.prog 107, k ≤ reachBytes := by
        intro k hk
        refine hz k ?_
        rw [hd]
        simp only [DataW.weights, Tryd.underlying109]
        exact DataW.weights_mem_each (j := 3) (t := 107) (d := y3.1) (by simp) (by simp) k hk
      have a0 : W.cell? ⟨b, o, none⟩ = some (.int .i64 p) := by simpa [Addr.add] using hat 0 (by omega)
      have a1 : W.cell? ⟨b, o + 1, none⟩ = some (.int .i64 s) := by simpa [Addr.add] using hat 1 (by omega)
      have a2 : W.cell? ⟨b, o + 2, none⟩ = some (.int .i64 m) := by simpa [Addr.add] using hat 2 (by omega)
      have a3 : W.cell? ⟨b, o + 3, none⟩ = some v3 := by simpa [Addr.add] using hat 3 (by omega)
      have a4 : W.cell? ⟨b, o + 4, none⟩ = some (.int .i64 a) := by simpa [Addr.add] using hat 4 (by omega)
      have hv3 : ∃ A m c, v3 = .slice A m c := by
        rcases open_slice Tryd.underlying107 f3 with ⟨hcs, _⟩ | ⟨a, len, cap, _, _, _, _, hcs, _⟩
        · simp only [List.cons.injEq, and_true] at hcs; exact ⟨_, _, _, hcs⟩
        · simp only [List.cons.injEq, and_true] at hcs; exact ⟨_, _, _, hcs⟩
      obtain ⟨A, q, c, rfl⟩ := hv3
      obtain ⟨l, hl, hr, hcap⟩ := open_seq (E := WrAt W) (sz := 2) (by_ := 32) (mx := 4398046511104) Tryd.underlying107 cells_write (by omega) bytes_write (fun n h => by unfold reachBytes at h; omega) f3 hz3 (fun b o n' cs y hc ht _ => open_wrAt hc ht)
      subst hl
      exact ⟨⟨p, s, m, l, a⟩, a0, a1, a2, ⟨A, c, a3, hcap, hr⟩, a4, i64_of_wf w0, i64_of_wf w1, i64_of_wf w2, i64_of_wf w4⟩

/-- A world that came in. -/
theorem open_world {r0 : Reach} {base : Nat} {v : Value} {d : DataW H} {p : List MemPlace} (hv : Value.okWide Tryd.prog W r0 base 67 v) (h : DataW.Trod enc Tryd.prog W 0 (fun _ => true) true 67 v d p)
    (hz : ∀ k ∈ d.weights Tryd.prog 67, k ≤ reachBytes) :
    ∃ (wo : WoM) (RA : Option Addr) (n rc : Nat) (CA : Option Addr) (m cc : Nat), v = woV RA n rc wo.clock CA m cc ∧ WoIn W RA n rc CA m cc wo := by
  obtain ⟨cs, rfl, hsz⟩ := okWide_struct Tryd.underlying67 hv
  obtain ⟨lst⟩ := cs
  match lst, hsz.trans cells_world with
  | [v0, v1, v2], _ =>
    obtain ⟨fuel, hf⟩ := h
    obtain ⟨ys, n', _, hx, hlen, hyl, hg⟩ := DataW.trod_struct Tryd.underlying67 hf
    have f0 : DataW.trod enc Tryd.prog W 0 (fun _ => true) true n' 64 (([v0, v1, v2].drop 0).take (Tryd.prog.cellsOf 64)) = ys[0]? := hg 0 _ rfl
    have f1 : DataW.trod enc Tryd.prog W 0 (fun _ => true) true n' 3 (([v0, v1, v2].drop 1).take (Tryd.prog.cellsOf 3)) = ys[1]? := hg 1 _ rfl
    have f2 : DataW.trod enc Tryd.prog W 0 (fun _ => true) true n' 65 (([v0, v1, v2].drop 2).take (Tryd.prog.cellsOf 65)) = ys[2]? := hg 2 _ rfl
    rw [cells_rowsS] at f0
    rw [cells_int] at f1
    rw [cells_clientsS] at f2
    match ys, hyl with
    | [y0, y1, y2], _ =>
      simp only [List.drop_zero, List.take_succ_cons, List.take_zero, List.drop_succ_cons, List.getElem?_cons_zero, List.getElem?_cons_succ] at f0 f1 f2
      obtain ⟨k, e1, _, w1⟩ := DataW.trod_int Tryd.underlying3 f1
      simp only [List.cons.injEq, and_true] at e1
      subst e1
      have hd : d = .agg [y0.1, y1.1, y2.1] := by simp only [Prod.mk.injEq] at hx; simpa using hx.1
      have hz0 : ∀ k ∈ y0.1.weights Tryd.prog 64, k ≤ reachBytes := by
        intro k hk
        refine hz k ?_
        rw [hd]
        simp only [DataW.weights, Tryd.underlying67]
        exact DataW.weights_mem_each (j := 0) (t := 64) (d := y0.1) (by simp) (by simp) k hk
      have hz2 : ∀ k ∈ y2.1.weights Tryd.prog 65, k ≤ reachBytes := by
        intro k hk
        refine hz k ?_
        rw [hd]
        simp only [DataW.weights, Tryd.underlying67]
        exact DataW.weights_mem_each (j := 2) (t := 65) (d := y2.1) (by simp) (by simp) k hk
      have hv0 : ∃ A m c, v0 = .slice A m c := by
        rcases open_slice Tryd.underlying64 f0 with ⟨hcs, _⟩ | ⟨a, len, cap, _, _, _, _, hcs, _⟩
        · simp only [List.cons.injEq, and_true] at hcs; exact ⟨_, _, _, hcs⟩
        · simp only [List.cons.injEq, and_true] at hcs; exact ⟨_, _, _, hcs⟩
      have hv2 : ∃ A m c, v2 = .slice A m c := by
        rcases open_slice Tryd.underlying65 f2 with ⟨hcs, _⟩ | ⟨a, len, cap, _, _, _, _, hcs, _⟩
        · simp only [List.cons.injEq, and_true] at hcs; exact ⟨_, _, _, hcs⟩
        · simp only [List.cons.injEq, and_true] at hcs; exact ⟨_, _, _, hcs⟩
      obtain ⟨RA, n, rc, rfl⟩ := hv0
      obtain ⟨CA, m, cc, rfl⟩ := hv2
      obtain ⟨l, hl, hr, hcap⟩ := open_seq (E := RowAt W (· < W.heap.size)) (sz := 5) (by_ := 80) (mx := 1759218604441) Tryd.underlying64 cells_row (by omega) bytes_row (fun n h => by unfold reachBytes at h; omega) f0 hz0 (fun b o n' cs y hc ht hz => open_rowAt hc ht hz)
      obtain ⟨l', hl', hr', hcap'⟩ := open_seq (E := ClAt W (· < W.heap.size)) (sz := 5) (by_ := 56) (mx := 2513169434917) Tryd.underlying65 cells_client (by omega) bytes_client (fun n h => by unfold reachBytes at h; omega) f2 hz2 (fun b o n' cs y hc ht hz => open_clAt hc ht hz)
      exact ⟨⟨l, k, l'⟩, RA, n, rc, CA, m, cc, rfl, hl, hcap, hr, hl', hcap', hr', i64_of_wf w1⟩
end
end Go.Proofs.YtambkjnhfejfaabDoor

namespace Go.Proofs.YtambkjnhfejfaabDoor
open Go.ChangeShapes Go.WideShapes Go.ChangeAt Go.WideMaps Go.WideElems Go.RowKit Go.Deep
set_option maxRecDepth 100000

abbrev laid3 : List (String × DataW Unit) := [("math/bits.deBruijn32tab", Rows.laid_math_bits_deBruijn32tab), ("math/bits.deBruijn64tab", Rows.laid_math_bits_deBruijn64tab), ("internal/strconv.uint64pow10", Rows.laid_internal_strconv_uint64pow10)]
theorem door_met (os : Os) (args : Array Value) : laidMetH Tryd.prog laid3 ((World.doorLaid Tryd.prog 400 os).forCall (fun _ _ => 0) ⟨#[], args, []⟩).memory :=
  laidMetH_of_parts3 (fuel := 8) (laidMet_of_run' 8 (by kernel_rfl) (by kernel_rfl)) (by kernel_rfl) (by kernel_rfl)
end Go.Proofs.YtambkjnhfejfaabDoor

namespace Go.Proofs.YtambkjnhfejfaabDoor
open Go.RowKit

theorem locked_any (key lp val : ByteArray) (ls : Int) (A : Option Addr) (n c : Nat) (w : World) :
    Calls Tryd.prog 52 #[.agg #[.string key, .int .i64 ls, .string lp, .string val, .slice A n c]] w fun e w' => e = .returned (.bool (ls != 0)) ∧ Below w.heap.size w w' := by
  go_enter Tryd.func52, Tryd.ntmps52
  go_wp2
  go_ret
  exact ⟨rfl, (Below.refl _ _).alloc (Nat.le_refl _) _⟩

theorem maxRecords_any (key lp val : ByteArray) (ls : Int) (A : Option Addr) (n c : Nat) (w : World) :
    Calls Tryd.prog 43 #[.agg #[.string key, .int .i64 ls, .string lp, .string val, .slice A n c]] w fun e w' => e = .returned (.int .i64 (roomOf ls)) ∧ Below w.heap.size w w' := by
  by_cases h : ls = 0
  · subst h
    go_enter Tryd.func43, Tryd.ntmps43
    go_wp2
    go_ret
    exact ⟨rfl, by repeat (first | exact Below.refl _ _ | refine Below.alloc ?_ (by simp) _)⟩
  · have hr0 : roomOf ls = 99 := if_neg h
    have hr := Lib.hid hr0
    clear hr0
    have h1 : (ls != 0) = true := by simpa using h
    go_enter Tryd.func43, Tryd.ntmps43
    go_wp2
    go_ret
    exact ⟨ret_int hr.out.symm, by repeat (first | exact Below.refl _ _ | refine Below.alloc ?_ (by simp) _)⟩

theorem validRecord_any (r : RecM) (w : World) (hr : RecOk r) :
    Calls Tryd.prog 62 #[recV r] w fun e w' => e = .returned (.bool (recB r)) ∧ Below w.heap.size w w' := by
  obtain ⟨s, c, v⟩ := r
  have hv : v.size ≤ maxLen := hr.v
  unfold maxLen at hv
  clear hr
  by_cases h1 : inB s 1 1099511627776 = true
  · by_cases h2 : c = 0
    · subst h2
      go_enter Tryd.func62, Tryd.ntmps62
      go_wp2_with (go_at_call 63; refine (isTime_any _ _).mono ?_; rintro e w' ⟨rfl, rfl⟩)
      go_ret
      exact ⟨ret_bool (by simp [recB, h1]), by repeat (first | exact Below.refl _ _ | refine Below.alloc ?_ (by simp) _)⟩
    · have h2' : (c == 0) = false := by simpa using h2
      by_cases h3 : s < c <;> by_cases h4 : c ≤ 1099511627776 <;> by_cases h5 : v.size ≤ 20
      all_goals
        go_enter Tryd.func62, Tryd.ntmps62
        go_wp2_with (go_at_call 63; refine (isTime_any _ _).mono ?_; rintro e w' ⟨rfl, rfl⟩)
        go_ret
        exact ⟨ret_bool (by simp [recB, h1, h2, h3, h4, h5] <;> omega), by repeat (first | exact Below.refl _ _ | refine Below.alloc ?_ (by simp) _)⟩
  · have h1' : inB s 1 1099511627776 = false := by simpa using h1
    clear h1
    go_enter Tryd.func62, Tryd.ntmps62
    go_wp2_with (go_at_call 63; refine (isTime_any _ _).mono ?_; rintro e w' ⟨rfl, rfl⟩)
    go_ret
    exact ⟨ret_bool (by simp [recB, h1']), by repeat (first | exact Below.refl _ _ | refine Below.alloc ?_ (by simp) _)⟩
end Go.Proofs.YtambkjnhfejfaabDoor
