/-
  A row that comes in as an argument: its value, and that its records lie in memory. Conditions: the form's own reach (each slice takes at most 2^47 - 4096 bytes).
-/
import Derived.Test.YtambkjnhfejfaaaMem
import Derived.Test.YtambkjnhfejfaaaRows
import Derived.WalkKit
import Derived.ProofKit
import Derived.OpenShut
import Derived.ShutString
import Derived.ChangeOld
import Derived.Below
import Derived.SizedLaws
import Derived.Deep.Slices
import Derived.Deep.Fields
import Derived.Deep.Strs
import Derived.ChangeSame
namespace Go.Proofs.Ytambkjnhfejfaaa
open Go.ChangeShapes Go.WideShapes Go.ChangeAt Go.RowKit Go.Deep

set_option maxRecDepth 100000
theorem own_knob : ownKnob Try.prog.godebug = none := by kernel_rfl
theorem laidOut : laidOutB Try.prog = true := by kernel_rfl
theorem cells_row : Try.prog.cellsOf 27 = 5 := by kernel_rfl
theorem cells_lock : Try.prog.cellsOf 24 = 2 := by kernel_rfl
theorem cells_string : Try.prog.cellsOf 9 = 1 := by kernel_rfl
theorem cells_int : Try.prog.cellsOf 3 = 1 := by kernel_rfl
theorem cells_recs : Try.prog.cellsOf 25 = 1 := by kernel_rfl
theorem cells_rec : Try.prog.cellsOf 56 = 3 := by kernel_rfl
theorem bytes_rec : Try.prog.bytesOf 56 = 32 := by kernel_rfl

theorem i64_of_wf {n : Int} (h : (Lit.int .i64 n).wf = true) : i64 n := by
  have := bounds_i64 h
  unfold i64
  omega

section
variable {H : Type} {enc : TypeId × Value → H} {W : World}

/-- One record of a slice that came in. -/
theorem open_rec {n b o : Nat} {cs : List Value} {x : DataW H × List MemPlace} {spare : Nat → Bool} {held : Bool} (hc : W.cells? 0 ⟨b, o, none⟩ 3 = some cs) (h : DataW.trod enc Try.prog W 0 spare held n 56 cs = some x) :
    ∃ r : RecM, RecOk r ∧ RecAt W b o r := by
  obtain ⟨_, hcl, hat⟩ := World.cells?_some hc
  obtain ⟨ys, n', _, _, hlen, hyl, hf⟩ := DataW.trod_struct Try.underlying56 h
  match cs, hcl with
  | [v0, v1, v2], _ =>
    have f0 : DataW.trod enc Try.prog W 0 spare held n' 3 (([v0, v1, v2].drop 0).take (Try.prog.cellsOf 3)) = ys[0]? := hf 0 _ rfl
    have f1 : DataW.trod enc Try.prog W 0 spare held n' 3 (([v0, v1, v2].drop 1).take (Try.prog.cellsOf 3)) = ys[1]? := hf 1 _ rfl
    have f2 : DataW.trod enc Try.prog W 0 spare held n' 9 (([v0, v1, v2].drop 2).take (Try.prog.cellsOf 9)) = ys[2]? := hf 2 _ rfl
    rw [cells_int] at f0 f1
    rw [cells_string] at f2
    match ys, hyl with
    | [y0, y1, y2], _ =>
      simp only [List.drop_zero, List.take_succ_cons, List.take_zero, List.drop_succ_cons, List.getElem?_cons_zero, List.getElem?_cons_succ] at f0 f1 f2
      obtain ⟨s, e0, _, ws⟩ := DataW.trod_int Try.underlying3 f0
      obtain ⟨c, e1, _, wc⟩ := DataW.trod_int Try.underlying3 f1
      obtain ⟨v, e2, _, wv⟩ := DataW.trod_string Try.underlying9 f2
      simp only [List.cons.injEq, and_true] at e0 e1 e2
      subst e0 e1 e2
      refine ⟨⟨s, c, v⟩, ⟨i64_of_wf ws, i64_of_wf wc, wv⟩, ?_, ?_, ?_⟩
      · simpa [Addr.add] using hat 0 (by omega)
      · simpa [Addr.add] using hat 1 (by omega)
      · simpa [Addr.add] using hat 2 (by omega)

/-- The records of a slice that came in. -/
theorem open_recs {fuel : Nat} {A : Option Addr} {n c : Nat} {x : DataW H × List MemPlace} (h : DataW.trod enc Try.prog W 0 (fun _ => true) true fuel 25 [.slice A n c] = some x)
    (hz : ∀ k ∈ x.1.weights Try.prog 25, k ≤ reachBytes) : ∃ l : List RecM, n = l.length ∧ RecsAt W W.heap.size A l ∧ n ≤ c := by
  rcases open_slice Try.underlying25 h with ⟨hcs, _⟩ | ⟨a, len, cap, m, n', D, Pl, hcs, hb, hl, hm, hmm, hx, hi⟩
  · simp only [List.cons.injEq, Value.slice.injEq, and_true] at hcs
    obtain ⟨_, rfl, rfl⟩ := hcs
    exact ⟨[], rfl, RecsAt.nil_ _ _ _, Nat.le_refl _⟩
  · simp only [List.cons.injEq, Value.slice.injEq, and_true] at hcs
    obtain ⟨rfl, rfl, rfl⟩ := hcs
    simp only [if_true] at hmm
    subst hmm
    have hw : (n + (m - n)) * 32 ≤ reachBytes := by
      have := hz ((n + (m - n)) * Try.prog.bytesOf 56) (by
        rw [hx]
        simp only [DataW.weights, Try.underlying25]
        simp)
      rwa [bytes_rec] at this
    have hn : n ≤ 4398046511104 := by unfold reachBytes at hw; omega
    rcases Nat.eq_zero_or_pos n with h0 | h0
    · subst h0
      exact ⟨[], rfl, RecsAt.nil_ _ _ _, Nat.zero_le _⟩
    · obtain ⟨b, o, spot⟩ := a
      rw [cells_rec] at hi
      have hsp : spot = none := by
        obtain ⟨cs, hc, _⟩ := hi 0 (by omega)
        obtain ⟨_, hcl, hat⟩ := World.cells?_some hc
        have h3 := hat 0 (by omega)
        have : cs[0]? = some (cs[0]'(by omega)) := List.getElem?_eq_getElem (by omega)
        rw [this] at h3
        simpa [Addr.add] using World.cell?_spot h3
      subst hsp
      have hr : ∀ i, i < n → ∃ r : RecM, RecOk r ∧ RecAt W b (o + i * 3) r := by
        intro i hin
        obtain ⟨cs, hc, ht⟩ := hi i (by omega)
        have e : (⟨b, o, none⟩ : Addr).add (i * 3) = ⟨b, o + i * 3, none⟩ := by
          unfold Addr.add
          split
          · rename_i h; rw [h]; rfl
          · rfl
        rw [e] at hc
        exact open_rec hc ht
      obtain ⟨f, hf⟩ := choose_lt hr
      refine ⟨(List.range n).map f, by simp, ⟨by simpa using hn, fun r hrm => ?_, fun _ => ⟨b, o, rfl, ?_, fun i r hir => ?_⟩⟩, hl⟩
      · obtain ⟨i, hin, rfl⟩ := List.mem_map.1 hrm
        exact (hf i (List.mem_range.1 hin)).1
      · exact World.block_lt_of_cell? W _ (hf 0 h0).2.s
      · have hin : i < n := by have := (List.getElem?_eq_some_iff.1 hir).1; simpa using this
        have : r = f i := by simpa [hin] using hir.symm
        rw [this]
        exact (hf i hin).2

/-- A row that came in. -/
theorem open_row {r0 : Reach} {base : Nat} {v : Value} {d : DataW H} {p : List MemPlace} (hv : Value.okWide Try.prog W r0 base 27 v) (h : DataW.Trod enc Try.prog W 0 (fun _ => true) true 27 v d p)
    (hz : ∀ k ∈ d.weights Try.prog 27, k ≤ reachBytes) :
    ∃ (key lp val : ByteArray) (ls : Int) (A : Option Addr) (n c : Nat) (l : List RecM), v = .agg #[.string key, .int .i64 ls, .string lp, .string val, .slice A n c] ∧ key.size ≤ maxLen ∧ lp.size ≤ maxLen ∧ val.size ≤ maxLen ∧ i64 ls ∧
      n = l.length ∧ RecsAt W W.heap.size A l ∧ n ≤ c := by
  obtain ⟨cs, rfl, hsz⟩ := okWide_struct Try.underlying27 hv
  obtain ⟨lst⟩ := cs
  match lst, hsz.trans cells_row with
  | [v0, v1, v2, v3, v4], _ =>
    obtain ⟨fuel, hf⟩ := h
    obtain ⟨ys, n', _, hx, hlen, hyl, hg⟩ := DataW.trod_struct Try.underlying27 hf
    have f0 : DataW.trod enc Try.prog W 0 (fun _ => true) true n' 9 (([v0, v1, v2, v3, v4].drop 0).take (Try.prog.cellsOf 9)) = ys[0]? := hg 0 _ rfl
    have f1 : DataW.trod enc Try.prog W 0 (fun _ => true) true n' 24 (([v0, v1, v2, v3, v4].drop 1).take (Try.prog.cellsOf 24)) = ys[1]? := hg 1 _ rfl
    have f2 : DataW.trod enc Try.prog W 0 (fun _ => true) true n' 9 (([v0, v1, v2, v3, v4].drop 3).take (Try.prog.cellsOf 9)) = ys[2]? := hg 2 _ rfl
    have f3 : DataW.trod enc Try.prog W 0 (fun _ => true) true n' 25 (([v0, v1, v2, v3, v4].drop 4).take (Try.prog.cellsOf 25)) = ys[3]? := hg 3 _ rfl
    rw [cells_string] at f0 f2
    rw [cells_lock] at f1
    rw [cells_recs] at f3
    match ys, hyl with
    | [y0, y1, y2, y3], _ =>
      simp only [List.drop_zero, List.take_succ_cons, List.take_zero, List.drop_succ_cons, List.getElem?_cons_zero, List.getElem?_cons_succ] at f0 f1 f2 f3
      obtain ⟨key, e0, _, wk⟩ := DataW.trod_string Try.underlying9 f0
      obtain ⟨val, e2, _, wv⟩ := DataW.trod_string Try.underlying9 f2
      obtain ⟨zs, n'', _, _, _, hzl, hg'⟩ := DataW.trod_struct Try.underlying24 f1
      have g0 : DataW.trod enc Try.prog W 0 (fun _ => true) true n'' 3 (([v1, v2].drop 0).take (Try.prog.cellsOf 3)) = zs[0]? := hg' 0 _ rfl
      have g1 : DataW.trod enc Try.prog W 0 (fun _ => true) true n'' 9 (([v1, v2].drop 1).take (Try.prog.cellsOf 9)) = zs[1]? := hg' 1 _ rfl
      rw [cells_int] at g0
      rw [cells_string] at g1
      match zs, hzl with
      | [z0, z1], _ =>
        simp only [List.drop_zero, List.take_succ_cons, List.take_zero, List.drop_succ_cons, List.getElem?_cons_zero, List.getElem?_cons_succ] at g0 g1
        obtain ⟨ls, e3, _, wl⟩ := DataW.trod_int Try.underlying3 g0
        obtain ⟨lp, e4, _, wp⟩ := DataW.trod_string Try.underlying9 g1
        simp only [List.cons.injEq, and_true] at e0 e2 e3 e4
        subst e0 e2 e3 e4
        have hd : d = .agg [y0.1, y1.1, y2.1, y3.1] := by simp only [Prod.mk.injEq] at hx; simpa using hx.1
        have hz3 : ∀ k ∈ y3.1.weights Try.prog 25, k ≤ reachBytes := by
          intro k hk
          refine hz k ?_
          rw [hd]
          simp only [DataW.weights, Try.underlying27]
          exact DataW.weights_mem_each (j := 3) (t := 25) (d := y3.1) (by simp) (by simp) k hk
        rcases open_slice Try.underlying25 f3 with ⟨hcs, _⟩ | ⟨a, len, cap, _, _, _, _, hcs, _⟩
        · simp only [List.cons.injEq, and_true] at hcs
          subst hcs
          obtain ⟨l, hl, hr, hcap⟩ := open_recs f3 hz3
          exact ⟨key, lp, val, ls, _, _, _, l, rfl, wk, wp, wv, i64_of_wf wl, hl, hr, hcap⟩
        · simp only [List.cons.injEq, and_true] at hcs
          subst hcs
          obtain ⟨l, hl, hr, hcap⟩ := open_recs f3 hz3
          exact ⟨key, lp, val, ls, _, _, _, l, rfl, wk, wp, wv, i64_of_wf wl, hl, hr, hcap⟩
/-- What the reach says of one argument. -/
theorem reach_at {ts : List TypeId} {ds : List (DataW H)} {j : Nat} {t : TypeId} {d : DataW H} (h : (DataW.weightsEach Try.prog ts ds).all (fun x => decide (x ≤ reachBytes)) = true) (ht : ts[j]? = some t) (hd : ds[j]? = some d) :
    ∀ k ∈ d.weights Try.prog t, k ≤ reachBytes := fun k hk => by
  have := List.all_eq_true.1 h k (DataW.weights_mem_each ht hd k hk)
  simpa using this
end
end Go.Proofs.Ytambkjnhfejfaaa
