/-
  Contracts of functions of the program and words for memory, several texts in one: KTopRun. Conditions: those stated with each.
-/
import Derived.Test.YtambkjnhfejfaabDoorG29
import Derived.Test.YtambkjnhfejfaabDoorG34
namespace Go.Proofs.YtambkjnhfejfaabDoor
open Go.RowKit
/-- The answers and the world that go out. -/
def TopOut (l : List ActM) (w : World) (e : Ending) (w' : World) : Prop :=
  ∃ g RA n rc CA m cc, e = .returned (.tuple #[.slice (some ⟨g, 0, none⟩) l.length l.length, woV RA n rc (runWo (startW 4) l).clock CA m cc, .int .i64 0]) ∧ WoInX w' (fun b => b ≤ w.heap.size) RA n rc CA m cc (runWo (startW 4) l) ∧ AnsDone g l.length (runAns (startW 4) l) w' ∧ w.heap.size ≤ g ∧ Below w.heap.size w w'
set_option maxRecDepth 100000 in
set_option maxHeartbeats 4000000 in
theorem topRun_any (A : Option Addr) (q : Nat) (l : List ActM) (w : World) (hact : ActsAt w (· < w.heap.size) A l) (hl : l.length ≤ 400) :
    Calls Tryd.prog 38 #[.slice A l.length q] w (TopOut l w) := by
  obtain ⟨W0, hW, hb0, p0, p1, p2⟩ := world_new w
  have HR := Lib.hid (run_any 4 A l q W0 (hact.acts (below_mem hb0).1 (below_mem hb0).2))
  have HW := Lib.hid hW
  have HB0 := Lib.hid hb0
  have hpf : ∀ o, W0.frozen? ⟨w.heap.size, o, none⟩ = false := fun o => by rw [hW]; simp
  have HPF := Lib.hid hpf
  have hs0 : w.heap.size < W0.heap.size := by rw [hW]; simp
  clear hact hW hb0 hpf
  go_enter Tryd.func38, Tryd.ntmps38
  go_wp2_with fail
  rw [← HW.out]
  refine HR.out.mono ?_
  rintro e w1 ⟨hb1, hor⟩
  rcases hor with ⟨h, _⟩ | ⟨_, h, _⟩ | ⟨_, _, g, RA, n, rc, CA, m, cc, rfl, hwo, hans, hg⟩
  · exact absurd h (by decide)
  · omega
  · have e4 : ((4 : Int)).toNat = 4 := rfl
    rw [e4] at hwo hans ⊢
    obtain ⟨WO, hWO⟩ : ∃ WO, WO = runWo (startW 4) l := ⟨_, rfl⟩
    rw [← hWO] at hwo ⊢
    obtain ⟨hc1, hf1⟩ := bcell hb1
    have q0 := (hc1 _ 0 hs0).trans p0
    have q1 := (hc1 _ 1 hs0).trans p1
    have q2 := (hc1 _ 2 hs0).trans p2
    have f0 := (hf1 _ 0 hs0).trans (HPF.out 0)
    have f1 := (hf1 _ 1 hs0).trans (HPF.out 1)
    have f2 := (hf1 _ 2 hs0).trans (HPF.out 2)
    have HA := Lib.hid hans
    have HB := Lib.hid (below_next HB0.out hb1)
    have HWI := Lib.hid hwo
    have HWO := Lib.hid hWO
    have hs1 : w.heap.size < w1.heap.size := Nat.lt_of_lt_of_le hs0 hb1.size
    have hgw : w.heap.size < g := by omega
    have t0 : ((l.length : Int) != (l.length : Int)) = false := by simp
    clear hwo hans hb1 hWO hc1 hf1
    have hn1 : w.heap.size ≠ w1.heap.size := by omega
    have hn2 : w1.heap.size ≠ w.heap.size := by omega
    obtain ⟨W2, hW2, k0, k1, k2, hb2, hs2⟩ := box3_new w1 (.slice RA n rc) (.int .i64 WO.clock) (.slice CA m cc) 67
    obtain ⟨hc2, hf2⟩ := bcell hb2
    have q0 := (hc2 _ _ hs1).trans q0
    have q1 := (hc2 _ _ hs1).trans q1
    have q2 := (hc2 _ _ hs1).trans q2
    have f0 := (hf2 _ _ hs1).trans f0
    have f1 := (hf2 _ _ hs1).trans f1
    have f2 := (hf2 _ _ hs1).trans f2
    have HW2 := Lib.hid hW2
    have HB2 := Lib.hid hb2
    clear hW2 hb2 hc2 hf2
    go_wp2
    rw [← HW2.out]
    go_region
    obtain ⟨m0, m1, m2⟩ := set3_at q0 q1 q2 (.slice RA n rc) (.int .i64 WO.clock) (.slice CA m cc)
    have hs := set3_same W2 w.heap.size (.slice RA n rc) (.int .i64 WO.clock) (.slice CA m cc)
    have hgh := set3_heap W2 w.heap.size (.slice RA n rc) (.int .i64 WO.clock) (.slice CA m cc) (k := g) (by omega)
    have hbel : Below w.heap.size w (set3 W2 w.heap.size (.slice RA n rc) (.int .i64 WO.clock) (.slice CA m cc)) := (((below_next HB.out HB2.out).setCell (Nat.le_refl w.heap.size) _).setCell (Nat.le_refl w.heap.size) _).setCell (Nat.le_refl w.heap.size) _
    obtain ⟨V, hV⟩ : ∃ V, V = set3 W2 w.heap.size (.slice RA n rc) (.int .i64 WO.clock) (.slice CA m cc) := ⟨_, rfl⟩
    rw [← hV] at m0 m1 m2 hs hgh hbel
    have hV' : V = ((W2.setCell ⟨w.heap.size, 0, none⟩ (.slice RA n rc)).setCell ⟨w.heap.size, 1, none⟩ (.int .i64 WO.clock)).setCell ⟨w.heap.size, 2, none⟩ (.slice CA m cc) := hV
    rw [← hV']
    have hX : WoInX W2 (fun b => b ≤ w.heap.size) RA n rc CA m cc WO := (HWI.out.less fun b e => by show b < _; have e : b ≤ w.heap.size := e; omega).upto HB2.out
    have HWV := Lib.hid ((hX.same hs (fun p e => Nat.le_of_eq e)).upto (below_drew (Below.refl _ _)))
    have hA2 : AnsDone g l.length (runAns (startW 4) l) W2 := HA.out.kept (HB2.out.block _ HA.out.lt)
    have HAV := Lib.hid ((hA2.kept hgh).kept (show V.drew.heap[g]? = V.heap[g]? from rfl))
    have HBV := Lib.hid (below_drew hbel)
    clear hV hV' hs hgh hbel hX hA2 q0 q1 q2
    go_wp2
    refine bodyPost_ret (v := .tuple #[.slice (some ⟨g, 0, none⟩) l.length l.length, woV RA n rc WO.clock CA m cc, .int .i64 0]) (by simp [results, Tryd.results38, go_sem, m0, m1, m2]) rfl ⟨g, RA, n, rc, CA, m, cc, ?_, ?_, HAV.out, Nat.le_of_lt hgw, HBV.out⟩
    · rw [← HWO.out]
    · rw [← HWO.out]; exact HWV.out
end Go.Proofs.YtambkjnhfejfaabDoor
