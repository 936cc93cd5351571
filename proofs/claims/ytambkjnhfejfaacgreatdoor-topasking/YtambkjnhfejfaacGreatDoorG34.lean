/-
  Contracts of functions of the program and words for memory, several texts in one: KCommMem, KTopRun, KCommEnd. Conditions: those stated with each.
-/
import Derived.Test.YtambkjnhfejfaacGreatDoorG02
import Derived.Test.YtambkjnhfejfaacGreatDoorG31
import Derived.Test.YtambkjnhfejfaacGreatDoorG32
import Derived.Test.YtambkjnhfejfaacGreatDoorG33
namespace Go.Proofs.YtambkjnhfejfaacGreatDoor
open Go.RowKit Go.Maps

section
variable {α : Type} {C : Cells α}
/-- append(v, a): what it leaves, and what it turns: the slice's own block alone. -/
theorem app_one {t e ty : TypeId} {i0 : TypeInfo} {z : Value} {bytes : Nat} (hu : Tryz.prog.underlying t = some (.slice e)) (hi0 : Tryz.prog.info? e = some i0) (hz0 : i0.zero = some z) (hz1 : i0.size = C.sz) (hz2 : i0.bytes = bytes) (hz3 : z.cells.size = C.sz)
    (W : World) (base : Nat) (v : Value) (l0 : List α) (a : α) (hown : C.Owns W base e v l0) (hbd : l0.length ≤ 1000) (hby : bytes ≤ 1000) (hbase : base ≤ W.heap.size) :
    ∃ v' w', (Builtin.append_ #[t, t] ty #[v, .slice (some ⟨W.heap.size, 0, none⟩) 1 1]).run Tryz.prog (W.alloc (.cells (C.cs a).toArray e)) = .ok v' w' ∧ C.Owns w' base e v' (l0 ++ [a]) ∧ (W.alloc (.cells (C.cs a).toArray e)).grownBy w' v.ownBlock := by
  have hown' : C.Owns (W.alloc (.cells (C.cs a).toArray e)) base e v l0 := hown.kept (below_alloc (Below.refl _ _) _)
  have hsrc : ∀ j u, (C.all [a])[j]? = some u → (W.alloc (.cells (C.cs a).toArray e)).cell? ((⟨W.heap.size, 0, none⟩ : Addr).add j) = some u := fun j u hj => Cells.src (one_seq (C := C) W a) j u hj
  have hnb : (l0.length + 1) * bytes ≤ 1001 * 1000 := Nat.mul_le_mul (by omega) hby
  obtain ⟨v', w', h1, h2, h3, _, h5⟩ := run_append_own_at (P := Tryz.prog) (W.alloc (.cells (C.cs a).toArray e)) base t ty e i0 _ C.sz bytes hu hi0 hz0 hz1 hz2 hz3 C.pos v l0.length (C.all l0) hown' ⟨W.heap.size, 0, none⟩ 1 1 (C.all [a])
    (by rw [C.all_length]; rfl) hsrc (C.all_one [a]) (by simp only [maxLen]; omega) (by omega) (by simp; omega)
  refine ⟨v', w', h1, ?_, h3⟩
  unfold Cells.Owns
  rw [List.length_append, C.all_append]
  exact h2
end
/-- The cells of a deal, its map in a block. -/
def dealCells : Cells (DealM × Nat) := ⟨fun d => [.int .i64 d.1.st, .int .i64 d.1.cm, .int .i64 d.1.act, .map (some d.2)], 4, fun _ => rfl, fun a v hv => by
  simp only [List.mem_cons, List.not_mem_nil, or_false] at hv
  rcases hv with rfl | rfl | rfl | rfl <;> rfl, by decide⟩
def trackCells : Cells (TrackM × Nat) := ⟨fun t => [.int .i64 t.1.ph, .int .i64 t.1.st, .int .i64 t.1.cm, .map (some t.2)], 4, fun _ => rfl, fun a v hv => by
  simp only [List.mem_cons, List.not_mem_nil, or_false] at hv
  rcases hv with rfl | rfl | rfl | rfl <;> rfl, by decide⟩
theorem deal_info : (Tryz.prog.info? 51).map (fun i => (i.zero, i.size, i.bytes)) = some (some (.agg #[.int .i64 0, .int .i64 0, .int .i64 0, .map none]), 4, 32) := by kernel_rfl
theorem track_info : (Tryz.prog.info? 64).map (fun i => (i.zero, i.size, i.bytes)) = some (some (.agg #[.int .i64 0, .int .i64 0, .int .i64 0, .map none]), 4, 32) := by kernel_rfl
/-- The tracks of the clients, and the maps of their writes. -/
structure Live (w : World) (gA k : Nat) (ts : List TrackM) (mb : Nat → Option Nat) : Prop where
  p : ∀ C, C < 4 → w.cell? ⟨gA, C * 4, none⟩ = some (.int .i64 (ts.getD C default).ph)
  s : ∀ C, C < 4 → w.cell? ⟨gA, C * 4 + 1, none⟩ = some (.int .i64 (ts.getD C default).st)
  c : ∀ C, C < 4 → w.cell? ⟨gA, C * 4 + 2, none⟩ = some (.int .i64 (ts.getD C default).cm)
  m : ∀ C, C < 4 → w.cell? ⟨gA, C * 4 + 3, none⟩ = some (.map (mb C))
  f : ∀ o, w.frozen? ⟨gA, o, none⟩ = false
  no : ∀ C, C < 4 → mb C = none → (ts.getD C default).ws = [] ∧ (ts.getD C default).ph = 0
  yes : ∀ C b, C < 4 → mb C = some b → MapAt w b k (ts.getD C default).ws
  ne : ∀ C C' b, C < 4 → C' < 4 → C ≠ C' → mb C = some b → mb C' ≠ some b
/-- Maps that no longer turn. -/
structure Cold (w : World) (mb : Nat → Option Nat) (ds : List (DealM × Nat)) (sn : List (TrackM × Nat)) : Prop where
  d : ∀ x ∈ ds, (∃ n, MapAt w x.2 n x.1.ws) ∧ ∀ C, C < 4 → mb C ≠ some x.2
  s : ∀ x ∈ sn, (∃ n, MapAt w x.2 n x.1.ws) ∧ ∀ C, C < 4 → mb C ≠ some x.2
/-- Neither a map nor the tracks have turned. -/
def Still (w w' : World) (gA : Nat) : Prop := ∀ b, b < w.heap.size → (b = gA ∨ ∃ es clock, w.heap[b]? = some (.map es clock)) → w'.heap[b]? = w.heap[b]?
section
variable {w w' w'' : World} {gA k : Nat} {ts : List TrackM} {mb : Nat → Option Nat} {ds : List (DealM × Nat)} {sn : List (TrackM × Nat)}
theorem Still.below (hb : Below w.heap.size w w') : Still w w' gA := fun b hlt _ => hb.block b hlt
theorem Still.grown {row : Option Nat} (h : w.grownBy w' row) (hr : ∀ g, row = some g → g ≠ gA ∧ ∃ cur e fr, w.heap[g]? = some (.cells cur e fr)) : Still w w' gA := by
  intro b hlt hb
  refine h.block b hlt fun e => ?_
  obtain ⟨h1, cur, e', fr, h2⟩ := hr b e.symm
  rcases hb with rfl | ⟨es, clock, hb⟩
  · exact h1 rfl
  · rw [h2] at hb; cases hb
theorem Live.still (h : Live w gA k ts mb) (hs : Still w w' gA) : Live w' gA k ts mb := by
  have hlt : gA < w.heap.size := World.block_lt_of_cell? w _ (h.p 0 (by omega))
  have hblk : w'.heap[gA]? = w.heap[gA]? := hs gA hlt (.inl rfl)
  have e : ∀ o, w'.cell? ⟨gA, o, none⟩ = w.cell? ⟨gA, o, none⟩ := fun o => World.cell?_of_block (w := w) (a := ⟨gA, o, none⟩) hblk
  refine ⟨fun C hC => (e _).trans (h.p C hC), fun C hC => (e _).trans (h.s C hC), fun C hC => (e _).trans (h.c C hC), fun C hC => (e _).trans (h.m C hC), fun o => ?_, h.no, fun C b hC hb => ?_, h.ne⟩
  · have := h.f o
    unfold World.frozen? at this ⊢
    rw [show w'.heap[(⟨gA, o, none⟩ : Addr).block]? = w.heap[(⟨gA, o, none⟩ : Addr).block]? from hblk]
    exact this
  · have hm := h.yes C b hC hb
    exact hm.blk (hs b hm.lt (.inr hm.obj))
theorem Cold.still (h : Cold w mb ds sn) (hs : Still w w' gA) : Cold w' mb ds sn := by
  refine ⟨fun x hx => ?_, fun x hx => ?_⟩
  · obtain ⟨⟨n, hm⟩, h2⟩ := h.d x hx
    exact ⟨⟨n, hm.blk (hs _ hm.lt (.inr hm.obj))⟩, h2⟩
  · obtain ⟨⟨n, hm⟩, h2⟩ := h.s x hx
    exact ⟨⟨n, hm.blk (hs _ hm.lt (.inr hm.obj))⟩, h2⟩
theorem Live.mono (h : Live w gA k ts mb) {k' : Nat} (hk : k ≤ k') : Live w gA k' ts mb := ⟨h.p, h.s, h.c, h.m, h.f, h.no, fun C b hC hb => (h.yes C b hC hb).mono hk, h.ne⟩
theorem Live.lt (h : Live w gA k ts mb) : gA < w.heap.size := World.block_lt_of_cell? w _ (h.p 0 (by omega))
/-- A slice's own block is none of those. -/
theorem own_block {α : Type} {C : Cells α} {base : Nat} {e : TypeId} {v : Value} {l : List α} (h : C.Owns w base e v l) (hb : gA < base) : ∀ g, v.ownBlock = some g → g ≠ gA ∧ ∃ cur e fr, w.heap[g]? = some (.cells cur e fr) := by
  intro g hg
  rcases h.2 with ⟨hv, _⟩ | ⟨g', cap, cur, hv, hb', hh, _⟩
  · rw [hv] at hg; cases hg
  · rw [hv] at hg
    have : g' = g := by simpa [Value.ownBlock] using hg
    subst this
    exact ⟨by omega, cur, e, (0, 0), hh⟩
end
end Go.Proofs.YtambkjnhfejfaacGreatDoor

namespace Go.Proofs.YtambkjnhfejfaacGreatDoor
open Go.RowKit
/-- The answers and the world that go out. -/
def TopOut (l : List ActM) (w : World) (e : Ending) (w' : World) : Prop :=
  ∃ g RA n rc CA m cc, e = .returned (.tuple #[.slice (some ⟨g, 0, none⟩) l.length l.length, woV RA n rc (runWo (startW 4) l).clock CA m cc, .int .i64 0]) ∧ WoInX w' (fun b => b ≤ w.heap.size) RA n rc CA m cc (runWo (startW 4) l) ∧ AnsDone g l.length (runAns (startW 4) l) w' ∧ w.heap.size ≤ g ∧ Below w.heap.size w w'
set_option maxRecDepth 100000 in
set_option maxHeartbeats 4000000 in
theorem topRun_any (A : Option Addr) (q : Nat) (l : List ActM) (w : World) (hact : ActsAt w (· < w.heap.size) A l) (hl : l.length ≤ 400) :
    Calls Tryz.prog 5 #[.slice A l.length q] w (TopOut l w) := by
  obtain ⟨W0, hW, hb0, p0, p1, p2⟩ := world_new w
  have HR := Lib.hid (run_any 4 A l q W0 (hact.acts (below_mem hb0).1 (below_mem hb0).2))
  have HW := Lib.hid hW
  have HB0 := Lib.hid hb0
  have hpf : ∀ o, W0.frozen? ⟨w.heap.size, o, none⟩ = false := fun o => by rw [hW]; simp
  have HPF := Lib.hid hpf
  have hs0 : w.heap.size < W0.heap.size := by rw [hW]; simp
  clear hact hW hb0 hpf
  go_enter Tryz.func5, Tryz.ntmps5
  go_wp2_with fail
  rw [← HW.out]
  refine HR.out.mono ?_
  rintro e w1 ⟨hb1, hor⟩
  rcases hor with ⟨h, _⟩ | ⟨_, h, _⟩ | ⟨_, _, g, RA, n, rc, CA, m, cc, rfl, hwo, hans, hg⟩
  · exact absurd h (by decide)
  · omega
  · have e4 : ((4 : Int)).toNat = 4 := rfl
    rw [e4] at hwo hans ⊢
    obtain ⟨WO, hWO⟩ : ∃ WO, WO = runWo (startW 4) l := ⟨_, rfl⟩
    rw [← hWO] at hwo ⊢
    obtain ⟨hc1, hf1⟩ := bcell hb1
    have q0 := (hc1 _ 0 hs0).trans p0
    have q1 := (hc1 _ 1 hs0).trans p1
    have q2 := (hc1 _ 2 hs0).trans p2
    have f0 := (hf1 _ 0 hs0).trans (HPF.out 0)
    have f1 := (hf1 _ 1 hs0).trans (HPF.out 1)
    have f2 := (hf1 _ 2 hs0).trans (HPF.out 2)
    have HA := Lib.hid hans
    have HB := Lib.hid (below_next HB0.out hb1)
    have HWI := Lib.hid hwo
    have HWO := Lib.hid hWO
    have hs1 : w.heap.size < w1.heap.size := Nat.lt_of_lt_of_le hs0 hb1.size
    have hgw : w.heap.size < g := by omega
    have t0 : ((l.length : Int) != (l.length : Int)) = false := by simp
    clear hwo hans hb1 hWO hc1 hf1
    have hn1 : w.heap.size ≠ w1.heap.size := by omega
    have hn2 : w1.heap.size ≠ w.heap.size := by omega
    obtain ⟨W2, hW2, k0, k1, k2, hb2, hs2⟩ := box3_new w1 (.slice RA n rc) (.int .i64 WO.clock) (.slice CA m cc) 29
    obtain ⟨hc2, hf2⟩ := bcell hb2
    have q0 := (hc2 _ _ hs1).trans q0
    have q1 := (hc2 _ _ hs1).trans q1
    have q2 := (hc2 _ _ hs1).trans q2
    have f0 := (hf2 _ _ hs1).trans f0
    have f1 := (hf2 _ _ hs1).trans f1
    have f2 := (hf2 _ _ hs1).trans f2
    have HW2 := Lib.hid hW2
    have HB2 := Lib.hid hb2
    clear hW2 hb2 hc2 hf2
    go_wp2
    rw [← HW2.out]
    go_region
    obtain ⟨m0, m1, m2⟩ := set3_at q0 q1 q2 (.slice RA n rc) (.int .i64 WO.clock) (.slice CA m cc)
    have hs := set3_same W2 w.heap.size (.slice RA n rc) (.int .i64 WO.clock) (.slice CA m cc)
    have hgh := set3_heap W2 w.heap.size (.slice RA n rc) (.int .i64 WO.clock) (.slice CA m cc) (k := g) (by omega)
    have hbel : Below w.heap.size w (set3 W2 w.heap.size (.slice RA n rc) (.int .i64 WO.clock) (.slice CA m cc)) := (((below_next HB.out HB2.out).setCell (Nat.le_refl w.heap.size) _).setCell (Nat.le_refl w.heap.size) _).setCell (Nat.le_refl w.heap.size) _
    obtain ⟨V, hV⟩ : ∃ V, V = set3 W2 w.heap.size (.slice RA n rc) (.int .i64 WO.clock) (.slice CA m cc) := ⟨_, rfl⟩
    rw [← hV] at m0 m1 m2 hs hgh hbel
    have hV' : V = ((W2.setCell ⟨w.heap.size, 0, none⟩ (.slice RA n rc)).setCell ⟨w.heap.size, 1, none⟩ (.int .i64 WO.clock)).setCell ⟨w.heap.size, 2, none⟩ (.slice CA m cc) := hV
    rw [← hV']
    have hX : WoInX W2 (fun b => b ≤ w.heap.size) RA n rc CA m cc WO := (HWI.out.less fun b e => by show b < _; have e : b ≤ w.heap.size := e; omega).upto HB2.out
    have HWV := Lib.hid ((hX.same hs (fun p e => Nat.le_of_eq e)).upto (below_drew (Below.refl _ _)))
    have hA2 : AnsDone g l.length (runAns (startW 4) l) W2 := HA.out.kept (HB2.out.block _ HA.out.lt)
    have HAV := Lib.hid ((hA2.kept hgh).kept (show V.drew.heap[g]? = V.heap[g]? from rfl))
    have HBV := Lib.hid (below_drew hbel)
    clear hV hV' hs hgh hbel hX hA2 q0 q1 q2
    go_wp2
    refine bodyPost_ret (v := .tuple #[.slice (some ⟨g, 0, none⟩) l.length l.length, woV RA n rc WO.clock CA m cc, .int .i64 0]) (by simp [results, Tryz.results5, go_sem, m0, m1, m2]) rfl ⟨g, RA, n, rc, CA, m, cc, ?_, ?_, HAV.out, Nat.le_of_lt hgw, HBV.out⟩
    · rw [← HWO.out]
    · rw [← HWO.out]; exact HWV.out
end Go.Proofs.YtambkjnhfejfaacGreatDoor

namespace Go.Proofs.YtambkjnhfejfaacGreatDoor
open Go.RowKit Go.Maps

section
variable {w w' : World} {gA k C : Nat} {ts : List TrackM} {mb mb' : Nat → Option Nat} {T t' : TrackM} {ds : List (DealM × Nat)} {sn : List (TrackM × Nat)}
theorem Live.set4 (h : Live w gA k ts mb) (hC : C < 4) (hl : ts.length = 4) {k' : Nat} (hk : k ≤ k') (hcells : ∀ C' j, C' < 4 → j < 4 → C' ≠ C → w'.cell? ⟨gA, C' * 4 + j, none⟩ = w.cell? ⟨gA, C' * 4 + j, none⟩)
    (h0 : w'.cell? ⟨gA, C * 4, none⟩ = some (.int .i64 t'.ph)) (h1 : w'.cell? ⟨gA, C * 4 + 1, none⟩ = some (.int .i64 t'.st)) (h2 : w'.cell? ⟨gA, C * 4 + 2, none⟩ = some (.int .i64 t'.cm)) (h3 : w'.cell? ⟨gA, C * 4 + 3, none⟩ = some (.map (mb' C)))
    (hf : ∀ o, w'.frozen? ⟨gA, o, none⟩ = false) (hmb : ∀ j, j ≠ C → mb' j = mb j) (hmaps : ∀ C' b, C' < 4 → C' ≠ C → mb C' = some b → w'.heap[b]? = w.heap[b]?) (hno : mb' C = none → t'.ws = [] ∧ t'.ph = 0) (hyes : ∀ b, mb' C = some b → MapAt w' b k' t'.ws)
    (hne : ∀ C' b, C' < 4 → C' ≠ C → mb' C = some b → mb C' ≠ some b) : Live w' gA k' (ts.set C t') mb' := by
  have hgs : (ts.set C t').getD C default = t' := by simp [List.getD, hl, hC]
  have hgo : ∀ j, j ≠ C → (ts.set C t').getD j default = ts.getD j default := fun j hj => by simp [List.getD, Ne.symm hj]
  refine ⟨fun j hj => ?_, fun j hj => ?_, fun j hj => ?_, fun j hj => ?_, hf, fun j hj hn => ?_, fun j b hj hb => ?_, fun j j' b hj hj' hjj hb => ?_⟩
  · by_cases e : j = C
    · subst e; rw [hgs]; exact h0
    · rw [hgo j e]; exact (hcells j 0 hj (by omega) e).trans (h.p j hj)
  · by_cases e : j = C
    · subst e; rw [hgs]; exact h1
    · rw [hgo j e]; exact (hcells j 1 hj (by omega) e).trans (h.s j hj)
  · by_cases e : j = C
    · subst e; rw [hgs]; exact h2
    · rw [hgo j e]; exact (hcells j 2 hj (by omega) e).trans (h.c j hj)
  · by_cases e : j = C
    · subst e; exact h3
    · rw [hmb j e]; exact (hcells j 3 hj (by omega) e).trans (h.m j hj)
  · by_cases e : j = C
    · subst e; rw [hgs]; exact hno hn
    · rw [hgo j e]; rw [hmb j e] at hn; exact h.no j hj hn
  · by_cases e : j = C
    · subst e; rw [hgs]; exact hyes b hb
    · rw [hgo j e]
      rw [hmb j e] at hb
      exact ((h.yes j b hj hb).blk (hmaps j b hj e hb)).mono hk
  · by_cases e : j = C
    · subst e
      rw [hmb j' (Ne.symm hjj)]
      exact hne j' b hj' (Ne.symm hjj) hb
    · rw [hmb j e] at hb
      by_cases e' : j' = C
      · subst e'
        intro hb'
        exact hne j b hj e hb' hb
      · rw [hmb j' e']; exact h.ne j j' b hj hj' hjj hb
/-- A store into the tracks. -/
theorem store_heap (gA o : Nat) (u : Value) (b : Nat) (h : b ≠ gA) : (w.setCell ⟨gA, o, none⟩ u).heap[b]? = w.heap[b]? := Below.heap_setCell _ _ _ _ h
theorem Live.ne_map (h : Live w gA k ts mb) {b n : Nat} {ws : List WrM} (hm : MapAt w b n ws) : b ≠ gA := by
  intro e
  subst e
  obtain ⟨es, clock, hobj⟩ := hm.obj
  have := h.p 0 (by omega)
  simp [World.cell?, hobj] at this
theorem map_ne_cell {b n g o : Nat} {ws : List WrM} {v : Value} (h : MapAt w b n ws) (hc : w.cell? ⟨g, o, none⟩ = some v) : b ≠ g := by
  intro e
  subst e
  obtain ⟨es, clock, hobj⟩ := h.obj
  simp [World.cell?, hobj] at hc
theorem fr_block {b : Nat} (h : w'.heap[b]? = w.heap[b]?) (o : Nat) : w'.frozen? ⟨b, o, none⟩ = w.frozen? ⟨b, o, none⟩ := by
  unfold World.frozen?
  rw [show w'.heap[(⟨b, o, none⟩ : Addr).block]? = w.heap[(⟨b, o, none⟩ : Addr).block]? from h]
theorem cell_but {b bk : Nat} (hg : w.grownBy w' (some b)) (o : Nat) (hne : b ≠ bk) (hlt : bk < w.heap.size) : w'.cell? ⟨bk, o, none⟩ = w.cell? ⟨bk, o, none⟩ :=
  World.cell?_of_block (w := w) (a := ⟨bk, o, none⟩) (hg.block bk hlt (fun e => hne (by injection e with e; exact e.symm)))
/-- The phase alone is another. -/
theorem Live.phase (h : Live w gA k ts mb) (hC : C < 4) (hl : ts.length = 4) (hT : T = ts.getD C default) (p : Int) (hz : mb C = none → p = 0) : Live (w.setCell ⟨gA, C * 4, none⟩ (.int .i64 p)) gA (k + 1) (ts.set C { T with ph := p }) mb := by
  have ne : ∀ a b, a ≠ b → (⟨gA, a, none⟩ : Addr) ≠ ⟨gA, b, none⟩ := fun a b hab e => hab (by injection e)
  subst hT
  refine h.set4 hC hl (Nat.le_succ k) (fun C' j hC' hj hne => World.cell?_setCell_other _ _ _ _ (ne _ _ (by omega))) (World.cell?_setCell_same _ _ _ (h.p C hC)) ((World.cell?_setCell_other _ _ _ _ (ne _ _ (by omega))).trans (h.s C hC)) ((World.cell?_setCell_other _ _ _ _ (ne _ _ (by omega))).trans (h.c C hC)) ((World.cell?_setCell_other _ _ _ _ (ne _ _ (by omega))).trans (h.m C hC))
    (fun o => by rw [World.frozen?_setCell]; exact h.f o) (fun _ _ => rfl) (fun C' b hC' _ hb => store_heap gA _ _ b (h.ne_map (h.yes C' b hC' hb))) (fun hn => ⟨(h.no C hC hn).1, hz hn⟩) (fun b hb => ?_) (fun C' b hC' hne hb => h.ne C C' b hC hC' (Ne.symm hne) hb)
  exact ((h.yes C b hC hb).blk (store_heap gA _ _ b (h.ne_map (h.yes C b hC hb)))).mono (Nat.le_succ k)
/-- The Commit, too. -/
theorem Live.commit (h : Live w gA k ts mb) (hC : C < 4) (hl : ts.length = 4) (hT : T = ts.getD C default) (m : Int) : Live (w.setCell ⟨gA, C * 4 + 2, none⟩ (.int .i64 m)) gA k (ts.set C { T with cm := m }) mb := by
  have ne : ∀ a b, a ≠ b → (⟨gA, a, none⟩ : Addr) ≠ ⟨gA, b, none⟩ := fun a b hab e => hab (by injection e)
  subst hT
  refine h.set4 hC hl (Nat.le_refl k) (fun C' j hC' hj hne => World.cell?_setCell_other _ _ _ _ (ne _ _ (by omega))) ((World.cell?_setCell_other _ _ _ _ (ne _ _ (by omega))).trans (h.p C hC)) ((World.cell?_setCell_other _ _ _ _ (ne _ _ (by omega))).trans (h.s C hC)) (World.cell?_setCell_same _ _ _ (h.c C hC)) ((World.cell?_setCell_other _ _ _ _ (ne _ _ (by omega))).trans (h.m C hC))
    (fun o => by rw [World.frozen?_setCell]; exact h.f o) (fun _ _ => rfl) (fun C' b hC' _ hb => store_heap gA _ _ b (h.ne_map (h.yes C' b hC' hb))) (fun hn => h.no C hC hn) (fun b hb => ?_) (fun C' b hC' hne hb => h.ne C C' b hC hC' (Ne.symm hne) hb)
  exact (h.yes C b hC hb).blk (store_heap gA _ _ b (h.ne_map (h.yes C b hC hb)))
theorem Cold.store (h : Cold w mb ds sn) (hl : Live w gA k ts mb) (o : Nat) (u : Value) : Cold (w.setCell ⟨gA, o, none⟩ u) mb ds sn := by
  refine ⟨fun x hx => ?_, fun x hx => ?_⟩
  · obtain ⟨⟨n, hm⟩, h2⟩ := h.d x hx
    exact ⟨⟨n, hm.blk (store_heap gA _ _ _ (hl.ne_map hm))⟩, h2⟩
  · obtain ⟨⟨n, hm⟩, h2⟩ := h.s x hx
    exact ⟨⟨n, hm.blk (store_heap gA _ _ _ (hl.ne_map hm))⟩, h2⟩
theorem owns_store {α : Type} {K : Cells α} {e : TypeId} {v : Value} {l : List α} (h : K.Owns w (gA + 1) e v l) (o : Nat) (u : Value) : K.Owns (w.setCell ⟨gA, o, none⟩ u) (gA + 1) e v l := by
  rcases h.2 with h0 | ⟨g, cap, cur, hv, hb, hh, r⟩
  · exact ⟨h.1, .inl h0⟩
  · exact ⟨h.1, .inr ⟨g, cap, cur, hv, hb, (store_heap gA o u g (by omega)).trans hh, r⟩⟩
/-- A track begins anew: a map of its own. -/
theorem Live.begin (h : Live w gA k ts mb) (hC : C < 4) (hl : ts.length = 4) (p st : Int) : Live (((((((w.setCell ⟨gA, C * 4, none⟩ (.int .i64 0)).setCell ⟨gA, C * 4 + 1, none⟩ (.int .i64 st)).setCell ⟨gA, C * 4 + 2, none⟩ (.int .i64 0)).setCell ⟨gA, C * 4 + 3, none⟩ (.map (some w.heap.size)))).setCell ⟨gA, C * 4, none⟩ (.int .i64 p)).alloc (.map #[] 0)) gA (k + 1) (ts.set C ⟨p, st, 0, []⟩) (fun j => if j = C then some w.heap.size else mb j) := by
  have ne : ∀ a b, a ≠ b → (⟨gA, a, none⟩ : Addr) ≠ ⟨gA, b, none⟩ := fun a b hab e => hab (by injection e)
  have hgl := h.lt
  obtain ⟨V, hV⟩ : ∃ V, V = ((((w.setCell ⟨gA, C * 4, none⟩ (.int .i64 0)).setCell ⟨gA, C * 4 + 1, none⟩ (.int .i64 st)).setCell ⟨gA, C * 4 + 2, none⟩ (.int .i64 0)).setCell ⟨gA, C * 4 + 3, none⟩ (.map (some w.heap.size))).setCell ⟨gA, C * 4, none⟩ (.int .i64 p) := ⟨_, rfl⟩
  have hsz : V.heap.size = w.heap.size := by rw [hV]; simp [World.setCell]
  rw [← hV]
  have hb : Below V.heap.size V (V.alloc (.map #[] 0)) := below_alloc (Below.refl _ _) _
  have hcell : ∀ o, (V.alloc (.map #[] 0)).cell? ⟨gA, o, none⟩ = V.cell? ⟨gA, o, none⟩ := fun o => hb.cell (p := ⟨gA, o, none⟩) (by show gA < _; omega)
  have hother : ∀ b, b ≠ gA → b < w.heap.size → (V.alloc (.map #[] 0)).heap[b]? = w.heap[b]? := by
    intro b hbg hlt
    rw [hb.block b (by omega), hV, store_heap gA _ _ b hbg, store_heap gA _ _ b hbg, store_heap gA _ _ b hbg, store_heap gA _ _ b hbg, store_heap gA _ _ b hbg]
  refine h.set4 hC hl (Nat.le_succ k) (fun C' j hC' hj hne => ?_) ?_ ?_ ?_ ?_ (fun o => ?_) (fun j hj => if_neg hj) (fun C' b hC' _ hb' => hother b (h.ne_map (h.yes C' b hC' hb')) (h.yes C' b hC' hb').lt) (fun hn => ?_) (fun b hb' => ?_) (fun C' b hC' hne hb' => ?_)
  · rw [hcell, hV, World.cell?_setCell_other _ _ _ _ (ne _ _ (by omega)), World.cell?_setCell_other _ _ _ _ (ne _ _ (by omega)), World.cell?_setCell_other _ _ _ _ (ne _ _ (by omega)), World.cell?_setCell_other _ _ _ _ (ne _ _ (by omega)), World.cell?_setCell_other _ _ _ _ (ne _ _ (by omega))]
  · rw [hcell, hV]
    exact World.cell?_setCell_same _ _ _ (((World.cell?_setCell_other _ _ _ _ (ne _ _ (by omega))).trans (World.cell?_setCell_other _ _ _ _ (ne _ _ (by omega)))).trans ((World.cell?_setCell_other _ _ _ _ (ne _ _ (by omega))).trans (World.cell?_setCell_same _ _ _ (h.p C hC))))
  · rw [hcell, hV, World.cell?_setCell_other _ _ _ _ (ne _ _ (by omega)), World.cell?_setCell_other _ _ _ _ (ne _ _ (by omega)), World.cell?_setCell_other _ _ _ _ (ne _ _ (by omega))]
    exact World.cell?_setCell_same _ _ _ ((World.cell?_setCell_other _ _ _ _ (ne _ _ (by omega))).trans (h.s C hC))
  · rw [hcell, hV, World.cell?_setCell_other _ _ _ _ (ne _ _ (by omega)), World.cell?_setCell_other _ _ _ _ (ne _ _ (by omega))]
    exact World.cell?_setCell_same _ _ _ ((World.cell?_setCell_other _ _ _ _ (ne _ _ (by omega))).trans ((World.cell?_setCell_other _ _ _ _ (ne _ _ (by omega))).trans (h.c C hC)))
  · rw [hcell, hV, World.cell?_setCell_other _ _ _ _ (ne _ _ (by omega)), if_pos rfl]
    exact World.cell?_setCell_same _ _ _ ((World.cell?_setCell_other _ _ _ _ (ne _ _ (by omega))).trans ((World.cell?_setCell_other _ _ _ _ (ne _ _ (by omega))).trans ((World.cell?_setCell_other _ _ _ _ (ne _ _ (by omega))).trans (h.m C hC))))
  · rw [hb.frozen (p := ⟨gA, o, none⟩) (by show gA < _; omega), hV]
    simp only [World.frozen?_setCell]
    exact h.f o
  · rw [if_pos rfl] at hn; cases hn
  · rw [if_pos rfl] at hb'
    injection hb' with hb'
    subst hb'
    have hm := World.ownsMap_made (H := Unit) V Tryz.prog 9 (plainElem Tryz.prog 9)
    rw [hsz] at hm
    exact ⟨_, hm.mono (Nat.zero_le _), mapIs_nil⟩
  · rw [if_pos rfl] at hb'
    injection hb' with hb'
    subst hb'
    intro e
    have := (h.yes C' _ hC' e).lt
    omega
/-- The Commit and the phase. -/
theorem Live.commitPhase (h : Live w gA k ts mb) (hC : C < 4) (hl : ts.length = 4) (hT : T = ts.getD C default) (m p : Int) (hz : mb C = none → p = 0) : Live ((w.setCell ⟨gA, C * 4 + 2, none⟩ (.int .i64 m)).setCell ⟨gA, C * 4, none⟩ (.int .i64 p)) gA (k + 1) (ts.set C { T with cm := m, ph := p }) mb := by
  have h1 := h.commit hC hl hT m
  have h2 := h1.phase (T := { T with cm := m }) hC (by simpa using hl) (by simp [List.getD, hl, hC]) p hz
  rw [List.set_set] at h2
  exact h2
theorem Cold.begin (h : Cold w mb ds sn) (hl : Live w gA k ts mb) (p st : Int) : Cold (((((((w.setCell ⟨gA, C * 4, none⟩ (.int .i64 0)).setCell ⟨gA, C * 4 + 1, none⟩ (.int .i64 st)).setCell ⟨gA, C * 4 + 2, none⟩ (.int .i64 0)).setCell ⟨gA, C * 4 + 3, none⟩ (.map (some w.heap.size)))).setCell ⟨gA, C * 4, none⟩ (.int .i64 p)).alloc (.map #[] 0)) (fun j => if j = C then some w.heap.size else mb j) ds sn := by
  obtain ⟨V, hV⟩ : ∃ V, V = ((((w.setCell ⟨gA, C * 4, none⟩ (.int .i64 0)).setCell ⟨gA, C * 4 + 1, none⟩ (.int .i64 st)).setCell ⟨gA, C * 4 + 2, none⟩ (.int .i64 0)).setCell ⟨gA, C * 4 + 3, none⟩ (.map (some w.heap.size))).setCell ⟨gA, C * 4, none⟩ (.int .i64 p) := ⟨_, rfl⟩
  have hsz : V.heap.size = w.heap.size := by rw [hV]; simp [World.setCell]
  rw [← hV]
  have hb : Below V.heap.size V (V.alloc (.map #[] 0)) := below_alloc (Below.refl _ _) _
  have hother : ∀ b, b ≠ gA → b < w.heap.size → (V.alloc (.map #[] 0)).heap[b]? = w.heap[b]? := by
    intro b hbg hlt
    rw [hb.block b (by omega), hV, store_heap gA _ _ b hbg, store_heap gA _ _ b hbg, store_heap gA _ _ b hbg, store_heap gA _ _ b hbg, store_heap gA _ _ b hbg]
  have key : ∀ {b : Nat} {ws : List WrM}, ((∃ n, MapAt w b n ws) ∧ ∀ C, C < 4 → mb C ≠ some b) → ((∃ n, MapAt (V.alloc (.map #[] 0)) b n ws) ∧ ∀ j, j < 4 → (if j = C then some w.heap.size else mb j) ≠ some b) := by
    rintro b ws ⟨⟨n, hm⟩, h2⟩
    refine ⟨⟨n, hm.blk (hother b (hl.ne_map hm) hm.lt)⟩, fun j hj => ?_⟩
    split
    · intro e
      injection e with e
      have := hm.lt
      omega
    · exact h2 j hj
  exact ⟨fun x hx => key (h.d x hx), fun x hx => key (h.s x hx)⟩
theorem owns_begin {α : Type} {K : Cells α} {e : TypeId} {v : Value} {l : List α} (h : K.Owns w (gA + 1) e v l) (p st : Int) : K.Owns (((((((w.setCell ⟨gA, C * 4, none⟩ (.int .i64 0)).setCell ⟨gA, C * 4 + 1, none⟩ (.int .i64 st)).setCell ⟨gA, C * 4 + 2, none⟩ (.int .i64 0)).setCell ⟨gA, C * 4 + 3, none⟩ (.map (some w.heap.size)))).setCell ⟨gA, C * 4, none⟩ (.int .i64 p)).alloc (.map #[] 0)) (gA + 1) e v l :=
  (owns_store (owns_store (owns_store (owns_store (owns_store h _ _) _ _) _ _) _ _) _ _).kept (below_alloc (Below.refl _ _) _)
/-- A write is laid into the track's map. -/
theorem Live.put {bt : Nat} {key val : ByteArray} {D : DataW Unit} (h : Live w gA k ts mb) (hC : C < 4) (hl : ts.length = 4) (hT : T = ts.getD C default) (hmb : mb C = some bt) (hg : w.grownBy w' (some bt)) (hown : w'.ownsMap Tryz.prog 9 (plainElem Tryz.prog 9) bt (k + 1) (D.put (sk key) (.lit (.string val.data.toList)))) (hD : MapIs D T.ws) (hm : IsMap D) (hi : Inc (wrKeys T.ws)) (p : Int) :
    Live (w'.setCell ⟨gA, C * 4, none⟩ (.int .i64 p)) gA (k + 1) (ts.set C { T with ws := putWs T.ws key val, ph := p }) mb := by
  have ne : ∀ a b, a ≠ b → (⟨gA, a, none⟩ : Addr) ≠ ⟨gA, b, none⟩ := fun a b hab e => hab (by injection e)
  have hbg : bt ≠ gA := h.ne_map (h.yes C bt hC hmb)
  have hcell : ∀ o, w'.cell? ⟨gA, o, none⟩ = w.cell? ⟨gA, o, none⟩ := fun o => World.cell?_of_block (w := w) (a := ⟨gA, o, none⟩) (hg.block gA h.lt (fun e => hbg (by injection e with e; exact e.symm)))
  have hfr : ∀ o, w'.frozen? ⟨gA, o, none⟩ = w.frozen? ⟨gA, o, none⟩ := fun o => by
    unfold World.frozen?
    rw [show w'.heap[(⟨gA, o, none⟩ : Addr).block]? = w.heap[(⟨gA, o, none⟩ : Addr).block]? from hg.block gA h.lt (fun e => hbg (by injection e with e; exact e.symm))]
  subst hT
  refine h.set4 hC hl (Nat.le_succ k) (fun C' j hC' hj hne => (World.cell?_setCell_other _ _ _ _ (ne _ _ (by omega))).trans (hcell _)) (World.cell?_setCell_same _ _ _ ((hcell _).trans (h.p C hC))) ((World.cell?_setCell_other _ _ _ _ (ne _ _ (by omega))).trans ((hcell _).trans (h.s C hC))) ((World.cell?_setCell_other _ _ _ _ (ne _ _ (by omega))).trans ((hcell _).trans (h.c C hC))) ((World.cell?_setCell_other _ _ _ _ (ne _ _ (by omega))).trans ((hcell _).trans (h.m C hC)))
    (fun o => by rw [World.frozen?_setCell, hfr]; exact h.f o) (fun _ _ => rfl) (fun C' b hC' hne hb => ?_) (fun hn => by rw [hmb] at hn; cases hn) (fun b hb => ?_) (fun C' b hC' hne hb => h.ne C C' b hC hC' (Ne.symm hne) hb)
  · have hm' := h.yes C' b hC' hb
    rw [store_heap gA _ _ b (h.ne_map hm')]
    exact hg.block b hm'.lt (fun e => h.ne C C' bt hC hC' (Ne.symm hne) hmb (by rw [hb]; exact e))
  · rw [hmb] at hb
    injection hb with hb
    subst hb
    obtain ⟨es, clock, hb', r⟩ := hown
    exact ⟨_, ⟨es, clock, (store_heap gA _ _ bt hbg).trans hb', r⟩, hD.put hm hi key val⟩
theorem Cold.put {bt : Nat} (h : Cold w mb ds sn) (hl : Live w gA k ts mb) (hC : C < 4) (hmb : mb C = some bt) (hg : w.grownBy w' (some bt)) (o : Nat) (u : Value) : Cold (w'.setCell ⟨gA, o, none⟩ u) mb ds sn := by
  have key : ∀ {b : Nat} {ws : List WrM}, ((∃ n, MapAt w b n ws) ∧ ∀ C, C < 4 → mb C ≠ some b) → ((∃ n, MapAt (w'.setCell ⟨gA, o, none⟩ u) b n ws) ∧ ∀ j, j < 4 → mb j ≠ some b) := by
    rintro b ws ⟨⟨n, hm⟩, h2⟩
    refine ⟨⟨n, hm.blk ?_⟩, h2⟩
    rw [store_heap gA _ _ b (hl.ne_map hm)]
    exact hg.block b hm.lt (fun e => h2 C hC (by rw [hmb]; exact e.symm))
  exact ⟨fun x hx => key (h.d x hx), fun x hx => key (h.s x hx)⟩
theorem owns_map {α : Type} {K : Cells α} {base bt : Nat} {e : TypeId} {v : Value} {l : List α} (h : K.Owns w base e v l) (hm : ∃ es clock, w.heap[bt]? = some (.map es clock)) (hg : w.grownBy w' (some bt)) : K.Owns w' base e v l := by
  rcases h.2 with h0 | ⟨g, cap, cur, hv, hb, hh, r⟩
  · exact ⟨h.1, .inl h0⟩
  · refine ⟨h.1, .inr ⟨g, cap, cur, hv, hb, (hg.block g (Array.getElem?_eq_some_iff.1 hh).1 fun e' => ?_).trans hh, r⟩⟩
    injection e' with e'
    obtain ⟨es, clock, hm⟩ := hm
    rw [← e', hh] at hm
    cases hm
end
end Go.Proofs.YtambkjnhfejfaacGreatDoor
