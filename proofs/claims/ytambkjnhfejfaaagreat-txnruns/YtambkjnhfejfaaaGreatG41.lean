/-
  Contracts of functions of the program and words for memory, several texts in one: TRun, TOpenActs. Conditions: those stated with each.
-/
import Derived.Test.YtambkjnhfejfaaaGreatG28
namespace Go.Proofs.YtambkjnhfejfaaaGreat
open Go.RowKit
theorem WoInX.less {w : World} {X X' : Nat → Prop} {RA CA : Option Addr} {n rc m cc : Nat} {wo : WoM} (h : WoInX w X RA n rc CA m cc wo) (hX : ∀ b,X' b → X b) : WoInX w X' RA n rc CA m cc wo :=
 ⟨h.hn,h.hrc,h.rows.rows (fun _ hp => ⟨hp.1,fun e => hp.2 (hX _ e)⟩) (fun _ _ _ => rfl),h.hm,h.hcc,h.cls.cls (fun _ hp => ⟨hp.1,fun e => hp.2 (hX _ e)⟩) (fun _ _ _ => rfl),h.ck⟩
structure RunInv (w : World) (N : Nat) (l : List ActM) (k : Nat) (wr : World) : Prop where
 bel : Below w.heap.size w wr
 lt : w.heap.size + 1 + 1 + 1 < wr.heap.size
 wo : ∃ RA n rc CA m cc,WoInX wr (fun b => b ≤ w.heap.size ∨ b = w.heap.size + 1 + 1 ∨ b = w.heap.size + 1 + 1 + 1) RA n rc CA m cc (runWo (startW N) (l.take k)) ∧ wr.cell? ⟨w.heap.size + 1 + 1,0,none⟩ = some (.slice RA n rc) ∧ wr.cell? ⟨w.heap.size + 1 + 1,1,none⟩ = some (.int .i64 (runWo (startW N) (l.take k)).clock) ∧ wr.cell? ⟨w.heap.size + 1 + 1,2,none⟩ = some (.slice CA m cc)
 fb : ∀ o,wr.frozen? ⟨w.heap.size + 1 + 1,o,none⟩ = false
 ans : AnsDone (w.heap.size + 1 + 1 + 1) l.length (runAns (startW N) (l.take k)) wr
 r : wr.cell? ⟨w.heap.size,0,none⟩ = some (.slice none 0 0) ∧ wr.cell? ⟨w.heap.size,1,none⟩ = some (.int .i64 0) ∧ wr.cell? ⟨w.heap.size,2,none⟩ = some (.slice none 0 0)
 rf : ∀ o,wr.frozen? ⟨w.heap.size,o,none⟩ = false
section
variable {w wr w' : World} {N k : Nat} {l : List ActM} {a : ActM}
theorem RunInv.upto (h : RunInv w N l k wr) (hb : Below wr.heap.size wr w') : RunInv w N l k w' := by
 obtain ⟨hc,hf⟩ := bcell hb
 have hlt := h.lt
 obtain ⟨RA,n,rc,CA,m,cc,h1,h2,h3,h4⟩ := h.wo
 exact ⟨below_next h.bel hb,Nat.lt_of_lt_of_le h.lt hb.size,⟨RA,n,rc,CA,m,cc,h1.upto hb,(hc _ _ (by omega)).trans h2,(hc _ _ (by omega)).trans h3,(hc _ _ (by omega)).trans h4⟩,fun o => (hf _ _ (by omega)).trans (h.fb o),h.ans.kept (hb.block _ hlt),⟨(hc _ _ (by omega)).trans h.r.1,(hc _ _ (by omega)).trans h.r.2.1,(hc _ _ (by omega)).trans h.r.2.2⟩,fun o => (hf _ _ (by omega)).trans (h.rf o)⟩
theorem take_one (hk : l[k]? = some a) : l.take (k + 1) = l.take k ++ [a] := by rw [List.take_add_one,hk]; rfl
theorem RunInv.len (hk : l[k]? = some a) : (runAns (startW N) (l.take k)).length = k := by
 have := (List.getElem?_eq_some_iff.1 hk).1
 rw [runAns_length,List.length_take]; omega
theorem RunInv.err (h : RunInv w N l k wr) (hk : l[k]? = some a) {E : Int} (hE : E = actE (runWo (startW N) (l.take k)) a) (h0 : E ≠ 0) :
 RunInv w N l (k + 1) (set5 wr (w.heap.size + 1 + 1 + 1) (k * 5) (.int .i64 E) (.bool false) (.string ⟨#[]⟩) (.int .i64 0) (.int .i64 0)) := by
 have hkl := (List.getElem?_eq_some_iff.1 hk).1
 have hlen := RunInv.len (N := N) hk
 have hA : runA (runWo (startW N) (l.take k)) a = (runWo (startW N) (l.take k),ansCode E) := by rw [runA,if_neg (by rw [← hE]; exact h0),← hE]
 have hs := set5_same wr (w.heap.size + 1 + 1 + 1) (k * 5) (.int .i64 E) (.bool false) (.string ⟨#[]⟩) (.int .i64 0) (.int .i64 0)
 have hc : ∀ b o,b ≠ w.heap.size + 1 + 1 + 1 → (set5 wr (w.heap.size + 1 + 1 + 1) (k * 5) (.int .i64 E) (.bool false) (.string ⟨#[]⟩) (.int .i64 0) (.int .i64 0)).cell? ⟨b,o,none⟩ = wr.cell? ⟨b,o,none⟩ := fun b o hb => hs.cell _ fun e => hb e.1
 obtain ⟨RA,n,rc,CA,m,cc,h1,h2,h3,h4⟩ := h.wo
 have hd := h.ans.step (by rw [hlen]; exact hkl) (ansCode E)
 rw [hlen] at hd
 refine ⟨below_set5 h.bel (by omega) _ _ _ _ _ _,by rw [hs.sz]; exact h.lt,?_,fun o => (hs.fr _).trans (h.fb o),?_,⟨(hc _ _ (by omega)).trans h.r.1,(hc _ _ (by omega)).trans h.r.2.1,(hc _ _ (by omega)).trans h.r.2.2⟩,fun o => (hs.fr _).trans (h.rf o)⟩
 ·rw [take_one hk,runWo_snoc,hA]
  exact ⟨RA,n,rc,CA,m,cc,h1.same hs (fun p e => .inr (.inr e.1)),(hc _ _ (by omega)).trans h2,(hc _ _ (by omega)).trans h3,(hc _ _ (by omega)).trans h4⟩
 ·rw [take_one hk,runAns_snoc,hA]; exact hd
theorem RunInv.ok (h : RunInv w N l k wr) (hk : l[k]? = some a) (he : actE (runWo (startW N) (l.take k)) a = 0) {RA CA : Option Addr} {n rc m cc : Nat} {P : WoM × AnsM} (hP : P = doW (runWo (startW N) (l.take k)) a) (hw : WoInX wr (fun b => b ≤ w.heap.size ∨ b = w.heap.size + 1 + 1 ∨ b = w.heap.size + 1 + 1 + 1) RA n rc CA m cc P.1) :
 RunInv w N l (k + 1) (set5 (set3 wr (w.heap.size + 1 + 1) (.slice RA n rc) (.int .i64 P.1.clock) (.slice CA m cc)) (w.heap.size + 1 + 1 + 1) (k * 5) (.int .i64 P.2.code) (.bool P.2.is) (.string P.2.val) (.int .i64 P.2.ph) (.int .i64 P.2.time)) := by
 have hkl := (List.getElem?_eq_some_iff.1 hk).1
 have hlen := RunInv.len (N := N) hk
 have hA : runA (runWo (startW N) (l.take k)) a = P := by rw [runA,if_pos he,hP]
 have hs3 := set3_same wr (w.heap.size + 1 + 1) (.slice RA n rc) (.int .i64 P.1.clock) (.slice CA m cc)
 obtain ⟨V,hV⟩ : ∃ V,V = set3 wr (w.heap.size + 1 + 1) (.slice RA n rc) (.int .i64 P.1.clock) (.slice CA m cc) := ⟨_,rfl⟩
 obtain ⟨_,_,_,_,_,_,_,h2,h3,h4⟩ := h.wo
 obtain ⟨b0,b1,b2⟩ := set3_at h2 h3 h4 (.slice RA n rc) (.int .i64 P.1.clock) (.slice CA m cc)
 have hbV : Below w.heap.size w V := by
  rw [hV]
  exact (((h.bel.setCell (by show w.heap.size ≤ w.heap.size + 1 + 1; omega) _).setCell (by show w.heap.size ≤ w.heap.size + 1 + 1; omega) _).setCell (by show w.heap.size ≤ w.heap.size + 1 + 1; omega) _)
 have hansV : AnsDone (w.heap.size + 1 + 1 + 1) l.length (runAns (startW N) (l.take k)) V := h.ans.kept (by rw [hV]; exact set3_heap _ _ _ _ _ (by omega))
 rw [← hV] at hs3 b0 b1 b2 ⊢
 have hs := set5_same V (w.heap.size + 1 + 1 + 1) (k * 5) (.int .i64 P.2.code) (.bool P.2.is) (.string P.2.val) (.int .i64 P.2.ph) (.int .i64 P.2.time)
 have hc : ∀ b o,b ≠ w.heap.size + 1 + 1 + 1 → (set5 V (w.heap.size + 1 + 1 + 1) (k * 5) (.int .i64 P.2.code) (.bool P.2.is) (.string P.2.val) (.int .i64 P.2.ph) (.int .i64 P.2.time)).cell? ⟨b,o,none⟩ = V.cell? ⟨b,o,none⟩ := fun b o hb => hs.cell _ fun e => hb e.1
 have hc3 : ∀ b o,b ≠ w.heap.size + 1 + 1 → V.cell? ⟨b,o,none⟩ = wr.cell? ⟨b,o,none⟩ := fun b o hb => hs3.cell _ fun e => hb e
 have hd := hansV.step (by rw [hlen]; exact hkl) P.2
 rw [hlen] at hd
 refine ⟨below_set5 hbV (by omega) _ _ _ _ _ _,by rw [hs.sz,hs3.sz]; exact h.lt,?_,fun o => ((hs.fr _).trans (hs3.fr _)).trans (h.fb o),?_,⟨((hc _ _ (by omega)).trans (hc3 _ _ (by omega))).trans h.r.1,((hc _ _ (by omega)).trans (hc3 _ _ (by omega))).trans h.r.2.1,((hc _ _ (by omega)).trans (hc3 _ _ (by omega))).trans h.r.2.2⟩,fun o => ((hs.fr _).trans (hs3.fr _)).trans (h.rf o)⟩
 ·rw [take_one hk,runWo_snoc,hA]
  exact ⟨RA,n,rc,CA,m,cc,(hw.same hs3 (fun p e => .inr (.inl e))).same hs (fun p e => .inr (.inr e.1)),(hc _ _ (by omega)).trans b0,(hc _ _ (by omega)).trans b1,(hc _ _ (by omega)).trans b2⟩
 ·rw [take_one hk,runAns_snoc,hA]; exact hd
end
def RunOut (N : Int) (l : List ActM) (w : World) (e : Ending) (w' : World) : Prop :=
 Below w.heap.size w w' ∧ ((inB N 1 5 = false ∧ e = .returned (.tuple #[.slice none 0 0,woV none 0 0 0 none 0 0,.int .i64 2])) ∨
  (inB N 1 5 = true ∧ 400 < l.length ∧ e = .returned (.tuple #[.slice none 0 0,woV none 0 0 0 none 0 0,.int .i64 1])) ∨
  (inB N 1 5 = true ∧ l.length ≤ 400 ∧ ∃ g RA n rc CA m cc,e = .returned (.tuple #[.slice (some ⟨g,0,none⟩) l.length l.length,woV RA n rc (runWo (startW N.toNat) l).clock CA m cc,.int .i64 0]) ∧ WoInX w' (fun b => b < w.heap.size) RA n rc CA m cc (runWo (startW N.toNat) l) ∧ AnsDone g l.length (runAns (startW N.toNat) l) w' ∧ w.heap.size ≤ g))
theorem world_new (w : World) : ∃ W0,W0 = w.alloc (.cells #[.slice none 0 0,.int .i64 0,.slice none 0 0] 25) ∧ Below w.heap.size w W0 ∧ W0.cell? ⟨w.heap.size,0,none⟩ = some (.slice none 0 0) ∧ W0.cell? ⟨w.heap.size,1,none⟩ = some (.int .i64 0) ∧ W0.cell? ⟨w.heap.size,2,none⟩ = some (.slice none 0 0) :=
 ⟨_,rfl,below_alloc (Below.refl _ _) _,by simp,by simp,by simp⟩
set_option maxRecDepth 100000 in
set_option maxHeartbeats 4000000 in
theorem run_range (N : Int) (A : Option Addr) (l : List ActM) (c : Nat) (w : World) (hN : inB N 1 5 = false) :
 Calls Tryz.prog 9 #[.int .i64 N,.slice A l.length c] w (RunOut N l w) := by
 obtain ⟨W0,hW,hb0,p0,p1,p2⟩ := world_new w
 have HB := Lib.hid hb0
 have HN := Lib.hid hN
 have hN' := inB_false.1 hN
 rcases hN' with h | h
 ·have q0 : decide (N < 1) = true := decide_eq_true h
  rw [hW] at p0 p1 p2 HB
  clear hb0 hN h hW
  go_enter Tryz.func9,Tryz.ntmps9
  go_wp2
  exact bodyPost_ret (v := .tuple #[.slice none 0 0,woV none 0 0 0 none 0 0,.int .i64 2]) (by simp [results,Tryz.results9,go_sem]) rfl ⟨HB.out,.inl ⟨HN.out,rfl⟩⟩
 ·have q0 : decide (N < 1) = false := decide_eq_false (by omega)
  have q1 : decide (5 < N) = true := decide_eq_true h
  rw [hW] at p0 p1 p2 HB
  clear hb0 hN h hW
  go_enter Tryz.func9,Tryz.ntmps9
  go_wp2
  exact bodyPost_ret (v := .tuple #[.slice none 0 0,woV none 0 0 0 none 0 0,.int .i64 2]) (by simp [results,Tryz.results9,go_sem]) rfl ⟨HB.out,.inl ⟨HN.out,rfl⟩⟩
set_option maxRecDepth 100000 in
set_option maxHeartbeats 4000000 in
theorem run_size (N : Int) (A : Option Addr) (l : List ActM) (c : Nat) (w : World) (hN : inB N 1 5 = true) (hl : 400 < l.length) :
 Calls Tryz.prog 9 #[.int .i64 N,.slice A l.length c] w (RunOut N l w) := by
 obtain ⟨W0,hW,hb0,p0,p1,p2⟩ := world_new w
 have HB := Lib.hid hb0
 have HN := Lib.hid hN
 have hN' := inB_true.1 hN
 have q0 : decide (N < 1) = false := decide_eq_false (by omega)
 have q1 : decide (5 < N) = false := decide_eq_false (by omega)
 have q2 : decide ((400 : Int) < (l.length : Int)) = true := decide_eq_true (by omega)
 rw [hW] at p0 p1 p2 HB
 clear hb0 hN hW
 go_enter Tryz.func9,Tryz.ntmps9
 go_wp2
 exact bodyPost_ret (v := .tuple #[.slice none 0 0,woV none 0 0 0 none 0 0,.int .i64 1]) (by simp [results,Tryz.results9,go_sem]) rfl ⟨HB.out,.inr (.inl ⟨HN.out,hl,rfl⟩)⟩
theorem run_boxes (w : World) (m : Nat) (Z Z' : Array Value) : ∃ W,W = (((w.alloc (.cells #[.slice none 0 0,.int .i64 0,.slice none 0 0] 25)).alloc (.cells Z 49)).alloc (.cells #[.slice none 0 0,.int .i64 0,.slice (some ⟨w.heap.size + 1,0,none⟩) m m] 25)).alloc (.cells Z' 31) ∧ Below w.heap.size w W ∧ W.heap.size = w.heap.size + 4 ∧
 W.heap[w.heap.size]? = some (.cells #[.slice none 0 0,.int .i64 0,.slice none 0 0] 25) ∧ W.heap[w.heap.size + 1]? = some (.cells Z 49) ∧ W.heap[w.heap.size + 1 + 1]? = some (.cells #[.slice none 0 0,.int .i64 0,.slice (some ⟨w.heap.size + 1,0,none⟩) m m] 25) ∧ W.heap[w.heap.size + 1 + 1 + 1]? = some (.cells Z' 31) := by
 obtain ⟨h1,h2,h3⟩ := three_blocks w (.cells #[.slice none 0 0,.int .i64 0,.slice none 0 0] 25) (.cells Z 49) (.cells #[.slice none 0 0,.int .i64 0,.slice (some ⟨w.heap.size + 1,0,none⟩) m m] 25)
 obtain ⟨V,hV⟩ : ∃ V,V = ((w.alloc (.cells #[.slice none 0 0,.int .i64 0,.slice none 0 0] 25)).alloc (.cells Z 49)).alloc (.cells #[.slice none 0 0,.int .i64 0,.slice (some ⟨w.heap.size + 1,0,none⟩) m m] 25) := ⟨_,rfl⟩
 have s3 : V.heap.size = w.heap.size + 3 := by rw [hV]; simp
 have hb3 : Below w.heap.size w V := by rw [hV]; exact below_alloc (below_alloc (below_alloc (Below.refl _ _) _) _) _
 rw [← hV] at h1 h2 h3 ⊢
 have h4 := heap_alloc_new V (.cells Z' 31)
 rw [s3] at h4
 exact ⟨_,rfl,below_alloc hb3 _,by rw [World.size_alloc,s3],(Below.heap_alloc _ _ _ (by rw [s3]; omega)).trans h1,(Below.heap_alloc _ _ _ (by rw [s3]; omega)).trans h2,(Below.heap_alloc _ _ _ (by rw [s3]; omega)).trans h3,h4⟩
theorem next_boxes (w : World) (v0 v1 v2 a0 a1 a2 a3 a4 : Value) : ∃ W,W = (w.alloc (.cells #[v0,v1,v2] 25)).alloc (.cells #[a0,a1,a2,a3,a4] 31) ∧ Below w.heap.size w W ∧ W.cell? ⟨w.heap.size,0,none⟩ = some v0 ∧ W.cell? ⟨w.heap.size,1,none⟩ = some v1 ∧ W.cell? ⟨w.heap.size,2,none⟩ = some v2 ∧
 W.cell? ⟨w.heap.size + 1,0,none⟩ = some a0 ∧ W.cell? ⟨w.heap.size + 1,1,none⟩ = some a1 ∧ W.cell? ⟨w.heap.size + 1,2,none⟩ = some a2 ∧ W.cell? ⟨w.heap.size + 1,3,none⟩ = some a3 ∧ W.cell? ⟨w.heap.size + 1,4,none⟩ = some a4 :=
 ⟨_,rfl,below_alloc (below_alloc (Below.refl _ _) _) _,by simp,by simp,by simp,by simp,by simp,by simp,by simp,by simp⟩
set_option maxRecDepth 100000 in
set_option maxHeartbeats 4000000 in
theorem run_ok (N : Nat) (A : Option Addr) (l : List ActM) (c : Nat) (w : World) (hN : inB (N : Int) 1 5 = true) (hl : l.length ≤ 400) (hact : ActsAt w (· < w.heap.size) A l) :
 Calls Tryz.prog 9 #[.int .i64 (N : Int),.slice A l.length c] w (RunOut (N : Int) l w) := by
 have HN := Lib.hid hN
 have hN' := inB_true.1 hN
 have q0 : decide ((N : Int) < 1) = false := decide_eq_false (by omega)
 have q1 : decide (5 < (N : Int)) = false := decide_eq_false (by omega)
 have q2 : decide ((400 : Int) < (l.length : Int)) = false := decide_eq_false (by omega)
 obtain ⟨Z,hZ,hZs,hmk⟩ := make_cls N (by omega)
 obtain ⟨Z',hZ',hmk'⟩ := make_ans l.length hl
 obtain ⟨W4,hW4,hb4,hs4,e0,e1,e2,e3⟩ := run_boxes w N Z Z'
 have inv0 : RunInv w N l 0 W4 := by
  refine ⟨hb4,by omega,⟨none,0,0,some ⟨w.heap.size + 1,0,none⟩,N,N,?_,?_,?_,?_⟩,fun o => Joins.unfrozen_of_block e2 _,⟨⟨Z',e3,hZ'⟩,fun i x hx => ?_⟩,⟨?_,?_,?_⟩,fun o => Joins.unfrozen_of_block e0 _⟩
  ·exact start_in W4 N (by omega) Z hZ e1 _ (by omega)
  ·rw [Joins.cell_of_block e2]; rfl
  ·rw [Joins.cell_of_block e2]; rfl
  ·rw [Joins.cell_of_block e2]; rfl
  ·simp [runAns] at hx
  ·rw [Joins.cell_of_block e0]; rfl
  ·rw [Joins.cell_of_block e0]; rfl
  ·rw [Joins.cell_of_block e0]; rfl
 have HI0 := Lib.hid inv0
 have HW4 := Lib.hid hW4
 have HA := Lib.hid hact
 clear hN hZ hZs hZ' hW4 hb4 hs4 e0 e1 e2 e3 inv0 hact
 go_enter Tryz.func9,Tryz.ntmps9
 go_wp2
 go_loopw [33] (fun i wr => ∃ k : Nat,k ≤ l.length ∧ i = .int .i64 k ∧ RunInv w N l k wr) (fun i _ => l.length - (intOf i).toNat)
 case atStart =>
  refine ⟨0,Nat.zero_le _,rfl,?_⟩
  rw [← HW4.out]
  exact HI0.out
 case round =>
  obtain ⟨k,hk,rfl,hinv⟩ := hrel
  by_cases hm : k < l.length
  ·have hget : l[k]? = some (l.getD k default) := getD_some hm
   obtain ⟨a,ha⟩ : ∃ a,a = l.getD k default := ⟨_,rfl⟩
   rw [← ha] at hget
   have hactr : ActsAt wr (· < wr.heap.size) A l := HA.out.acts (fun b hb => Nat.lt_of_lt_of_le hb hinv.bel.size) (fun b k hb => hinv.bel.cell (p := ⟨b,k,none⟩) hb)
   obtain ⟨b,o,rfl,hbb,hat⟩ := SeqAt.at_ hactr hget
   obtain ⟨RA,n,rc,CA,m,cc,hwo,x0,x1,x2⟩ := hinv.wo
   obtain ⟨WO,hWO⟩ : ∃ WO,WO = runWo (startW N) (l.take k) := ⟨_,rfl⟩
   rw [← hWO] at hwo x1
   have d0 := hat.k
   have d1 := hat.c
   have d2 := hat.y
   have d3 := hat.v
   have hok := Lib.hid hat.ok
   have HG := Lib.hid hget
   have HV := Lib.hid hinv
   have HWO := Lib.hid hWO
   have HWI := Lib.hid hwo
   have hlt := hinv.lt
   have hlt2 : w.heap.size + 1 + 1 < wr.heap.size := by omega
   have j0 : (0 : Int) ≤ (k : Int) := by omega
   obtain ⟨kind,ac,key,val⟩ := a
   dsimp only at d0 d1 d2 d3
   clear ha hget hactr hat hinv hwo hWO
   go_wp2_with fail
   have hal : Below wr.heap.size wr (wr.alloc (.cells #[.int .i64 kind,.int .i64 ac,.string key,.string val] 27)) := below_alloc (Below.refl _ _) _
   refine (do_any WO ⟨kind,ac,key,val⟩ RA n rc CA m cc _ (HWI.out.upto hal).in_ hok.out.1 hok.out.2).mono ?_
   rintro e w1 ⟨hb1,hor⟩
   have hb01 : Below wr.heap.size wr w1 := below_next hal hb1
   have inv1 := HV.out.upto hb01
   have hlen := RunInv.len (N := N) HG.out
   obtain ⟨u0,e0,f0⟩ := inv1.ans.cell (by rw [hlen]; exact hm) 0 (by omega)
   obtain ⟨u1,e1,f1⟩ := inv1.ans.cell (by rw [hlen]; exact hm) 1 (by omega)
   obtain ⟨u2,e2,f2⟩ := inv1.ans.cell (by rw [hlen]; exact hm) 2 (by omega)
   obtain ⟨u3,e3,f3⟩ := inv1.ans.cell (by rw [hlen]; exact hm) 3 (by omega)
   obtain ⟨u4,e4,f4⟩ := inv1.ans.cell (by rw [hlen]; exact hm) 4 (by omega)
   rw [hlen] at e0 f0 e1 f1 e2 f2 e3 f3 e4 f4
   have e0 : w1.cell? ⟨w.heap.size + 1 + 1 + 1,k * 5,none⟩ = some u0 := e0
   have f0 : w1.frozen? ⟨w.heap.size + 1 + 1 + 1,k * 5,none⟩ = false := f0
   have k1 := Nat.lt_of_lt_of_le hlt hb01.size
   have k2 : w.heap.size + 1 + 1 < w1.heap.size := by omega
   rcases hor with ⟨hne,rfl⟩ | ⟨hz,bR,rc',bC,wb',rfl,hrc',hco⟩
   ·obtain ⟨E,hE⟩ : ∃ E,E = actE WO ⟨kind,ac,key,val⟩ := ⟨_,rfl⟩
    have q3 : (E != 0) = true := by rw [hE]; simpa using hne
    have HE := Lib.hid (show E = actE (runWo (startW N) (l.take k)) ⟨kind,ac,key,val⟩ by rw [hE,HWO.out])
    have HNE := Lib.hid (show E ≠ 0 by rw [hE]; exact hne)
    have HV1 := Lib.hid inv1
    rw [← hE]
    clear inv1 hne hE hb1 hb01 hlen hal d0 d1 d2 d3 x0 x1 x2
    go_wp2
    go_roundw
    case rel =>
     refine ⟨k + 1,by omega,by go_num,?_⟩
     exact ((HV1.out.err HG.out HE.out HNE.out).upto (below_alloc (below_alloc (Below.refl _ _) _) _))
    case measure => simp [intOf]; omega
   ·obtain ⟨P,hP⟩ : ∃ P,P = doW WO ⟨kind,ac,key,val⟩ := ⟨_,rfl⟩
    rw [← hP] at hrc' hco ⊢
    have hX : WoInX w1 (fun b => b ≤ w.heap.size ∨ b = w.heap.size + 1 + 1 ∨ b = w.heap.size + 1 + 1 + 1) (some ⟨bR,0,none⟩) P.1.rows.length rc' (some ⟨bC,0,none⟩) P.1.cls.length P.1.cls.length P.1 := by
     refine hco.inX (fun b h e => h ?_) hrc' (Nat.le_refl _)
     have hsa : (wr.alloc (.cells #[.int .i64 kind,.int .i64 ac,.string key,.string val] 27)).heap.size = wr.heap.size + 1 := by simp
     show b < _
     rw [hsa]
     omega
    have HP := Lib.hid (show P = doW (runWo (startW N) (l.take k)) ⟨kind,ac,key,val⟩ by rw [hP,HWO.out])
    have HZ := Lib.hid (show actE (runWo (startW N) (l.take k)) ⟨kind,ac,key,val⟩ = 0 by rw [← HWO.out]; exact hz)
    have HV1 := Lib.hid inv1
    have HX := Lib.hid hX
    obtain ⟨y0,y1,y2⟩ : w1.cell? ⟨w.heap.size + 1 + 1,0,none⟩ = some (.slice RA n rc) ∧ w1.cell? ⟨w.heap.size + 1 + 1,1,none⟩ = some (.int .i64 WO.clock) ∧ w1.cell? ⟨w.heap.size + 1 + 1,2,none⟩ = some (.slice CA m cc) :=
     ⟨(hb01.cell (p := ⟨w.heap.size + 1 + 1,0,none⟩) hlt2).trans x0,(hb01.cell (p := ⟨w.heap.size + 1 + 1,1,none⟩) hlt2).trans x1,(hb01.cell (p := ⟨w.heap.size + 1 + 1,2,none⟩) hlt2).trans x2⟩
    have g0 := inv1.fb 0
    have g1 := inv1.fb 1
    have g2 := inv1.fb 2
    clear inv1 hz hP hb1 hb01 hlen hal d0 d1 d2 d3 x0 x1 x2 hX hco hrc'
    obtain ⟨P1,a0,a1,a2,a3,a4⟩ := P
    dsimp only at HX
    obtain ⟨W3,hW3,hb3,b0,b1,b2,c0,c1,c2,c3,c4⟩ := next_boxes w1 (.slice (some ⟨bR,0,none⟩) P1.rows.length rc') (.int .i64 P1.clock) (.slice (some ⟨bC,0,none⟩) P1.cls.length P1.cls.length) (.int .i64 a0) (.bool a1) (.string a2) (.int .i64 a3) (.int .i64 a4)
    obtain ⟨hc3,hf3⟩ := bcell hb3
    have y0 := (hc3 _ _ k2).trans y0
    have y1 := (hc3 _ _ k2).trans y1
    have y2 := (hc3 _ _ k2).trans y2
    have g0 := (hf3 _ _ k2).trans g0
    have g1 := (hf3 _ _ k2).trans g1
    have g2 := (hf3 _ _ k2).trans g2
    have e0 := (hc3 _ _ k1).trans e0
    have e1 := (hc3 _ _ k1).trans e1
    have e2 := (hc3 _ _ k1).trans e2
    have e3 := (hc3 _ _ k1).trans e3
    have e4 := (hc3 _ _ k1).trans e4
    have f0 := (hf3 _ _ k1).trans f0
    have f1 := (hf3 _ _ k1).trans f1
    have f2 := (hf3 _ _ k1).trans f2
    have f3 := (hf3 _ _ k1).trans f3
    have f4 := (hf3 _ _ k1).trans f4
    have n1 : w.heap.size + 1 + 1 ≠ w1.heap.size := by omega
    have n2 : w.heap.size + 1 + 1 ≠ w1.heap.size + 1 := by omega
    have n3 : w.heap.size + 1 + 1 + 1 ≠ w1.heap.size := by omega
    have n4 : w.heap.size + 1 + 1 + 1 ≠ w1.heap.size + 1 := by omega
    have HB3 := Lib.hid hb3
    have HW3 := Lib.hid hW3
    clear hW3 hb3 hc3 hf3
    go_wp2
    rw [← HW3.out]
    go_region
    go_wp2
    go_roundw
    case rel =>
     refine ⟨k + 1,by omega,by go_num,?_⟩
     exact (((HV1.out.upto HB3.out).ok HG.out HZ.out HP.out (HX.out.upto HB3.out)).upto (below_drew (Below.refl _ _)))
    case measure => simp [intOf]; omega
  ·have hke : k = l.length := by omega
   subst hke
   have htk : l.take l.length = l := List.take_length
   obtain ⟨RA,n,rc,CA,m,cc,hwo,x0,x1,x2⟩ := hinv.wo
   have hans := hinv.ans
   rw [htk] at hwo x1 hans
   obtain ⟨r0,r1,r2⟩ := hinv.r
   have g0 := hinv.rf 0
   have g1 := hinv.rf 1
   have g2 := hinv.rf 2
   obtain ⟨WO,hWO⟩ : ∃ WO,WO = runWo (startW N) l := ⟨_,rfl⟩
   rw [← hWO] at hwo x1
   have HWO := Lib.hid hWO
   have HWI := Lib.hid hwo
   have HV := Lib.hid hinv
   have HAN := Lib.hid hans
   have n1 : w.heap.size ≠ w.heap.size + 1 + 1 := by omega
   have n2 : w.heap.size + 1 + 1 ≠ w.heap.size := by omega
   clear hwo hWO hinv hans htk
   go_wp2
   go_region
   obtain ⟨m0,m1,m2⟩ := set3_at r0 r1 r2 (.slice RA n rc) (.int .i64 WO.clock) (.slice CA m cc)
   have hs := set3_same wr w.heap.size (.slice RA n rc) (.int .i64 WO.clock) (.slice CA m cc)
   have hg := set3_heap wr w.heap.size (.slice RA n rc) (.int .i64 WO.clock) (.slice CA m cc) (k := w.heap.size + 1 + 1 + 1) (by omega)
   have hbel : Below w.heap.size w (set3 wr w.heap.size (.slice RA n rc) (.int .i64 WO.clock) (.slice CA m cc)) := ((HV.out.bel.setCell (Nat.le_refl w.heap.size) _).setCell (Nat.le_refl w.heap.size) _).setCell (Nat.le_refl w.heap.size) _
   obtain ⟨V,hV⟩ : ∃ V,V = set3 wr w.heap.size (.slice RA n rc) (.int .i64 WO.clock) (.slice CA m cc) := ⟨_,rfl⟩
   rw [← hV] at m0 m1 m2 hs hg hbel
   have hV' : V = ((wr.setCell ⟨w.heap.size,0,none⟩ (.slice RA n rc)).setCell ⟨w.heap.size,1,none⟩ (.int .i64 WO.clock)).setCell ⟨w.heap.size,2,none⟩ (.slice CA m cc) := hV
   rw [← hV']
   have HWV := Lib.hid ((HWI.out.same hs (fun p e => .inl (Nat.le_of_eq e))).upto (below_drew (Below.refl _ _)))
   have HAV := Lib.hid (((HAN.out.kept hg).kept (show V.drew.heap[w.heap.size + 1 + 1 + 1]? = V.heap[w.heap.size + 1 + 1 + 1]? from rfl)))
   have HBV := Lib.hid (below_drew hbel)
   have HRES := Lib.hid (show (N : Int).toNat = N from Int.toNat_natCast N)
   clear hV hV' hs hg hbel r0 r1 r2 x0 x1 x2
   go_wp2
   refine bodyPost_ret (v := .tuple #[.slice (some ⟨w.heap.size + 1 + 1 + 1,0,none⟩) l.length l.length,woV RA n rc WO.clock CA m cc,.int .i64 0]) (by simp [results,Tryz.results9,go_sem,m0,m1,m2]) rfl ⟨HBV.out,.inr (.inr ⟨HN.out,hl,w.heap.size + 1 + 1 + 1,RA,n,rc,CA,m,cc,?_,?_,?_,by omega⟩)⟩
   ·rw [HRES.out,← HWO.out]
   ·rw [HRES.out,← HWO.out]; exact HWV.out.less fun b e => .inl (Nat.le_of_lt e)
   ·rw [HRES.out]; exact HAV.out
theorem run_any (N : Int) (A : Option Addr) (l : List ActM) (c : Nat) (w : World) (hact : ActsAt w (· < w.heap.size) A l) :
 Calls Tryz.prog 9 #[.int .i64 N,.slice A l.length c] w (RunOut N l w) := by
 cases hN : inB N 1 5 with
 | false => exact run_range N A l c w hN
 | true =>
  by_cases hl : 400 < l.length
  ·exact run_size N A l c w hN hl
  ·obtain ⟨n,hn⟩ : ∃ n : Nat,N = n := ⟨N.toNat,by have := inB_true.1 hN; omega⟩
   subst hn
   exact run_ok n A l c w hN (by omega) hact
end Go.Proofs.YtambkjnhfejfaaaGreat
namespace Go.Proofs.YtambkjnhfejfaaaGreat
open Go.ChangeShapes Go.WideShapes Go.ChangeAt Go.RowKit Go.Deep
theorem bytes_act : Tryz.prog.bytesOf 27 = 48 := by kernel_rfl
section
variable {H : Type} {enc : TypeId × Value → H} {W : World}
set_option maxRecDepth 100000 in
theorem open_actAt {n b o : Nat} {cs : List Value} {x : DataW H × List MemPlace} (hc : W.cells? 0 ⟨b,o,none⟩ 4 = some cs) (h : DataW.trod enc Tryz.prog W 0 (fun _ => true) true n 27 cs = some x) : ∃ r : ActM,ActAt W b o r := by
 obtain ⟨_,hcl,hat⟩ := World.cells?_some hc
 obtain ⟨ys,n',_,hx,hlen,hyl,hg⟩ := DataW.trod_struct Tryz.underlying27 h
 match cs,hcl with
 | [v0,v1,v2,v3],_ =>
  have f0 : DataW.trod enc Tryz.prog W 0 (fun _ => true) true n' 3 (([v0,v1,v2,v3].drop 0).take (Tryz.prog.cellsOf 3)) = ys[0]? := hg 0 _ rfl
  have f1 : DataW.trod enc Tryz.prog W 0 (fun _ => true) true n' 3 (([v0,v1,v2,v3].drop 1).take (Tryz.prog.cellsOf 3)) = ys[1]? := hg 1 _ rfl
  have f2 : DataW.trod enc Tryz.prog W 0 (fun _ => true) true n' 9 (([v0,v1,v2,v3].drop 2).take (Tryz.prog.cellsOf 9)) = ys[2]? := hg 2 _ rfl
  have f3 : DataW.trod enc Tryz.prog W 0 (fun _ => true) true n' 9 (([v0,v1,v2,v3].drop 3).take (Tryz.prog.cellsOf 9)) = ys[3]? := hg 3 _ rfl
  rw [cells_int] at f0 f1
  rw [cells_string] at f2 f3
  match ys,hyl with
  | [y0,y1,y2,y3],_ =>
   simp only [List.drop_zero,List.take_succ_cons,List.take_zero,List.drop_succ_cons,List.getElem?_cons_zero,List.getElem?_cons_succ] at f0 f1 f2 f3
   obtain ⟨p,e0,_,w0⟩ := DataW.trod_int Tryz.underlying3 f0
   obtain ⟨s,e1,_,w1⟩ := DataW.trod_int Tryz.underlying3 f1
   obtain ⟨m,e2,_,w2⟩ := DataW.trod_string Tryz.underlying9 f2
   obtain ⟨a,e3,_,w3⟩ := DataW.trod_string Tryz.underlying9 f3
   simp only [List.cons.injEq,and_true] at e0 e1 e2 e3
   subst e0 e1 e2 e3
   exact ⟨⟨p,s,m,a⟩,by simpa [Addr.add] using hat 0 (by omega),by simpa [Addr.add] using hat 1 (by omega),by simpa [Addr.add] using hat 2 (by omega),by simpa [Addr.add] using hat 3 (by omega),w2,w3⟩
set_option maxRecDepth 100000 in
theorem open_acts {r0 : Reach} {base : Nat} {v : Value} {d : DataW H} {p : List MemPlace} (hv : Value.okWide Tryz.prog W r0 base 36 v) (h : DataW.Trod enc Tryz.prog W 0 (fun _ => true) true 36 v d p)
 (hz : ∀ k ∈ d.weights Tryz.prog 36,k ≤ reachBytes) : ∃ (l : List ActM) (A : Option Addr) (c : Nat),v = .slice A l.length c ∧ ActsAt W (· < W.heap.size) A l := by
 obtain ⟨fuel,hf⟩ := h
 obtain ⟨A,n,c,rfl⟩ := okWide_slice Tryz.underlying36 hv
 obtain ⟨l,hl,hr,hcap⟩ := open_seq (E := ActAt W) (sz := 4) (by_ := 48) (mx := 2932031007402) Tryz.underlying36 cells_act (by omega) bytes_act (fun n h => by unfold reachBytes at h; omega) hf hz (fun b o n' cs y hc ht _ => open_actAt hc ht)
 exact ⟨l,A,c,by rw [hl],hr⟩
end
end Go.Proofs.YtambkjnhfejfaaaGreat
