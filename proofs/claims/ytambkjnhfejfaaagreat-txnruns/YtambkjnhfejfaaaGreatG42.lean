/-
  Contracts of functions of the program and words for memory, several texts in one: RScript. Conditions: those stated with each.
-/
import Derived.Test.YtambkjnhfejfaaaGreatG40
import Derived.Test.YtambkjnhfejfaaaGreatG41
namespace Go.Proofs.YtambkjnhfejfaaaGreat
open Go.RowKit
set_option linter.unusedVariables false
section
variable {P : Program} {md : Region.Mode} {ops : Array Oper} {Q : Exit → Act → World → Prop} {S : World → Prop} {fuel : Nat} {listed : Array Bool} {a : Act} {w : World} {o1 o2 o3 : Oper}
theorem cop2 (i j : Nat) (h1 : ∀ K' : Act → World → Prop,Shut (∀ a w,S w → (S w → wpAnyH P md ops Q S fuel (listed.setIfInBounds i true) a w) → K' a w) → if Region.wanted o1 (yielded ops a.tmps) = true then Oper.wp P o1 a w K' Q else K' (a.put o1.dst undef) w)
 (h2 : ∀ K' : Act → World → Prop,Shut (∀ a w,S w → (S w → wpAnyH P md ops Q S fuel (listed.setIfInBounds j true) a w) → K' a w) → if Region.wanted o2 (yielded ops a.tmps) = true then Oper.wp P o2 a w K' Q else K' (a.put o2.dst undef) w)
 (e1 : ops[i]? = some o1 := by (simp only [List.getElem?_toArray,List.getElem?_cons_zero,List.getElem?_cons_succ]; rfl)) (e2 : ops[j]? = some o2 := by (simp only [List.getElem?_toArray,List.getElem?_cons_zero,List.getElem?_cons_succ]; rfl))
 (hr : Region.ready md ops listed = [i,j] := by kernel_rfl) : wpAnyH P md ops Q S (fuel + 1) listed a w :=
 wpAnyH_ready (rs := [i,j]) hr (by simp) (AllReadyH.cons e1 h1 (AllReadyH.cons e2 h2 AllReadyH.nil))
theorem cop3 (i j k : Nat) (h1 : ∀ K' : Act → World → Prop,Shut (∀ a w,S w → (S w → wpAnyH P md ops Q S fuel (listed.setIfInBounds i true) a w) → K' a w) → if Region.wanted o1 (yielded ops a.tmps) = true then Oper.wp P o1 a w K' Q else K' (a.put o1.dst undef) w)
 (h2 : ∀ K' : Act → World → Prop,Shut (∀ a w,S w → (S w → wpAnyH P md ops Q S fuel (listed.setIfInBounds j true) a w) → K' a w) → if Region.wanted o2 (yielded ops a.tmps) = true then Oper.wp P o2 a w K' Q else K' (a.put o2.dst undef) w)
 (h3 : ∀ K' : Act → World → Prop,Shut (∀ a w,S w → (S w → wpAnyH P md ops Q S fuel (listed.setIfInBounds k true) a w) → K' a w) → if Region.wanted o3 (yielded ops a.tmps) = true then Oper.wp P o3 a w K' Q else K' (a.put o3.dst undef) w)
 (e1 : ops[i]? = some o1 := by (simp only [List.getElem?_toArray,List.getElem?_cons_zero,List.getElem?_cons_succ]; rfl)) (e2 : ops[j]? = some o2 := by (simp only [List.getElem?_toArray,List.getElem?_cons_zero,List.getElem?_cons_succ]; rfl)) (e3 : ops[k]? = some o3 := by (simp only [List.getElem?_toArray,List.getElem?_cons_zero,List.getElem?_cons_succ]; rfl))
 (hr : Region.ready md ops listed = [i,j,k] := by kernel_rfl) : wpAnyH P md ops Q S (fuel + 1) listed a w :=
 wpAnyH_ready (rs := [i,j,k]) hr (by simp) (AllReadyH.cons e1 h1 (AllReadyH.cons e2 h2 (AllReadyH.cons e3 h3 AllReadyH.nil)))
end
def ansCells : Cells AnsM := ⟨fun x => [.int .i64 x.code,.bool x.is,.string x.val,.int .i64 x.ph,.int .i64 x.time],5,fun _ => rfl,fun a v hv => by
 simp only [List.mem_cons,List.not_mem_nil,or_false] at hv
 rcases hv with rfl | rfl | rfl | rfl | rfl <;> rfl,by decide⟩
abbrev OwnsAns (w : World) (base : Nat) (v : Value) (l : List AnsM) : Prop := ansCells.Owns w base 31 v l
theorem app_ans {ty : TypeId} (W : World) (base c n : Nat) (A : Option Addr) (l : List AnsM) (x : AnsM) (hn : n = l.length) (hown : OwnsAns W base (.slice A n c) l) (hbd : l.length ≤ 1000) (hbase : base ≤ W.heap.size) :
 ∃ v' w',(Builtin.append_ #[37,37] ty #[.slice A n c,.slice (some ⟨W.heap.size,0,none⟩) 1 1]).run Tryz.prog (W.alloc (.cells #[.int .i64 x.code,.bool x.is,.string x.val,.int .i64 x.ph,.int .i64 x.time] 31)) = .ok v' w' ∧ ∃ A' c',v' = .slice A' (n + 1) c' ∧ OwnsAns w' base (.slice A' (n + 1) c') (l ++ [x]) ∧
  (∀ b,b < W.heap.size → (Value.slice A n c).ownBlock ≠ some b → w'.heap[b]? = W.heap[b]?) ∧ W.heap.size ≤ w'.heap.size ∧ (∀ w0,Below base w0 W → Below base w0 w') ∧ ((Value.slice A' (n + 1) c').ownBlock = (Value.slice A n c).ownBlock ∨ (Value.slice A' (n + 1) c').ownBlock = some (W.heap.size + 1)) := by
 obtain ⟨i0,hi0,hz0,hz1,hz2⟩ := info_parts ans_info
 exact app_1 (C := ansCells) Tryz.underlying37 hi0 hz0 hz1 hz2 rfl (by decide) W base c n A l x _ rfl hn hown hbd hbase
section
variable {w w' : World} {X X' : Nat → Prop} {RA CA : Option Addr} {n rc m cc : Nat} {wo : WoM}
theorem WoInX.move (h : WoInX w X RA n rc CA m cc wo) (hs : w.heap.size ≤ w'.heap.size) (hk : ∀ b,b < w.heap.size → ¬ X b → w'.heap[b]? = w.heap[b]?) (hX : ∀ b,b < w.heap.size → ¬ X b → ¬ X' b) : WoInX w' X' RA n rc CA m cc wo :=
 ⟨h.hn,h.hrc,h.rows.rows (fun _ hp => ⟨Nat.lt_of_lt_of_le hp.1 hs,hX _ hp.1 hp.2⟩) (fun b k hp => World.cell?_of_block (w := w) (a := ⟨b,k,none⟩) (hk b hp.1 hp.2)),h.hm,h.hcc,h.cls.cls (fun _ hp => ⟨Nat.lt_of_lt_of_le hp.1 hs,hX _ hp.1 hp.2⟩) (fun b k hp => World.cell?_of_block (w := w) (a := ⟨b,k,none⟩) (hk b hp.1 hp.2)),h.ck⟩
end
structure ScrInv (w : World) (g5 g7 N : Nat) (l : List ActM) (k : Nat) (A : Option Addr) (c : Nat) (wr : World) : Prop where
 bel : Below w.heap.size w wr
 g : w.heap.size ≤ g5 ∧ g5 < g7
 r : BoxIs wr g5 [.slice none 0 0,.int .i64 0,.slice none 0 0]
 wo : ∃ RA n rc CA m cc,WoInX wr (fun b => b = g5 ∨ b = g7 ∨ (Value.slice A k c).ownBlock = some b) RA n rc CA m cc (runWo (startW N) (l.take k)) ∧ BoxIs wr g7 [.slice RA n rc,.int .i64 (runWo (startW N) (l.take k)).clock,.slice CA m cc]
 own : OwnsAns wr (g7 + 1) (.slice A k c) (runAns (startW N) (l.take k))
section
variable {w wr V w6 : World} {g5 g7 N k : Nat} {l : List ActM} {a : ActM} {A A6 : Option Addr} {c c6 : Nat}
theorem ScrInv.lt (h : ScrInv w g5 g7 N l k A c wr) : g7 < wr.heap.size := by obtain ⟨_,_,_,_,_,_,_,b⟩ := h.wo; exact b.lt
theorem ScrInv.next (h : ScrInv w g5 g7 N l k A c wr) (hk : l[k]? = some a) (hV : ∀ b,b < wr.heap.size → b ≠ g7 → V.heap[b]? = wr.heap[b]?) (hVs : wr.heap.size ≤ V.heap.size) (hVB : Below w.heap.size w V) {F : WoM} {x : AnsM} (hA : runA (runWo (startW N) (l.take k)) a = (F,x))
 {RA CA : Option Addr} {n rc m cc : Nat} (b7 : BoxIs V g7 [.slice RA n rc,.int .i64 F.clock,.slice CA m cc]) (hF : WoInX V (fun b => b = g5 ∨ b = g7 ∨ (Value.slice A k c).ownBlock = some b) RA n rc CA m cc F)
 (h6 : OwnsAns w6 (g7 + 1) (.slice A6 (k + 1) c6) (runAns (startW N) (l.take k) ++ [x])) (e6 : ∀ b,b < V.heap.size → (Value.slice A k c).ownBlock ≠ some b → w6.heap[b]? = V.heap[b]?) (s6 : V.heap.size ≤ w6.heap.size) (b6 : ∀ w0,Below (g7 + 1) w0 V → Below (g7 + 1) w0 w6)
 (o6 : (Value.slice A6 (k + 1) c6).ownBlock = (Value.slice A k c).ownBlock ∨ (Value.slice A6 (k + 1) c6).ownBlock = some (V.heap.size + 1)) : ScrInv w g5 g7 N l (k + 1) A6 c6 w6 := by
 have hg := h.g
 have hlt := h.lt
 have no : ∀ q,q < g7 + 1 → (Value.slice A k c).ownBlock ≠ some q := fun q hq e => by have := (World.ownsRow.lt h.own q e).1; omega
 refine ⟨hVB.trans ((b6 V (Below.refl _ _)).mono (by omega)),hg,h.r.blk ((e6 g5 (by omega) (no g5 (by omega))).trans (hV g5 (by omega) (by omega))),?_,?_⟩
 ·rw [take_one hk,runWo_snoc,hA]
  refine ⟨RA,n,rc,CA,m,cc,hF.move s6 (fun b hb hx => e6 b hb fun e => hx (.inr (.inr e))) (fun b hb hx => ?_),b7.blk (e6 g7 (by omega) (no g7 (by omega)))⟩
  rintro (e | e | e)
  ·exact hx (.inl e)
  ·exact hx (.inr (.inl e))
  ·rcases o6 with o | o
   ·exact hx (.inr (.inr (o ▸ e)))
   ·rw [o] at e
    have := Option.some.inj e
    omega
 ·rw [take_one hk,runAns_snoc,hA]; exact h6
def DidRel (wr : World) (r : WoM × AnsM × Int) (s10 s11 s12 : Value) (wx : World) : Prop :=
 ∃ gA gB RA n rc CA m cc,s10 = .pointer (some ⟨gA,0,none⟩) ∧ s11 = .pointer (some ⟨gB,0,none⟩) ∧ s12 = .int .i64 r.2.2 ∧ gA ≠ gB ∧ wr.heap.size ≤ gA ∧ wr.heap.size ≤ gB ∧ BoxIs wx gA [.slice RA n rc,.int .i64 r.1.clock,.slice CA m cc] ∧
  BoxIs wx gB [.int .i64 r.2.1.code,.bool r.2.1.is,.string r.2.1.val,.int .i64 r.2.1.ph,.int .i64 r.2.1.time] ∧ Below wr.heap.size wr wx ∧ (r.2.2 = 0 → WoInX wx (fun b => b < wr.heap.size ∨ b = gA ∨ b = gB) RA n rc CA m cc r.1)
theorem did_x {wo F : WoM} {a : ActM} {w w' : World} {e : Ending} {x : AnsM} {E : Int} (hz : endW wo a = (F,x,E)) (h : DidOut wo a w e w') :
 Below w.heap.size w w' ∧ ∃ RA n rc CA m cc,e = .returned (.tuple #[woV RA n rc F.clock CA m cc,ansV x,.int .i64 E]) ∧ (E = 0 → WoInX w' (fun b => b < w.heap.size) RA n rc CA m cc F) := by
 obtain ⟨hb,⟨h0,rfl⟩ | ⟨h0,RA,n,rc,CA,m,cc,rfl,hc⟩⟩ := h
 ·rw [endW,if_neg h0] at hz
  injection hz with e1 e2
  injection e2 with e2 e3
  subst e1 e2 e3
  exact ⟨hb,_,_,_,_,_,_,rfl,fun e => absurd e h0⟩
 ·rw [endW,if_pos h0] at hz
  injection hz with e1 e2
  injection e2 with e2 e3
  subst e1 e2 e3
  exact ⟨hb,_,_,_,_,_,_,rfl,fun _ => hc⟩
theorem scr_fin {wr w3 Wf Wg : World} {gA gB S : Nat} {F : WoM} {x : AnsM} {E : Int} {RA CA : Option Addr} {n rc m cc : Nat} {y0 y1 y2 u0 u1 u2 u3 u4 : Value} (hw3 : E = 0 → WoInX w3 (fun b => b < S) RA n rc CA m cc F) (h3f : Below w3.heap.size w3 Wf) (hS : wr.heap.size ≤ S) (hA : gA < S ∨ w3.heap.size ≤ gA) (hB : gB < S ∨ w3.heap.size ≤ gB) (hA' : wr.heap.size ≤ gA) (hB' : wr.heap.size ≤ gB) (hne : gA ≠ gB)
 (bA : BoxIs Wf gA [y0,y1,y2]) (bB : BoxIs Wf gB [u0,u1,u2,u3,u4]) (hb : Below wr.heap.size wr Wf) (hg : Wg = ((Wf.setCell ⟨gA,0,none⟩ (.slice RA n rc)).setCell ⟨gA,1,none⟩ (.int .i64 F.clock)).setCell ⟨gA,2,none⟩ (.slice CA m cc)) :
 DidRel wr (F,x,E) (.pointer (some ⟨gA,0,none⟩)) (.pointer (some ⟨gB,0,none⟩)) (.int .i64 E) (((((Wg.setCell ⟨gB,0,none⟩ (.int .i64 x.code)).setCell ⟨gB,1,none⟩ (.bool x.is)).setCell ⟨gB,2,none⟩ (.string x.val)).setCell ⟨gB,3,none⟩ (.int .i64 x.ph)).setCell ⟨gB,4,none⟩ (.int .i64 x.time)) := by
 have bA1 : BoxIs Wg gA [.slice RA n rc,.int .i64 F.clock,.slice CA m cc] := by rw [hg]; exact ((bA.set 0 _).set 1 _).set 2 _
 have bB1 : BoxIs Wg gB [u0,u1,u2,u3,u4] := by rw [hg]; exact ((bB.other _ hne.symm).other _ hne.symm).other _ hne.symm
 have hbg : Below wr.heap.size wr Wg := by rw [hg]; exact ((hb.setCell hA' _).setCell hA' _).setCell hA' _
 have kg : ∀ b,b ≠ gA → Wg.heap[b]? = Wf.heap[b]? := fun b h => by rw [hg,Below.heap_setCell _ _ _ _ h,Below.heap_setCell _ _ _ _ h,Below.heap_setCell _ _ _ _ h]
 have sg : Wg.heap.size = Wf.heap.size := by rw [hg]; simp
 refine ⟨gA,gB,RA,n,rc,CA,m,cc,rfl,rfl,rfl,hne,hA',hB',((((bA1.other _ hne).other _ hne).other _ hne).other _ hne).other _ hne,((((bB1.set 0 _).set 1 _).set 2 _).set 3 _).set 4 _,((((hbg.setCell hB' _).setCell hB' _).setCell hB' _).setCell hB' _).setCell hB' _,fun e0 => ?_⟩
 refine (hw3 e0).move (by simp; rw [sg]; exact h3f.size) (fun b hb hx => ?_) (fun b hb hx => ?_)
 ·have hx' : S ≤ b := by simpa using hx
  have nb : b ≠ gB := by omega
  rw [Below.heap_setCell _ _ _ _ nb,Below.heap_setCell _ _ _ _ nb,Below.heap_setCell _ _ _ _ nb,Below.heap_setCell _ _ _ _ nb,Below.heap_setCell _ _ _ _ nb,kg b (by omega)]
  exact h3f.block b hb
 ·have hx' : S ≤ b := by simpa using hx
  omega
end
def ScrOut (N : Int) (l : List ActM) (w : World) (e : Ending) (w' : World) : Prop :=
 Below w.heap.size w w' ∧ ((inB N 1 5 = false ∧ e = .returned (.tuple #[.slice none 0 0,woV none 0 0 0 none 0 0,.int .i64 2])) ∨
  (inB N 1 5 = true ∧ 400 < l.length ∧ e = .returned (.tuple #[.slice none 0 0,woV none 0 0 0 none 0 0,.int .i64 1])) ∨
  (inB N 1 5 = true ∧ l.length ≤ 400 ∧ ∃ A c RA n rc CA m cc,e = .returned (.tuple #[.slice A l.length c,woV RA n rc (runWo (startW N.toNat) l).clock CA m cc,.int .i64 0]) ∧ WoIn w' RA n rc CA m cc (runWo (startW N.toNat) l) ∧ SeqAt (fun b => b < w'.heap.size) 5 1000 (AnsAt w') A (runAns (startW N.toNat) l)))
set_option maxRecDepth 100000 in
set_option maxHeartbeats 4000000 in
theorem script_err (N E : Int) (A : Option Addr) (l : List ActM) (c : Nat) (w : World) (hE : (inB N 1 5 = false ∧ E = 2) ∨ (inB N 1 5 = true ∧ 400 < l.length ∧ E = 1)) :
 Calls Tryz.prog 10 #[.int .i64 N,.slice A l.length c] w (ScrOut N l w) := by
 obtain ⟨W0,hW,hb0,b5⟩ := one_box w #[.slice none 0 0,.int .i64 0,.slice none 0 0] 25
 obtain ⟨p0,p1,p2⟩ := b5.c3
 obtain ⟨f0,f1,f2⟩ := b5.f3
 obtain ⟨V,hV⟩ : ∃ V,V = ((W0.setCell ⟨w.heap.size,0,none⟩ (.slice none 0 0)).setCell ⟨w.heap.size,1,none⟩ (.int .i64 0)).setCell ⟨w.heap.size,2,none⟩ (.slice none 0 0) := ⟨_,rfl⟩
 have bV : BoxIs V w.heap.size [.slice none 0 0,.int .i64 0,.slice none 0 0] := by rw [hV]; exact ((b5.set 0 _).set 1 _).set 2 _
 have HB := Lib.hid (show Below w.heap.size w V by rw [hV]; exact ((hb0.setCell (Nat.le_refl w.heap.size) _).setCell (Nat.le_refl w.heap.size) _).setCell (Nat.le_refl w.heap.size) _)
 obtain ⟨m0,m1,m2⟩ := bV.c3
 have HV := Lib.hid hV
 have HW := Lib.hid hW
 clear hV hW hb0 bV b5
 rcases hE with ⟨hN,rfl⟩ | ⟨hN,hl,rfl⟩
 ·have HN := Lib.hid hN
  go_enter Tryz.func10,Tryz.ntmps10
  go_upto_region 1 with (fail)
  rw [← HW.out]
  go_wp2_with (go_at_call 16; refine (in_any _ _ _ _).mono ?_; rintro e w' ⟨rfl,rfl⟩)
  rw [← HV.out]
  exact bodyPost_ret (v := .tuple #[.slice none 0 0,woV none 0 0 0 none 0 0,.int .i64 2]) (by simp [results,Tryz.results10,go_sem,m0,m1,m2]) rfl ⟨HB.out,.inl ⟨HN.out,rfl⟩⟩
 ·have HN := Lib.hid hN
  have q2 : decide ((400 : Int) < (l.length : Int)) = true := decide_eq_true (by omega)
  go_enter Tryz.func10,Tryz.ntmps10
  go_upto_region 1 with (fail)
  rw [← HW.out]
  go_wp2_with (go_at_call 16; refine (in_any _ _ _ _).mono ?_; rintro e w' ⟨rfl,rfl⟩)
  rw [← HV.out]
  exact bodyPost_ret (v := .tuple #[.slice none 0 0,woV none 0 0 0 none 0 0,.int .i64 1]) (by simp [results,Tryz.results10,go_sem,m0,m1,m2]) rfl ⟨HB.out,.inr (.inl ⟨HN.out,hl,rfl⟩)⟩
theorem scr_boxes (w : World) (m : Nat) (Z : Array Value) : ∃ W,W = ((w.alloc (.cells #[.slice none 0 0,.int .i64 0,.slice none 0 0] 25)).alloc (.cells Z 49)).alloc (.cells #[.slice none 0 0,.int .i64 0,.slice (some ⟨w.heap.size + 1,0,none⟩) m m] 25) ∧ Below w.heap.size w W ∧ W.heap.size = w.heap.size + 3 ∧
 BoxIs W w.heap.size [.slice none 0 0,.int .i64 0,.slice none 0 0] ∧ W.heap[w.heap.size + 1]? = some (.cells Z 49) ∧ BoxIs W (w.heap.size + 1 + 1) [.slice none 0 0,.int .i64 0,.slice (some ⟨w.heap.size + 1,0,none⟩) m m] := by
 obtain ⟨h1,h2,h3⟩ := three_blocks w (.cells #[.slice none 0 0,.int .i64 0,.slice none 0 0] 25) (.cells Z 49) (.cells #[.slice none 0 0,.int .i64 0,.slice (some ⟨w.heap.size + 1,0,none⟩) m m] 25)
 exact ⟨_,rfl,below_alloc (below_alloc (below_alloc (Below.refl _ _) _) _) _,by simp,⟨_,_,h1,rfl⟩,h2,⟨_,_,h3,rfl⟩⟩
set_option maxRecDepth 100000 in
set_option maxHeartbeats 8000000 in
theorem script_ok (N : Nat) (A0 : Option Addr) (l : List ActM) (c0 : Nat) (w : World) (hN : inB (N : Int) 1 5 = true) (hl : l.length ≤ 400) (hact : ActsAt w (· < w.heap.size) A0 l) :
 Calls Tryz.prog 10 #[.int .i64 (N : Int),.slice A0 l.length c0] w (ScrOut (N : Int) l w) := by
 have hN' := inB_true.1 hN
 have q2 : decide ((400 : Int) < (l.length : Int)) = false := decide_eq_false (by omega)
 obtain ⟨Z,hZ,hZs,hmk⟩ := make_cls N (by omega)
 obtain ⟨W0,hW0,hb0,hs0,e0,e1,e2⟩ := scr_boxes w N Z
 obtain ⟨g5,hg5⟩ : ∃ g,g = w.heap.size := ⟨_,rfl⟩
 obtain ⟨g7,hg7⟩ : ∃ g,g = w.heap.size + 1 + 1 := ⟨_,rfl⟩
 have inv0 : ScrInv w g5 g7 N l 0 none 0 W0 := by
  refine ⟨hb0,by omega,by rw [hg5]; exact e0,⟨none,0,0,some ⟨w.heap.size + 1,0,none⟩,N,N,start_in W0 N (by omega) Z hZ e1 _ ?_,by rw [hg7]; exact e2⟩,Cells.Owns.nil _ _ _⟩
  rintro (e | e | e)
  ·omega
  ·omega
  ·cases e
 have HN := Lib.hid hN
 have HI0 := Lib.hid inv0
 have HW0 := Lib.hid hW0
 have HA := Lib.hid hact
 have HG := Lib.hid (show g5 = w.heap.size ∧ g7 = w.heap.size + 1 + 1 from ⟨hg5,hg7⟩)
 have HG5 := Lib.hid hg5
 have HG7 := Lib.hid hg7
 clear hZ hZs hW0 hb0 hs0 e0 e1 e2 inv0 hact hg5 hg7
 go_enter Tryz.func10,Tryz.ntmps10
 go_wp2_with (go_at_call 16; refine (in_any _ _ _ _).mono ?_; rintro e w' ⟨rfl,rfl⟩)
 rw [← HW0.out,← HG7.out,← HG5.out]
 clear hmk
 go_loopw [8,9] (fun v i wr => ∃ (k : Nat) (A : Option Addr) (c : Nat),k ≤ l.length ∧ v = .slice A k c ∧ i = .int .i64 k ∧ ScrInv w g5 g7 N l k A c wr) (fun _ i _ => l.length - (intOf i).toNat)
 case atStart => exact ⟨0,none,0,Nat.zero_le _,rfl,rfl,HI0.out⟩
 case round =>
  obtain ⟨k,A,c,hk,rfl,rfl,hinv⟩ := hrel
  by_cases hm : k < l.length
  ·have hget : l[k]? = some (l.getD k default) := getD_some hm
   obtain ⟨a,ha⟩ : ∃ a,a = l.getD k default := ⟨_,rfl⟩
   rw [← ha] at hget
   have hactr : ActsAt wr (· < wr.heap.size) A0 l := HA.out.acts (fun b hb => Nat.lt_of_lt_of_le hb hinv.bel.size) (fun b k hb => hinv.bel.cell (p := ⟨b,k,none⟩) hb)
   obtain ⟨b,o,rfl,hbb,hat⟩ := SeqAt.at_ hactr hget
   obtain ⟨RA,n,rc,CA,m,cc,hwo,b7⟩ := hinv.wo
   obtain ⟨WO,hWO⟩ : ∃ WO,WO = runWo (startW N) (l.take k) := ⟨_,rfl⟩
   rw [← hWO] at hwo b7
   have d0 := hat.k
   have d1 := hat.c
   have d2 := hat.y
   have d3 := hat.v
   have hok := Lib.hid hat.ok
   obtain ⟨x0,x1,x2⟩ := b7.c3
   have h7 : g7 < wr.heap.size := b7.lt
   have hbb' : b < wr.heap.size := hbb
   obtain ⟨kind,ac,key,val⟩ := a
   dsimp only at d0 d1 d2 d3
   obtain ⟨Z1,hZ1⟩ : ∃ Z,Z = endW WO ⟨kind,ac,key,val⟩ := ⟨_,rfl⟩
   obtain ⟨F,⟨zc,zi,zv,zp,zt⟩,zE⟩ := Z1
   have HZ := Lib.hid hZ1.symm
   have HDID := Lib.hid (fun W (hW : Below wr.heap.size wr W) => did_any WO ⟨kind,ac,key,val⟩ RA n rc CA m cc W (hwo.upto hW).in_ hok.out.1 hok.out.2)
   have HC := Lib.hid (show ∀ W,Below wr.heap.size wr W → (fun W => (W.cell? ⟨g7,0,none⟩ = some (.slice RA n rc) ∧ W.cell? ⟨g7,1,none⟩ = some (.int .i64 WO.clock) ∧ W.cell? ⟨g7,2,none⟩ = some (.slice CA m cc)) ∧ W.cell? ⟨b,o + k * 4,none⟩ = some (.int .i64 kind) ∧ W.cell? ⟨b,o + k * 4 + 1,none⟩ = some (.int .i64 ac) ∧ W.cell? ⟨b,o + k * 4 + 2,none⟩ = some (.string key) ∧ W.cell? ⟨b,o + k * 4 + 3,none⟩ = some (.string val)) W from fun W hW => ⟨⟨(hW.cell (p := ⟨g7,0,none⟩) h7).trans x0,(hW.cell (p := ⟨g7,1,none⟩) h7).trans x1,(hW.cell (p := ⟨g7,2,none⟩) h7).trans x2⟩,(hW.cell (p := ⟨b,_,none⟩) hbb').trans d0,(hW.cell (p := ⟨b,_,none⟩) hbb').trans d1,(hW.cell (p := ⟨b,_,none⟩) hbb').trans d2,(hW.cell (p := ⟨b,_,none⟩) hbb').trans d3⟩)
   have HGET := Lib.hid hget
   have HV := Lib.hid hinv
   have HWO := Lib.hid hWO
   have HWI := Lib.hid hwo
   have B7 := Lib.hid b7
   have j0 : (0 : Int) ≤ (k : Int) := by omega
   have j1 : (k : Int) < (l.length : Int) := by omega
   clear ha hget hactr hat hinv hwo hWO hZ1 b7 hbb
   go_upto_region 10 with (fail)
   go_cut [10,11,12] (fun s10 s11 s12 wx => DidRel wr (F,⟨zc,zi,zv,zp,zt⟩,zE) s10 s11 s12 wx)
   case first =>
    refine wp_region_held_drew (S := fun W => (W.cell? ⟨g7,0,none⟩ = some (.slice RA n rc) ∧ W.cell? ⟨g7,1,none⟩ = some (.int .i64 WO.clock) ∧ W.cell? ⟨g7,2,none⟩ = some (.slice CA m cc)) ∧ W.cell? ⟨b,o + k * 4,none⟩ = some (.int .i64 kind) ∧ W.cell? ⟨b,o + k * 4 + 1,none⟩ = some (.int .i64 ac) ∧ W.cell? ⟨b,o + k * 4 + 2,none⟩ = some (.string key) ∧ W.cell? ⟨b,o + k * 4 + 3,none⟩ = some (.string val)) (by kernel_rfl) ?_ (fun hHeld => ?_)
    ·exact ⟨⟨x0,x1,x2⟩,d0,d1,d2,d3⟩
    refine tq 0 ?_
    refine tq 1 ?_
    refine tq 2 ?_
    refine tq 3 ?_
    refine tq 4 ?_
    refine cop3 5 10 11 (fun K hK => ?_) (fun K hK => ?_) (fun K hK => ?_)
    ·go_simp
     refine (HDID.out _ (below_drew (Below.refl _ _))).mono ?_
     rintro e w3 h3
     obtain ⟨hb3,RA3,n3,rc3,CA3,m3,cc3,rfl,hw3⟩ := did_x HZ.out h3
     dsimp only
     have HB3 := Lib.hid (show Below wr.heap.size wr w3 from below_next (below_drew (Below.refl _ _)) hb3)
     have HW3 := Lib.hid hw3
     clear h3 hb3 hw3 hHeld
     (refine hK.out _ _ ?_ (fun hHeld => ?_); exact HC.out w3 HB3.out; clear hK K)
     refine tq 6 ?_
     refine tq 7 ?_
     refine tq 8 ?_
     refine tq 9 ?_
     refine cop2 10 11 (fun K hK => ?_) (fun K hK => ?_)
     ·go_simp
      clear hHeld
      (refine hK.out _ _ ?_ (fun hHeld => ?_); exact HC.out _ (below_alloc HB3.out _); clear hK K)
      obtain ⟨WA,hWA⟩ : ∃ W,W = w3.alloc (.cells #[.slice none 0 0,.int .i64 0,.slice none 0 0] 25) := ⟨_,rfl⟩
      rw [← hWA] at hHeld ⊢
      obtain ⟨gA,hgA⟩ : ∃ g,g = w3.heap.size := ⟨_,rfl⟩
      rw [← hgA]
      have halA : Below w3.heap.size w3 WA := by rw [hWA]; exact below_alloc (Below.refl _ _) _
      have bA : BoxIs WA gA [.slice none 0 0,.int .i64 0,.slice none 0 0] := by rw [hWA,hgA]; exact BoxIs.new _ _ _
      have hgA' : wr.heap.size ≤ gA := by rw [hgA]; exact (HB3.out).size
      have HBA := Lib.hid (show Below wr.heap.size wr WA by rw [hWA]; exact below_alloc HB3.out _)
      have RA := Lib.hid (show w3.heap.size ≤ gA by rw [hgA]; exact Nat.le_refl _)
      have DA := Lib.hid (show Below w3.heap.size w3 WA from halA)
      have HWA := Lib.hid hWA
      have HGA := Lib.hid hgA
      clear hWA hgA halA
      (refine cop 11 (h := fun K hK => ?_); go_simp)
      clear hHeld
      (refine hK.out _ _ ?_ (fun hHeld => ?_); exact HC.out _ (below_alloc HBA.out _); clear hK K)
      obtain ⟨WB,hWB⟩ : ∃ W,W = WA.alloc (.cells #[.int .i64 0,.bool false,.string ⟨#[]⟩,.int .i64 0,.int .i64 0] 31) := ⟨_,rfl⟩
      rw [← hWB] at hHeld ⊢
      obtain ⟨gB,hgB⟩ : ∃ g,g = WA.heap.size := ⟨_,rfl⟩
      rw [← hgB]
      have halB : Below WA.heap.size WA WB := by rw [hWB]; exact below_alloc (Below.refl _ _) _
      have bB : BoxIs WB gB [.int .i64 0,.bool false,.string ⟨#[]⟩,.int .i64 0,.int .i64 0] := by rw [hWB,hgB]; exact BoxIs.new _ _ _
      have hgB' : wr.heap.size ≤ gB := by rw [hgB]; exact (HBA.out).size
      have nAB : gA ≠ gB := by have h1 := bA.lt; have h2 : gB = WA.heap.size := hgB; omega
      have bA := bA.upto halB
      have HBB := Lib.hid (show Below wr.heap.size wr WB by rw [hWB]; exact below_alloc HBA.out _)
      have RB := Lib.hid (show w3.heap.size ≤ gB by rw [hgB]; exact DA.out.size)
      have DB := Lib.hid (show Below w3.heap.size w3 WB from below_next DA.out halB)
      have HWB := Lib.hid hWB
      have HGB := Lib.hid hgB
      clear hWB hgB halB
      have nBA : gB ≠ gA := fun e => nAB e.symm
      obtain ⟨y0,y1,y2⟩ := bA.c3
      obtain ⟨yf0,yf1,yf2⟩ := bA.f3
      (refine cop 12 (h := fun K hK => ?_); go_simp)
      clear hHeld
      (refine hK.out _ _ ?_ (fun hHeld => ?_); exact HC.out _ (((HBB.out.setCell hgA' _).setCell hgA' _).setCell hgA' _); clear hK K)
      obtain ⟨Wg,hWg⟩ : ∃ W,W = ((WB.setCell ⟨gA,0,none⟩ (.slice RA3 n3 rc3)).setCell ⟨gA,1,none⟩ (.int .i64 F.clock)).setCell ⟨gA,2,none⟩ (.slice CA3 m3 cc3) := ⟨_,rfl⟩
      rw [← hWg] at hHeld ⊢
      have bB1 : BoxIs Wg gB [.int .i64 0,.bool false,.string ⟨#[]⟩,.int .i64 0,.int .i64 0] := by rw [hWg]; exact ((bB.other _ nBA).other _ nBA).other _ nBA
      have HBg := Lib.hid (show Below wr.heap.size wr Wg by rw [hWg]; exact ((HBB.out.setCell hgA' _).setCell hgA' _).setCell hgA' _)
      have HWG := Lib.hid hWg
      clear hWg y0 y1 y2 yf0 yf1 yf2
      obtain ⟨u0,u1,u2,u3,u4⟩ := bB1.c5
      obtain ⟨uf0,uf1,uf2,uf3,uf4⟩ := bB1.f5
      (refine cop 13 (h := fun K hK => ?_); go_simp)
      clear hHeld
      (refine hK.out _ _ ?_ (fun hHeld => ?_); exact HC.out _ (((((HBg.out.setCell hgB' _).setCell hgB' _).setCell hgB' _).setCell hgB' _).setCell hgB' _); clear hK K)
      refine tq 14 ?_
      refine wpAnyH_done (by kernel_rfl) ?_ _
      clear hHeld
      go_wp2_with fail
      go_meet
      exact scr_fin (x := ⟨zc,zi,zv,zp,zt⟩) (S := wr.drew.heap.size) (Wg := Wg) HW3.out DB.out (Nat.le_refl _) (.inr RA.out) (.inr RB.out) hgA' hgB' nAB bA bB HBB.out HWG.out
     ·go_simp
      clear hHeld
      (refine hK.out _ _ ?_ (fun hHeld => ?_); exact HC.out _ (below_alloc HB3.out _); clear hK K)
      obtain ⟨WB,hWB⟩ : ∃ W,W = w3.alloc (.cells #[.int .i64 0,.bool false,.string ⟨#[]⟩,.int .i64 0,.int .i64 0] 31) := ⟨_,rfl⟩
      rw [← hWB] at hHeld ⊢
      obtain ⟨gB,hgB⟩ : ∃ g,g = w3.heap.size := ⟨_,rfl⟩
      rw [← hgB]
      have halB : Below w3.heap.size w3 WB := by rw [hWB]; exact below_alloc (Below.refl _ _) _
      have bB : BoxIs WB gB [.int .i64 0,.bool false,.string ⟨#[]⟩,.int .i64 0,.int .i64 0] := by rw [hWB,hgB]; exact BoxIs.new _ _ _
      have hgB' : wr.heap.size ≤ gB := by rw [hgB]; exact (HB3.out).size
      have HBB := Lib.hid (show Below wr.heap.size wr WB by rw [hWB]; exact below_alloc HB3.out _)
      have RB := Lib.hid (show w3.heap.size ≤ gB by rw [hgB]; exact Nat.le_refl _)
      have DB := Lib.hid (show Below w3.heap.size w3 WB from halB)
      have HWB := Lib.hid hWB
      have HGB := Lib.hid hgB
      clear hWB hgB halB
      (refine cop 10 (h := fun K hK => ?_); go_simp)
      clear hHeld
      (refine hK.out _ _ ?_ (fun hHeld => ?_); exact HC.out _ (below_alloc HBB.out _); clear hK K)
      obtain ⟨WA,hWA⟩ : ∃ W,W = WB.alloc (.cells #[.slice none 0 0,.int .i64 0,.slice none 0 0] 25) := ⟨_,rfl⟩
      rw [← hWA] at hHeld ⊢
      obtain ⟨gA,hgA⟩ : ∃ g,g = WB.heap.size := ⟨_,rfl⟩
      rw [← hgA]
      have halA : Below WB.heap.size WB WA := by rw [hWA]; exact below_alloc (Below.refl _ _) _
      have bA : BoxIs WA gA [.slice none 0 0,.int .i64 0,.slice none 0 0] := by rw [hWA,hgA]; exact BoxIs.new _ _ _
      have hgA' : wr.heap.size ≤ gA := by rw [hgA]; exact (HBB.out).size
      have nBA : gB ≠ gA := by have h1 := bB.lt; have h2 : gA = WB.heap.size := hgA; omega
      have bB := bB.upto halA
      have HBA := Lib.hid (show Below wr.heap.size wr WA by rw [hWA]; exact below_alloc HBB.out _)
      have RA := Lib.hid (show w3.heap.size ≤ gA by rw [hgA]; exact DB.out.size)
      have DA := Lib.hid (show Below w3.heap.size w3 WA from below_next DB.out halA)
      have HWA := Lib.hid hWA
      have HGA := Lib.hid hgA
      clear hWA hgA halA
      have nAB : gA ≠ gB := fun e => nBA e.symm
      obtain ⟨y0,y1,y2⟩ := bA.c3
      obtain ⟨yf0,yf1,yf2⟩ := bA.f3
      (refine cop 12 (h := fun K hK => ?_); go_simp)
      clear hHeld
      (refine hK.out _ _ ?_ (fun hHeld => ?_); exact HC.out _ (((HBA.out.setCell hgA' _).setCell hgA' _).setCell hgA' _); clear hK K)
      obtain ⟨Wg,hWg⟩ : ∃ W,W = ((WA.setCell ⟨gA,0,none⟩ (.slice RA3 n3 rc3)).setCell ⟨gA,1,none⟩ (.int .i64 F.clock)).setCell ⟨gA,2,none⟩ (.slice CA3 m3 cc3) := ⟨_,rfl⟩
      rw [← hWg] at hHeld ⊢
      have bB1 : BoxIs Wg gB [.int .i64 0,.bool false,.string ⟨#[]⟩,.int .i64 0,.int .i64 0] := by rw [hWg]; exact ((bB.other _ nBA).other _ nBA).other _ nBA
      have HBg := Lib.hid (show Below wr.heap.size wr Wg by rw [hWg]; exact ((HBA.out.setCell hgA' _).setCell hgA' _).setCell hgA' _)
      have HWG := Lib.hid hWg
      clear hWg y0 y1 y2 yf0 yf1 yf2
      obtain ⟨u0,u1,u2,u3,u4⟩ := bB1.c5
      obtain ⟨uf0,uf1,uf2,uf3,uf4⟩ := bB1.f5
      (refine cop 13 (h := fun K hK => ?_); go_simp)
      clear hHeld
      (refine hK.out _ _ ?_ (fun hHeld => ?_); exact HC.out _ (((((HBg.out.setCell hgB' _).setCell hgB' _).setCell hgB' _).setCell hgB' _).setCell hgB' _); clear hK K)
      refine tq 14 ?_
      refine wpAnyH_done (by kernel_rfl) ?_ _
      clear hHeld
      go_wp2_with fail
      go_meet
      exact scr_fin (x := ⟨zc,zi,zv,zp,zt⟩) (S := wr.drew.heap.size) (Wg := Wg) HW3.out DA.out (Nat.le_refl _) (.inr RA.out) (.inr RB.out) hgA' hgB' nAB bA bB HBA.out HWG.out
    ·go_simp
     clear hHeld
     (refine hK.out _ _ ?_ (fun hHeld => ?_); exact HC.out _ (below_alloc (below_drew (Below.refl _ _)) _); clear hK K)
     obtain ⟨WA,hWA⟩ : ∃ W,W = (wr.alloc (.cells #[.slice none 0 0,.int .i64 0,.slice none 0 0] 25)).drew := ⟨_,rfl⟩
     rw [← hWA] at hHeld ⊢
     obtain ⟨gA,hgA⟩ : ∃ g,g = wr.heap.size := ⟨_,rfl⟩
     rw [← hgA]
     have halA : Below wr.heap.size wr WA := by rw [hWA]; exact below_drew (below_alloc (Below.refl _ _) _)
     have bA : BoxIs WA gA [.slice none 0 0,.int .i64 0,.slice none 0 0] := by rw [hWA,hgA]; exact (BoxIs.new wr _ _).blk rfl
     have hgA' : wr.heap.size ≤ gA := by rw [hgA]; exact ((below_drew (Below.refl _ _))).size
     have HBA := Lib.hid (show Below wr.heap.size wr WA by rw [hWA]; exact below_drew (below_alloc (Below.refl _ _) _))
     have LA := Lib.hid (show gA < WA.heap.size from bA.lt)
     have HWA := Lib.hid hWA
     have HGA := Lib.hid hgA
     clear hWA hgA halA
     refine cop2 5 11 (fun K hK => ?_) (fun K hK => ?_)
     ·go_simp
      refine (HDID.out _ HBA.out).mono ?_
      rintro e w3 h3
      obtain ⟨hb3,RA3,n3,rc3,CA3,m3,cc3,rfl,hw3⟩ := did_x HZ.out h3
      dsimp only
      have HB3 := Lib.hid (show Below wr.heap.size wr w3 from below_next HBA.out hb3)
      have HW3 := Lib.hid hw3
      have bA := bA.upto hb3
      clear h3 hb3 hw3 hHeld
      (refine hK.out _ _ ?_ (fun hHeld => ?_); exact HC.out w3 HB3.out; clear hK K)
      refine tq 6 ?_
      refine tq 7 ?_
      refine tq 8 ?_
      refine tq 9 ?_
      (refine cop 11 (h := fun K hK => ?_); go_simp)
      clear hHeld
      (refine hK.out _ _ ?_ (fun hHeld => ?_); exact HC.out _ (below_alloc HB3.out _); clear hK K)
      obtain ⟨WB,hWB⟩ : ∃ W,W = w3.alloc (.cells #[.int .i64 0,.bool false,.string ⟨#[]⟩,.int .i64 0,.int .i64 0] 31) := ⟨_,rfl⟩
      rw [← hWB] at hHeld ⊢
      obtain ⟨gB,hgB⟩ : ∃ g,g = w3.heap.size := ⟨_,rfl⟩
      rw [← hgB]
      have halB : Below w3.heap.size w3 WB := by rw [hWB]; exact below_alloc (Below.refl _ _) _
      have bB : BoxIs WB gB [.int .i64 0,.bool false,.string ⟨#[]⟩,.int .i64 0,.int .i64 0] := by rw [hWB,hgB]; exact BoxIs.new _ _ _
      have hgB' : wr.heap.size ≤ gB := by rw [hgB]; exact (HB3.out).size
      have nAB : gA ≠ gB := by have h1 := bA.lt; have h2 : gB = w3.heap.size := hgB; omega
      have bA := bA.upto halB
      have HBB := Lib.hid (show Below wr.heap.size wr WB by rw [hWB]; exact below_alloc HB3.out _)
      have RB := Lib.hid (show w3.heap.size ≤ gB by rw [hgB]; exact Nat.le_refl _)
      have DB := Lib.hid (show Below w3.heap.size w3 WB from halB)
      have HWB := Lib.hid hWB
      have HGB := Lib.hid hgB
      clear hWB hgB halB
      have nBA : gB ≠ gA := fun e => nAB e.symm
      obtain ⟨y0,y1,y2⟩ := bA.c3
      obtain ⟨yf0,yf1,yf2⟩ := bA.f3
      (refine cop 12 (h := fun K hK => ?_); go_simp)
      clear hHeld
      (refine hK.out _ _ ?_ (fun hHeld => ?_); exact HC.out _ (((HBB.out.setCell hgA' _).setCell hgA' _).setCell hgA' _); clear hK K)
      obtain ⟨Wg,hWg⟩ : ∃ W,W = ((WB.setCell ⟨gA,0,none⟩ (.slice RA3 n3 rc3)).setCell ⟨gA,1,none⟩ (.int .i64 F.clock)).setCell ⟨gA,2,none⟩ (.slice CA3 m3 cc3) := ⟨_,rfl⟩
      rw [← hWg] at hHeld ⊢
      have bB1 : BoxIs Wg gB [.int .i64 0,.bool false,.string ⟨#[]⟩,.int .i64 0,.int .i64 0] := by rw [hWg]; exact ((bB.other _ nBA).other _ nBA).other _ nBA
      have HBg := Lib.hid (show Below wr.heap.size wr Wg by rw [hWg]; exact ((HBB.out.setCell hgA' _).setCell hgA' _).setCell hgA' _)
      have HWG := Lib.hid hWg
      clear hWg y0 y1 y2 yf0 yf1 yf2
      obtain ⟨u0,u1,u2,u3,u4⟩ := bB1.c5
      obtain ⟨uf0,uf1,uf2,uf3,uf4⟩ := bB1.f5
      (refine cop 13 (h := fun K hK => ?_); go_simp)
      clear hHeld
      (refine hK.out _ _ ?_ (fun hHeld => ?_); exact HC.out _ (((((HBg.out.setCell hgB' _).setCell hgB' _).setCell hgB' _).setCell hgB' _).setCell hgB' _); clear hK K)
      refine tq 14 ?_
      refine wpAnyH_done (by kernel_rfl) ?_ _
      clear hHeld
      go_wp2_with fail
      go_meet
      exact scr_fin (x := ⟨zc,zi,zv,zp,zt⟩) (S := WA.heap.size) (Wg := Wg) HW3.out DB.out HBA.out.size (.inl LA.out) (.inr RB.out) hgA' hgB' nAB bA bB HBB.out HWG.out
     ·go_simp
      clear hHeld
      (refine hK.out _ _ ?_ (fun hHeld => ?_); exact HC.out _ (below_alloc HBA.out _); clear hK K)
      obtain ⟨WB,hWB⟩ : ∃ W,W = WA.alloc (.cells #[.int .i64 0,.bool false,.string ⟨#[]⟩,.int .i64 0,.int .i64 0] 31) := ⟨_,rfl⟩
      rw [← hWB] at hHeld ⊢
      obtain ⟨gB,hgB⟩ : ∃ g,g = WA.heap.size := ⟨_,rfl⟩
      rw [← hgB]
      have halB : Below WA.heap.size WA WB := by rw [hWB]; exact below_alloc (Below.refl _ _) _
      have bB : BoxIs WB gB [.int .i64 0,.bool false,.string ⟨#[]⟩,.int .i64 0,.int .i64 0] := by rw [hWB,hgB]; exact BoxIs.new _ _ _
      have hgB' : wr.heap.size ≤ gB := by rw [hgB]; exact (HBA.out).size
      have nAB : gA ≠ gB := by have h1 := bA.lt; have h2 : gB = WA.heap.size := hgB; omega
      have bA := bA.upto halB
      have HBB := Lib.hid (show Below wr.heap.size wr WB by rw [hWB]; exact below_alloc HBA.out _)
      have LB := Lib.hid (show gB < WB.heap.size from bB.lt)
      have LA := Lib.hid (show gA < WB.heap.size from bA.lt)
      have HWB := Lib.hid hWB
      have HGB := Lib.hid hgB
      clear hWB hgB halB
      (refine cop 5 (h := fun K hK => ?_); go_simp)
      refine (HDID.out _ HBB.out).mono ?_
      rintro e w3 h3
      obtain ⟨hb3,RA3,n3,rc3,CA3,m3,cc3,rfl,hw3⟩ := did_x HZ.out h3
      dsimp only
      have HB3 := Lib.hid (show Below wr.heap.size wr w3 from below_next HBB.out hb3)
      have HW3 := Lib.hid hw3
      have bA := bA.upto hb3
      have bB := bB.upto hb3
      clear h3 hb3 hw3 hHeld
      (refine hK.out _ _ ?_ (fun hHeld => ?_); exact HC.out w3 HB3.out; clear hK K)
      refine tq 6 ?_
      refine tq 7 ?_
      refine tq 8 ?_
      refine tq 9 ?_
      have nBA : gB ≠ gA := fun e => nAB e.symm
      obtain ⟨y0,y1,y2⟩ := bA.c3
      obtain ⟨yf0,yf1,yf2⟩ := bA.f3
      (refine cop 12 (h := fun K hK => ?_); go_simp)
      clear hHeld
      (refine hK.out _ _ ?_ (fun hHeld => ?_); exact HC.out _ (((HB3.out.setCell hgA' _).setCell hgA' _).setCell hgA' _); clear hK K)
      obtain ⟨Wg,hWg⟩ : ∃ W,W = ((w3.setCell ⟨gA,0,none⟩ (.slice RA3 n3 rc3)).setCell ⟨gA,1,none⟩ (.int .i64 F.clock)).setCell ⟨gA,2,none⟩ (.slice CA3 m3 cc3) := ⟨_,rfl⟩
      rw [← hWg] at hHeld ⊢
      have bB1 : BoxIs Wg gB [.int .i64 0,.bool false,.string ⟨#[]⟩,.int .i64 0,.int .i64 0] := by rw [hWg]; exact ((bB.other _ nBA).other _ nBA).other _ nBA
      have HBg := Lib.hid (show Below wr.heap.size wr Wg by rw [hWg]; exact ((HB3.out.setCell hgA' _).setCell hgA' _).setCell hgA' _)
      have HWG := Lib.hid hWg
      clear hWg y0 y1 y2 yf0 yf1 yf2
      obtain ⟨u0,u1,u2,u3,u4⟩ := bB1.c5
      obtain ⟨uf0,uf1,uf2,uf3,uf4⟩ := bB1.f5
      (refine cop 13 (h := fun K hK => ?_); go_simp)
      clear hHeld
      (refine hK.out _ _ ?_ (fun hHeld => ?_); exact HC.out _ (((((HBg.out.setCell hgB' _).setCell hgB' _).setCell hgB' _).setCell hgB' _).setCell hgB' _); clear hK K)
      refine tq 14 ?_
      refine wpAnyH_done (by kernel_rfl) ?_ _
      clear hHeld
      go_wp2_with fail
      go_meet
      exact scr_fin (x := ⟨zc,zi,zv,zp,zt⟩) (S := WB.heap.size) (Wg := Wg) HW3.out (Below.refl _ _) HBB.out.size (.inl LA.out) (.inl LB.out) hgA' hgB' nAB bA bB HB3.out HWG.out
    ·go_simp
     clear hHeld
     (refine hK.out _ _ ?_ (fun hHeld => ?_); exact HC.out _ (below_alloc (below_drew (Below.refl _ _)) _); clear hK K)
     obtain ⟨WB,hWB⟩ : ∃ W,W = (wr.alloc (.cells #[.int .i64 0,.bool false,.string ⟨#[]⟩,.int .i64 0,.int .i64 0] 31)).drew := ⟨_,rfl⟩
     rw [← hWB] at hHeld ⊢
     obtain ⟨gB,hgB⟩ : ∃ g,g = wr.heap.size := ⟨_,rfl⟩
     rw [← hgB]
     have halB : Below wr.heap.size wr WB := by rw [hWB]; exact below_drew (below_alloc (Below.refl _ _) _)
     have bB : BoxIs WB gB [.int .i64 0,.bool false,.string ⟨#[]⟩,.int .i64 0,.int .i64 0] := by rw [hWB,hgB]; exact (BoxIs.new wr _ _).blk rfl
     have hgB' : wr.heap.size ≤ gB := by rw [hgB]; exact ((below_drew (Below.refl _ _))).size
     have HBB := Lib.hid (show Below wr.heap.size wr WB by rw [hWB]; exact below_drew (below_alloc (Below.refl _ _) _))
     have LB := Lib.hid (show gB < WB.heap.size from bB.lt)
     have HWB := Lib.hid hWB
     have HGB := Lib.hid hgB
     clear hWB hgB halB
     refine cop2 5 10 (fun K hK => ?_) (fun K hK => ?_)
     ·go_simp
      refine (HDID.out _ HBB.out).mono ?_
      rintro e w3 h3
      obtain ⟨hb3,RA3,n3,rc3,CA3,m3,cc3,rfl,hw3⟩ := did_x HZ.out h3
      dsimp only
      have HB3 := Lib.hid (show Below wr.heap.size wr w3 from below_next HBB.out hb3)
      have HW3 := Lib.hid hw3
      have bB := bB.upto hb3
      clear h3 hb3 hw3 hHeld
      (refine hK.out _ _ ?_ (fun hHeld => ?_); exact HC.out w3 HB3.out; clear hK K)
      refine tq 6 ?_
      refine tq 7 ?_
      refine tq 8 ?_
      refine tq 9 ?_
      (refine cop 10 (h := fun K hK => ?_); go_simp)
      clear hHeld
      (refine hK.out _ _ ?_ (fun hHeld => ?_); exact HC.out _ (below_alloc HB3.out _); clear hK K)
      obtain ⟨WA,hWA⟩ : ∃ W,W = w3.alloc (.cells #[.slice none 0 0,.int .i64 0,.slice none 0 0] 25) := ⟨_,rfl⟩
      rw [← hWA] at hHeld ⊢
      obtain ⟨gA,hgA⟩ : ∃ g,g = w3.heap.size := ⟨_,rfl⟩
      rw [← hgA]
      have halA : Below w3.heap.size w3 WA := by rw [hWA]; exact below_alloc (Below.refl _ _) _
      have bA : BoxIs WA gA [.slice none 0 0,.int .i64 0,.slice none 0 0] := by rw [hWA,hgA]; exact BoxIs.new _ _ _
      have hgA' : wr.heap.size ≤ gA := by rw [hgA]; exact (HB3.out).size
      have nBA : gB ≠ gA := by have h1 := bB.lt; have h2 : gA = w3.heap.size := hgA; omega
      have bB := bB.upto halA
      have HBA := Lib.hid (show Below wr.heap.size wr WA by rw [hWA]; exact below_alloc HB3.out _)
      have RA := Lib.hid (show w3.heap.size ≤ gA by rw [hgA]; exact Nat.le_refl _)
      have DA := Lib.hid (show Below w3.heap.size w3 WA from halA)
      have HWA := Lib.hid hWA
      have HGA := Lib.hid hgA
      clear hWA hgA halA
      have nAB : gA ≠ gB := fun e => nBA e.symm
      obtain ⟨y0,y1,y2⟩ := bA.c3
      obtain ⟨yf0,yf1,yf2⟩ := bA.f3
      (refine cop 12 (h := fun K hK => ?_); go_simp)
      clear hHeld
      (refine hK.out _ _ ?_ (fun hHeld => ?_); exact HC.out _ (((HBA.out.setCell hgA' _).setCell hgA' _).setCell hgA' _); clear hK K)
      obtain ⟨Wg,hWg⟩ : ∃ W,W = ((WA.setCell ⟨gA,0,none⟩ (.slice RA3 n3 rc3)).setCell ⟨gA,1,none⟩ (.int .i64 F.clock)).setCell ⟨gA,2,none⟩ (.slice CA3 m3 cc3) := ⟨_,rfl⟩
      rw [← hWg] at hHeld ⊢
      have bB1 : BoxIs Wg gB [.int .i64 0,.bool false,.string ⟨#[]⟩,.int .i64 0,.int .i64 0] := by rw [hWg]; exact ((bB.other _ nBA).other _ nBA).other _ nBA
      have HBg := Lib.hid (show Below wr.heap.size wr Wg by rw [hWg]; exact ((HBA.out.setCell hgA' _).setCell hgA' _).setCell hgA' _)
      have HWG := Lib.hid hWg
      clear hWg y0 y1 y2 yf0 yf1 yf2
      obtain ⟨u0,u1,u2,u3,u4⟩ := bB1.c5
      obtain ⟨uf0,uf1,uf2,uf3,uf4⟩ := bB1.f5
      (refine cop 13 (h := fun K hK => ?_); go_simp)
      clear hHeld
      (refine hK.out _ _ ?_ (fun hHeld => ?_); exact HC.out _ (((((HBg.out.setCell hgB' _).setCell hgB' _).setCell hgB' _).setCell hgB' _).setCell hgB' _); clear hK K)
      refine tq 14 ?_
      refine wpAnyH_done (by kernel_rfl) ?_ _
      clear hHeld
      go_wp2_with fail
      go_meet
      exact scr_fin (x := ⟨zc,zi,zv,zp,zt⟩) (S := WB.heap.size) (Wg := Wg) HW3.out DA.out HBB.out.size (.inr RA.out) (.inl LB.out) hgA' hgB' nAB bA bB HBA.out HWG.out
     ·go_simp
      clear hHeld
      (refine hK.out _ _ ?_ (fun hHeld => ?_); exact HC.out _ (below_alloc HBB.out _); clear hK K)
      obtain ⟨WA,hWA⟩ : ∃ W,W = WB.alloc (.cells #[.slice none 0 0,.int .i64 0,.slice none 0 0] 25) := ⟨_,rfl⟩
      rw [← hWA] at hHeld ⊢
      obtain ⟨gA,hgA⟩ : ∃ g,g = WB.heap.size := ⟨_,rfl⟩
      rw [← hgA]
      have halA : Below WB.heap.size WB WA := by rw [hWA]; exact below_alloc (Below.refl _ _) _
      have bA : BoxIs WA gA [.slice none 0 0,.int .i64 0,.slice none 0 0] := by rw [hWA,hgA]; exact BoxIs.new _ _ _
      have hgA' : wr.heap.size ≤ gA := by rw [hgA]; exact (HBB.out).size
      have nBA : gB ≠ gA := by have h1 := bB.lt; have h2 : gA = WB.heap.size := hgA; omega
      have bB := bB.upto halA
      have HBA := Lib.hid (show Below wr.heap.size wr WA by rw [hWA]; exact below_alloc HBB.out _)
      have LA := Lib.hid (show gA < WA.heap.size from bA.lt)
      have LB := Lib.hid (show gB < WA.heap.size from bB.lt)
      have HWA := Lib.hid hWA
      have HGA := Lib.hid hgA
      clear hWA hgA halA
      (refine cop 5 (h := fun K hK => ?_); go_simp)
      refine (HDID.out _ HBA.out).mono ?_
      rintro e w3 h3
      obtain ⟨hb3,RA3,n3,rc3,CA3,m3,cc3,rfl,hw3⟩ := did_x HZ.out h3
      dsimp only
      have HB3 := Lib.hid (show Below wr.heap.size wr w3 from below_next HBA.out hb3)
      have HW3 := Lib.hid hw3
      have bB := bB.upto hb3
      have bA := bA.upto hb3
      clear h3 hb3 hw3 hHeld
      (refine hK.out _ _ ?_ (fun hHeld => ?_); exact HC.out w3 HB3.out; clear hK K)
      refine tq 6 ?_
      refine tq 7 ?_
      refine tq 8 ?_
      refine tq 9 ?_
      have nAB : gA ≠ gB := fun e => nBA e.symm
      obtain ⟨y0,y1,y2⟩ := bA.c3
      obtain ⟨yf0,yf1,yf2⟩ := bA.f3
      (refine cop 12 (h := fun K hK => ?_); go_simp)
      clear hHeld
      (refine hK.out _ _ ?_ (fun hHeld => ?_); exact HC.out _ (((HB3.out.setCell hgA' _).setCell hgA' _).setCell hgA' _); clear hK K)
      obtain ⟨Wg,hWg⟩ : ∃ W,W = ((w3.setCell ⟨gA,0,none⟩ (.slice RA3 n3 rc3)).setCell ⟨gA,1,none⟩ (.int .i64 F.clock)).setCell ⟨gA,2,none⟩ (.slice CA3 m3 cc3) := ⟨_,rfl⟩
      rw [← hWg] at hHeld ⊢
      have bB1 : BoxIs Wg gB [.int .i64 0,.bool false,.string ⟨#[]⟩,.int .i64 0,.int .i64 0] := by rw [hWg]; exact ((bB.other _ nBA).other _ nBA).other _ nBA
      have HBg := Lib.hid (show Below wr.heap.size wr Wg by rw [hWg]; exact ((HB3.out.setCell hgA' _).setCell hgA' _).setCell hgA' _)
      have HWG := Lib.hid hWg
      clear hWg y0 y1 y2 yf0 yf1 yf2
      obtain ⟨u0,u1,u2,u3,u4⟩ := bB1.c5
      obtain ⟨uf0,uf1,uf2,uf3,uf4⟩ := bB1.f5
      (refine cop 13 (h := fun K hK => ?_); go_simp)
      clear hHeld
      (refine hK.out _ _ ?_ (fun hHeld => ?_); exact HC.out _ (((((HBg.out.setCell hgB' _).setCell hgB' _).setCell hgB' _).setCell hgB' _).setCell hgB' _); clear hK K)
      refine tq 14 ?_
      refine wpAnyH_done (by kernel_rfl) ?_ _
      clear hHeld
      go_wp2_with fail
      go_meet
      exact scr_fin (x := ⟨zc,zi,zv,zp,zt⟩) (S := WA.heap.size) (Wg := Wg) HW3.out (Below.refl _ _) HBA.out.size (.inl LA.out) (.inl LB.out) hgA' hgB' nAB bA bB HB3.out HWG.out
   case rest =>
   obtain ⟨gA,gB,RA3,n3,rc3,CA3,m3,cc3,rfl,rfl,rfl,nAB,hgA,hgB,bA,bB,hbx,hwx⟩ := hcut
   dsimp only at bA bB hwx
   have HLN := Lib.hid (RunInv.len (N := N) HGET.out)
   have h7x : g7 < wc.heap.size := Nat.lt_of_lt_of_le h7 hbx.size
   have nA7 : gA ≠ g7 := by omega
   have nB7 : gB ≠ g7 := by omega
   have n7A : g7 ≠ gA := by omega
   have n7B : g7 ≠ gB := by omega
   have hBw := HV.out.bel.size
   have hg7 := HV.out.g
   have b7 := B7.out.upto hbx
   obtain ⟨x0,x1,x2⟩ := b7.c3
   obtain ⟨xf0,xf1,xf2⟩ := b7.f3
   obtain ⟨y0,y1,y2⟩ := bA.c3
   obtain ⟨u0,u1,u2,u3,u4⟩ := bB.c5
   obtain ⟨uf0,uf1,uf2,uf3,uf4⟩ := bB.f5
   have HBX := Lib.hid hbx
   have HWX := Lib.hid hwx
   have HOW := Lib.hid (HV.out.own.kept hbx)
   clear hbx hwx
   by_cases hE : zE = 0
   ·have q0 : (zE == 0) = true := beq_iff_eq.2 hE
    have HRA := Lib.hid (show runA (runWo (startW N) (l.take k)) ⟨kind,ac,key,val⟩ = (F,⟨zc,zi,zv,zp,zt⟩) by
     have hz := HZ.out
     rw [HWO.out] at hz
     unfold endW at hz
     by_cases h0 : actE (runWo (startW N) (l.take k)) ⟨kind,ac,key,val⟩ = 0
     ·rw [if_pos h0] at hz
      injection hz with i1 i2
      injection i2 with i2 i3
      rw [runA,if_pos h0,← i1,← i2]
     ·rw [if_neg h0] at hz
      injection hz with i1 i2
      injection i2 with i2 i3
      exact absurd (i3.trans hE) h0)
    obtain ⟨V,hV⟩ : ∃ V,V = ((wc.setCell ⟨g7,0,none⟩ (.slice RA3 n3 rc3)).setCell ⟨g7,1,none⟩ (.int .i64 F.clock)).setCell ⟨g7,2,none⟩ (.slice CA3 m3 cc3) := ⟨_,rfl⟩
    have kV : ∀ b,b ≠ g7 → V.heap[b]? = wc.heap[b]? := fun b h => by rw [hV,Below.heap_setCell _ _ _ _ h,Below.heap_setCell _ _ _ _ h,Below.heap_setCell _ _ _ _ h]
    have sV : V.heap.size = wc.heap.size := by rw [hV]; simp
    have HB7 := Lib.hid (show BoxIs V g7 [.slice RA3 n3 rc3,.int .i64 F.clock,.slice CA3 m3 cc3] by rw [hV]; exact ((b7.set 0 _).set 1 _).set 2 _)
    have bB := bB.blk (kV gB nB7)
    have HVk := Lib.hid (fun b (hb : b < wr.heap.size) (hn : b ≠ g7) => (kV b hn).trans (HBX.out.block b hb))
    have HVs := Lib.hid (show wr.heap.size ≤ V.heap.size by rw [sV]; exact HBX.out.size)
    have HVB := Lib.hid (show Below w.heap.size w V by
     have l7 : w.heap.size ≤ g7 := by omega
     rw [hV]; exact (((below_next HV.out.bel HBX.out).setCell l7 _).setCell l7 _).setCell l7 _)
    have HF := Lib.hid (show WoInX V (fun b => b = g5 ∨ b = g7 ∨ (Value.slice A k c).ownBlock = some b) RA3 n3 rc3 CA3 m3 cc3 F from (HWX.out hE).move (by omega) (fun b hb hx => kV b (fun e => hx (.inl (by omega)))) (fun b hb hx => by
     rintro (e | e | e)
     ·exact hx (.inl (by omega))
     ·exact hx (.inl (by omega))
     ·exact hx (.inl (World.ownsRow.lt HV.out.own b e).2)))
    have HAP := Lib.hid (fun ty => app_ans (ty := ty) V (g7 + 1) c k A (runAns (startW N) (l.take k)) ⟨zc,zi,zv,zp,zt⟩ HLN.out.symm (HOW.out.blk fun g h1 _ => kV g (by omega)) (by have := HLN.out; omega) (by omega))
    have HVV := Lib.hid hV
    have n75 : g5 ≠ g7 := by omega
    obtain ⟨u0,u1,u2,u3,u4⟩ := bB.c5
    clear kV sV hg7 hBw b7 bA hV
    go_upto_region 14 with (fail)
    rw [← HVV.out]
    clear x0 x1 x2 xf0 xf1 xf2 y0 y1 y2
    go_wp2_with (at_builtin; refine (wpList_append_run _ rfl (.tmp 45) (.tmp 47) 37 rfl (.slice A k c) (.slice (some ⟨V.heap.size,0,none⟩) 1 1) rfl rfl (HAP.out _) ?_); rintro v6 w6 ⟨A6,c6,rfl,hown6,e6,s6,hb6,o6⟩)
    go_roundw
    case rel => exact ⟨k + 1,A6,c6,by omega,by go_num,by go_num,HV.out.next HGET.out HVk.out HVs.out HVB.out HRA.out HB7.out HF.out hown6 e6 s6 hb6 o6⟩
    case measure => simp [intOf]; omega
   ·have q0 : (zE == 0) = false := beq_eq_false_iff_ne.2 hE
    have HRA := Lib.hid (show runA (runWo (startW N) (l.take k)) ⟨kind,ac,key,val⟩ = (WO,ansCode zE) by
     have hz := HZ.out
     rw [HWO.out] at hz
     unfold endW at hz
     by_cases h0 : actE (runWo (startW N) (l.take k)) ⟨kind,ac,key,val⟩ = 0
     ·rw [if_pos h0] at hz
      injection hz with i1 i2
      injection i2 with i2 i3
      exact absurd i3.symm hE
     ·rw [if_neg h0] at hz
      injection hz with i1 i2
      injection i2 with i2 i3
      rw [runA,if_neg h0,i3,HWO.out])
    obtain ⟨V,hV⟩ : ∃ V,V = ((((wc.setCell ⟨gB,0,none⟩ (.int .i64 zE)).setCell ⟨gB,1,none⟩ (.bool false)).setCell ⟨gB,2,none⟩ (.string ⟨#[]⟩)).setCell ⟨gB,3,none⟩ (.int .i64 0)).setCell ⟨gB,4,none⟩ (.int .i64 0) := ⟨_,rfl⟩
    have kV : ∀ b,b ≠ gB → V.heap[b]? = wc.heap[b]? := fun b h => by rw [hV,Below.heap_setCell _ _ _ _ h,Below.heap_setCell _ _ _ _ h,Below.heap_setCell _ _ _ _ h,Below.heap_setCell _ _ _ _ h,Below.heap_setCell _ _ _ _ h]
    have sV : V.heap.size = wc.heap.size := by rw [hV]; simp
    have bB : BoxIs V gB [.int .i64 zE,.bool false,.string ⟨#[]⟩,.int .i64 0,.int .i64 0] := by rw [hV]; exact ((((bB.set 0 _).set 1 _).set 2 _).set 3 _).set 4 _
    have kW : ∀ b,b < wr.heap.size → V.heap[b]? = wr.heap[b]? := fun b hb => (kV b (by omega)).trans (HBX.out.block b hb)
    have HB7 := Lib.hid (B7.out.blk (kW g7 h7))
    have HVk := Lib.hid (fun b (hb : b < wr.heap.size) (hn : b ≠ g7) => kW b hb)
    have HVs := Lib.hid (show wr.heap.size ≤ V.heap.size by rw [sV]; exact HBX.out.size)
    have HVB := Lib.hid (show Below w.heap.size w V by
     have l7 : w.heap.size ≤ gB := by omega
     rw [hV]; exact (((((below_next HV.out.bel HBX.out).setCell l7 _).setCell l7 _).setCell l7 _).setCell l7 _).setCell l7 _)
    have HF := Lib.hid (show WoInX V (fun b => b = g5 ∨ b = g7 ∨ (Value.slice A k c).ownBlock = some b) RA n rc CA m cc WO from HWI.out.move HVs.out (fun b hb hx => kW b hb) (fun b hb hx => hx))
    have HAP := Lib.hid (fun ty => app_ans (ty := ty) V (g7 + 1) c k A (runAns (startW N) (l.take k)) (ansCode zE) HLN.out.symm (HV.out.own.blk fun g h1 h2 => kW g h2) (by have := HLN.out; omega) (by omega))
    have HVV := Lib.hid hV
    obtain ⟨v0,v1,v2,v3,v4⟩ := bB.c5
    clear kV kW sV hg7 hBw b7 bA hV x0 x1 x2 xf0 xf1 xf2 y0 y1 y2
    go_upto_region 14 with (fail)
    rw [← HVV.out]
    clear u0 u1 u2 u3 u4 uf0 uf1 uf2 uf3 uf4
    go_wp2_with (at_builtin; refine (wpList_append_run _ rfl (.tmp 45) (.tmp 47) 37 rfl (.slice A k c) (.slice (some ⟨V.heap.size,0,none⟩) 1 1) rfl rfl (HAP.out _) ?_); rintro v6 w6 ⟨A6,c6,rfl,hown6,e6,s6,hb6,o6⟩)
    go_roundw
    case rel => exact ⟨k + 1,A6,c6,by omega,by go_num,by go_num,HV.out.next HGET.out HVk.out HVs.out HVB.out HRA.out HB7.out HF.out hown6 e6 s6 hb6 o6⟩
    case measure => simp [intOf]; omega
  ·have hke : k = l.length := by omega
   subst hke
   have htk : l.take l.length = l := List.take_length
   obtain ⟨RA,n,rc,CA,m,cc,hwo,b7⟩ := hinv.wo
   have hown := hinv.own
   rw [htk] at hwo b7 hown
   obtain ⟨WO,hWO⟩ : ∃ WO,WO = runWo (startW N) l := ⟨_,rfl⟩
   rw [← hWO] at hwo b7
   have hlen : (runAns (startW N) l).length = l.length := runAns_length _ _
   have hg := hinv.g
   have n57 : g5 ≠ g7 := by omega
   have n75 : g7 ≠ g5 := by omega
   obtain ⟨r0,r1,r2⟩ := hinv.r.c3
   obtain ⟨rf0,rf1,rf2⟩ := hinv.r.f3
   obtain ⟨x0,x1,x2⟩ := b7.c3
   obtain ⟨V,hV⟩ : ∃ V,V = ((wr.setCell ⟨g5,0,none⟩ (.slice RA n rc)).setCell ⟨g5,1,none⟩ (.int .i64 WO.clock)).setCell ⟨g5,2,none⟩ (.slice CA m cc) := ⟨_,rfl⟩
   have bV : BoxIs V g5 [.slice RA n rc,.int .i64 WO.clock,.slice CA m cc] := by rw [hV]; exact ((hinv.r.set 0 _).set 1 _).set 2 _
   have kV : ∀ b,b ≠ g5 → V.heap[b]? = wr.heap[b]? := fun b h => by rw [hV,Below.heap_setCell _ _ _ _ h,Below.heap_setCell _ _ _ _ h,Below.heap_setCell _ _ _ _ h]
   have sV : V.heap.size = wr.heap.size := by rw [hV]; simp
   have HVB := Lib.hid (show Below w.heap.size w V.drew by rw [hV]; exact below_drew (((hinv.bel.setCell hg.1 _).setCell hg.1 _).setCell hg.1 _))
   have HF := Lib.hid (show WoIn V.drew RA n rc CA m cc WO from (hwo.move (w' := V.drew) (X' := fun _ => False) (Nat.le_of_eq sV.symm) (fun b hb hx => kV b (fun e => hx (.inl e))) (fun b _ _ h => h)).in_)
   have hoV : OwnsAns V.drew (g7 + 1) (.slice A l.length c) (runAns (startW N) l) := hown.blk (w' := V.drew) fun g h1 _ => kV g (by omega)
   obtain ⟨A',c',hv,hc',hsq⟩ := hoV.at_ (mx := 1000) (by omega)
   injection hv with i1 _ i3
   subst i1 i3
   have HSQ := Lib.hid (show SeqAt (fun b => b < V.drew.heap.size) 5 1000 (AnsAt V.drew) A (runAns (startW N) l) from hsq.mono (fun b hb => hb.2) (fun b o x _ _ h => ⟨h 0 _ rfl,h 1 _ rfl,h 2 _ rfl,h 3 _ rfl,h 4 _ rfl⟩))
   have HVV := Lib.hid hV
   have HWO := Lib.hid hWO
   have HRES := Lib.hid (show (N : Int).toNat = N from Int.toNat_natCast N)
   obtain ⟨m0,m1,m2⟩ := bV.c3
   clear htk hinv hwo b7 hown hWO hlen hV bV kV sV hoV hsq hc'
   go_wp2
   go_region
   rw [← HVV.out]
   go_wp2
   refine bodyPost_ret (v := .tuple #[.slice A l.length c,woV RA n rc WO.clock CA m cc,.int .i64 0]) (by simp [results,Tryz.results10,go_sem,m0,m1,m2]) rfl ⟨HVB.out,.inr (.inr ⟨HN.out,hl,A,c,RA,n,rc,CA,m,cc,?_,?_,?_⟩)⟩
   ·rw [HRES.out,← HWO.out]
   ·rw [HRES.out,← HWO.out]; exact HF.out
   ·rw [HRES.out]; exact HSQ.out
theorem script_any (N : Int) (A : Option Addr) (l : List ActM) (c : Nat) (w : World) (hact : ActsAt w (· < w.heap.size) A l) :
 Calls Tryz.prog 10 #[.int .i64 N,.slice A l.length c] w (ScrOut N l w) := by
 cases hN : inB N 1 5 with
 | false => exact script_err N 2 A l c w (.inl ⟨hN,rfl⟩)
 | true =>
  by_cases hl : 400 < l.length
  ·exact script_err N 1 A l c w (.inr ⟨hN,hl,rfl⟩)
  ·have hN' := inB_true.1 hN
   obtain ⟨n,rfl⟩ : ∃ n : Nat,N = n := ⟨N.toNat,by omega⟩
   exact script_ok n A l c w hN (by omega) hact
end Go.Proofs.YtambkjnhfejfaaaGreat
