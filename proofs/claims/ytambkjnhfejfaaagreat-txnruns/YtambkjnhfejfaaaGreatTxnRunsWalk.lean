/-
  The walk of rickyardlaw.TxnRuns: it returns true and turns no old memory. Conditions: the acts lie in memory.
-/
import Derived.Test.YtambkjnhfejfaaaGreatG42
namespace Go.Proofs.YtambkjnhfejfaaaGreat
open Go.RowKit
set_option linter.unusedVariables false
def actC : Cells ActM := ⟨fun x => [.int .i64 x.kind,.int .i64 x.c,.string x.key,.string x.val],4,fun _ => rfl,fun a v hv => by
 simp only [List.mem_cons,List.not_mem_nil,or_false] at hv
 rcases hv with rfl | rfl | rfl | rfl <;> rfl,by decide⟩
theorem act_info : (Tryz.prog.info? 27).map (fun i => (i.zero,i.size,i.bytes)) = some (some (.agg #[.int .i64 0,.int .i64 0,.string ⟨#[]⟩,.string ⟨#[]⟩]),4,48) := by kernel_rfl
theorem SeqAt.actOk {w : World} {P : Nat → Prop} {A : Option Addr} {l : List ActM} (h : ActsAt w P A l) (x : ActM) (hx : x ∈ l) : x.key.size ≤ maxLen ∧ x.val.size ≤ maxLen := by
 obtain ⟨i,hi,rfl⟩ := List.getElem_of_mem hx
 obtain ⟨b,o,_,_,hc⟩ := h.2 (by omega)
 exact (hc i _ (List.getElem?_eq_getElem hi)).ok
theorem app_acts_big {ty : TypeId} (W : World) (A : Option Addr) (l : List ActM) (c : Nat) (hl : ActsAt W (· < W.heap.size) A l) :
 ∃ v' w',(Builtin.append_ #[36,36] ty #[.slice none 0 0,.slice A l.length c]).run Tryz.prog W = .ok v' w' ∧ ∃ A' c',v' = .slice A' l.length c' ∧ ActsAt w' (· < w'.heap.size) A' l ∧ Below W.heap.size W w' := by
 obtain ⟨i0,hi0,hz0,hz1,hz2⟩ := info_parts act_info
 have hlen := hl.1
 obtain ⟨v',w',h1,A',c',h2,h3,h4,h5⟩ := app_big (C := actC) (ty := ty) Tryz.underlying36 hi0 hz0 hz1 hz2 rfl W W.heap.size l.length c (.slice none 0 0) [] A l (· < W.heap.size) (Cells.Owns.nil _ _ _) rfl (SeqAt.mono hl (fun _ h => h) (fun b o x _ _ hx => fun j v hv => by
  match j,hv with
  | 0,hv => cases hv; exact hx.k
  | 1,hv => cases hv; exact hx.c
  | 2,hv => cases hv; exact hx.y
  | 3,hv => cases hv; exact hx.v)) (by simp; omega) (by simp; omega) (Nat.le_refl _)
 simp only [List.length_nil,Nat.zero_add,List.nil_append] at h2 h3
 obtain ⟨A2,c2,hv,hc,hs⟩ := h3.at_ (mx := 2932031007402) hlen
 injection hv with e1 _ e3
 subst e1 e3
 refine ⟨v',w',h1,A',c',h2,SeqAt.mono hs (fun _ h => h.2) (fun b o x hx _ h => ⟨h 0 _ rfl,h 1 _ rfl,h 2 _ rfl,h 3 _ rfl,SeqAt.actOk hl x hx⟩),?_⟩
 exact ⟨h4.os,h4.tape,h4.output,h4.size,fun k hk => h4.block k hk (by simp [Value.ownBlock])⟩
def endR (N : Int) (l : List ActM) : List AnsM × WoM × Int := if inB N 1 5 = false then ([],⟨[],0,[]⟩,2) else if 400 < l.length then ([],⟨[],0,[]⟩,1) else (runAns (startW N.toNat) l,runWo (startW N.toNat) l,0)
abbrev AnssAt (w : World) (A : Option Addr) (l : List AnsM) : Prop := SeqAt (fun b => b < w.heap.size) 5 1000 (AnsAt w) A l
theorem AnssAt.upto {w w' : World} {A : Option Addr} {l : List AnsM} (h : AnssAt w A l) (hb : Below w.heap.size w w') : AnssAt w' A l :=
 SeqAt.mono h (fun b hp => Nat.lt_of_lt_of_le hp hb.size) fun b _ _ _ hp hx => hx.keep fun k _ _ => hb.cell (p := ⟨b,k,none⟩) hp
def RunEnd (r : List AnsM × WoM × Int) (w : World) (e : Ending) (w' : World) : Prop :=
 Below w.heap.size w w' ∧ ∃ A c RA n rc CA m cc,e = .returned (.tuple #[.slice A r.1.length c,woV RA n rc r.2.1.clock CA m cc,.int .i64 r.2.2]) ∧ WoIn w' RA n rc CA m cc r.2.1 ∧ AnssAt w' A r.1
theorem end_run {N : Int} {l : List ActM} {w w' : World} {e : Ending} (h : RunOut N l w e w') : RunEnd (endR N l) w e w' := by
 obtain ⟨hb,⟨h0,rfl⟩ | ⟨h0,h1,rfl⟩ | ⟨h0,h1,g,RA,n,rc,CA,m,cc,rfl,hw,ha,_⟩⟩ := h
 ·rw [endR,if_pos h0]; exact ⟨hb,none,0,_,_,_,_,_,_,rfl,WoIn.zero w',SeqAt.nil_ _⟩
 ·rw [endR,if_neg (by rw [h0]; decide),if_pos h1]; exact ⟨hb,none,0,_,_,_,_,_,_,rfl,WoIn.zero w',SeqAt.nil_ _⟩
 ·rw [endR,if_neg (by rw [h0]; decide),if_neg (by omega)]
  have hlen : (runAns (startW N.toNat) l).length = l.length := runAns_length _ _
  exact ⟨hb,some ⟨g,0,none⟩,l.length,RA,n,rc,CA,m,cc,by rw [hlen],hw.in_,(show (runAns (startW N.toNat) l).length ≤ 1000 by omega),fun _ => ⟨g,0,rfl,ha.lt,fun i x hx => by rw [Nat.zero_add]; exact ha.ans i x hx⟩⟩
theorem end_script {N : Int} {l : List ActM} {w w' : World} {e : Ending} (h : ScrOut N l w e w') : RunEnd (endR N l) w e w' := by
 obtain ⟨hb,⟨h0,rfl⟩ | ⟨h0,h1,rfl⟩ | ⟨h0,h1,A,c,RA,n,rc,CA,m,cc,rfl,hw,ha⟩⟩ := h
 ·rw [endR,if_pos h0]; exact ⟨hb,none,0,_,_,_,_,_,_,rfl,WoIn.zero w',SeqAt.nil_ _⟩
 ·rw [endR,if_neg (by rw [h0]; decide),if_pos h1]; exact ⟨hb,none,0,_,_,_,_,_,_,rfl,WoIn.zero w',SeqAt.nil_ _⟩
 ·rw [endR,if_neg (by rw [h0]; decide),if_neg (by omega)]
  have hlen : (runAns (startW N.toNat) l).length = l.length := runAns_length _ _
  exact ⟨hb,A,c,RA,n,rc,CA,m,cc,by rw [hlen],hw,ha⟩
set_option maxRecDepth 100000 in
set_option maxHeartbeats 4000000 in
theorem txnRuns_walk (w : World) (N : Int) (hN : i64 N) (l : List ActM) (A : Option Addr) (c : Nat) (hl : ActsAt w (· < w.heap.size) A l) :
 Calls Tryz.prog 4 #[.int .i64 N,.slice A l.length c] w fun e w' => e = .returned (.bool true) ∧ Below w.heap.size w w' := by
 have HAP := Lib.hid (fun ty => app_acts_big (ty := ty) w A l c hl)
 have HL := Lib.hid hl
 obtain ⟨R,hR⟩ : ∃ R,R = endR N l := ⟨_,rfl⟩
 obtain ⟨xs,F,zE⟩ := R
 have HR := Lib.hid hR.symm
 clear hl hR
 go_enter Tryz.func4,Tryz.ntmps4
 go_wp2_with (at_builtin; refine (wpList_append_run _ rfl (.const (.slice none 0 0)) (.tmp 14) 36 rfl (.slice none 0 0) (.slice A l.length c) rfl rfl (HAP.out _) ?_); rintro v1 w1 ⟨A1,c1,rfl,hs1,hb1⟩)
 refine (run_any N A1 l c1 w1 hs1).mono ?_
 rintro e w2 h2
 replace h2 := end_run h2
 rw [HR.out] at h2
 obtain ⟨hb2,A2,c2,RA2,n2,rc2,CA2,m2,cc2,rfl,hw2,ha2⟩ := h2
 dsimp only at hw2 ha2 ⊢
 obtain ⟨W3,hW3,hb3,b6⟩ := one_box w2 #[.slice RA2 n2 rc2,.int .i64 F.clock,.slice CA2 m2 cc2] 25
 obtain ⟨g6,hg6⟩ : ∃ g6,g6 = w2.heap.size := ⟨_,rfl⟩
 rw [← hg6] at b6
 have HF3 := Lib.hid (hw2.upto hb3)
 have HA3 := Lib.hid (AnssAt.upto ha2 hb3)
 have HB3 := Lib.hid (below_next (below_next hb1 hb2) hb3)
 have HW3 := Lib.hid hW3
 have HG6 := Lib.hid hg6
 clear hW3 hg6 hw2 ha2 hb1 hb2 hb3 hs1
 go_upto_region 2 with (fail)
 rw [← HW3.out,← HG6.out]
 go_wp2_with fail
 refine (script_any N A l c W3 (HL.out.acts (fun b hb => Nat.lt_of_lt_of_le hb HB3.out.size) (fun b k hb => HB3.out.cell (p := ⟨b,k,none⟩) hb))).mono ?_
 rintro e w4 h4
 replace h4 := end_script h4
 rw [HR.out] at h4
 obtain ⟨hb4,A4,c4,RA4,n4,rc4,CA4,m4,cc4,rfl,hw4,ha4⟩ := h4
 dsimp only at hw4 ha4 ⊢
 obtain ⟨W5,hW5,hb5,b9⟩ := one_box w4 #[.slice RA4 n4 rc4,.int .i64 F.clock,.slice CA4 m4 cc4] 25
 obtain ⟨g9,hg9⟩ : ∃ g9,g9 = w4.heap.size := ⟨_,rfl⟩
 rw [← hg9] at b9
 have b6 := (b6.upto hb4).upto hb5
 have HF5 := Lib.hid ((HF3.out.upto hb4).upto hb5)
 have HA5 := Lib.hid (AnssAt.upto (AnssAt.upto HA3.out hb4) hb5)
 have HE5 := Lib.hid (hw4.upto hb5)
 have HS5 := Lib.hid (AnssAt.upto ha4 hb5)
 have HB5 := Lib.hid (below_next (below_next HB3.out hb4) hb5)
 have HW5 := Lib.hid hW5
 have HG9 := Lib.hid hg9
 clear hW5 hg9 hw4 ha4 hb4 hb5
 go_upto_region 3 with (fail)
 rw [← HW5.out,← HG9.out]
 obtain ⟨x0,x1,x2⟩ := b6.c3
 obtain ⟨y0,y1,y2⟩ := b9.c3
 go_wp2_with fail
 refine (sameWorld_true F RA2 n2 rc2 CA2 m2 cc2 RA4 n4 rc4 CA4 m4 cc4 W5 HF5.out HE5.out).mono ?_
 rintro e w6 ⟨rfl,hb6⟩
 have HA6 := Lib.hid (AnssAt.upto HA5.out hb6)
 have HS6 := Lib.hid (AnssAt.upto HS5.out hb6)
 have HB6 := Lib.hid (below_next HB5.out hb6)
 have hxl : xs.length ≤ 1000 := HA6.out.1
 clear hb6 x0 x1 x2 y0 y1 y2
 go_wp2
 go_loopw [11] (fun i wr => ∃ (k : Nat),k ≤ xs.length ∧ i = .int .i64 k ∧ Below w6.heap.size w6 wr) (fun i _ => xs.length - (intOf i).toNat)
 case atStart => exact ⟨0,Nat.zero_le _,rfl,Below.refl _ _⟩
 case round =>
  obtain ⟨k,hk,rfl,hb⟩ := hrel
  by_cases hm : k < xs.length
  ·obtain ⟨b,o,rfl,hbb,hr⟩ := SeqAt.at_ (AnssAt.upto HA6.out hb) (List.getElem?_eq_getElem hm)
   obtain ⟨b',o',rfl,hbb',hr'⟩ := SeqAt.at_ (AnssAt.upto HS6.out hb) (List.getElem?_eq_getElem hm)
   obtain ⟨x,hx⟩ : ∃ x,x = xs[k] := ⟨_,rfl⟩
   rw [← hx] at hr hr'
   obtain ⟨c0,c1,c2,c3,c4⟩ := hr
   obtain ⟨d0,d1,d2,d3,d4⟩ := hr'
   have HB := Lib.hid hb
   have j0 : (0 : Int) ≤ (k : Int) := by omega
   have j1 : (k : Int) < (xs.length : Int) := by omega
   obtain ⟨zc,zi,zv,zp,zt⟩ := x
   dsimp only at c0 c1 c2 c3 c4 d0 d1 d2 d3 d4
   clear hb hx
   go_wp2
   go_quiet (fail)
   go_wp2
   go_roundw
   case rel => exact ⟨k + 1,by omega,by go_num,below_next HB.out (below_drewN (Below.refl _ _) _)⟩
   case measure => simp [intOf]; omega
  ·have hke : k = xs.length := by omega
   subst hke
   have HB := Lib.hid (below_next HB6.out hb)
   clear hb
   go_wp2
   go_ret
   exact ⟨rfl,HB.out⟩
end Go.Proofs.YtambkjnhfejfaaaGreat
