/-
  Contracts of functions of the program and words for memory, several texts in one: RDidO. Conditions: those stated with each.
-/
import Derived.Test.YtambkjnhfejfaaaGreatG35
import Derived.Test.YtambkjnhfejfaaaGreatG38
namespace Go.Proofs.YtambkjnhfejfaaaGreat
open Go.RowKit
set_option linter.unusedVariables false
theorem RefW.box {w : World} {X : Nat → Prop} {gC g : Nat} {RA : Option Addr} {n rc m cc : Nat} {wo : WoM} (h : RefW w X gC RA n rc m cc wo) (hg : X g) (hne : g ≠ gC) (i : Nat) (v : Value) : RefW (w.setCell ⟨g,i,none⟩ v) X gC RA n rc m cc wo :=
 h.turned (by simp) (Below.heap_setCell _ _ _ _ (fun e => hne e.symm)) (fun b hb => Below.heap_setCell _ _ _ _ (fun e => hb (e ▸ hg)))
theorem idle_client {clock : Int} {c : ClM} (h : clB clock c = true) (h0 : c.ph = 0) : c = idleC := by
 obtain ⟨ph,st,cm,ws,at_⟩ := c
 simp only [clB,Bool.and_eq_true] at h
 have h1 := h.1.2
 have h2 := h.2
 unfold timesB at h1
 unfold atB at h2
 dsimp only at h0 h1 h2
 rw [if_pos h0] at h1 h2
 simp only [Bool.and_eq_true,beq_iff_eq,List.isEmpty_iff] at h1 h2
 rw [idleC,h0,h1.1,h1.2,h2.1,h2.2]
theorem put_ins {c : ClM} {key val : ByteArray} (h6 : c.ws.length ≤ 6) (ha : accessE c key = 0) (hv : ¬ 20 < val.size) : (¬ 6 < (insK WrM.k c.ws ⟨key,val⟩).length → putC c key val = (⟨c.ph,c.st,c.cm,insK WrM.k c.ws ⟨key,val⟩,c.at_⟩,0)) ∧ (6 < (insK WrM.k c.ws ⟨key,val⟩).length → putC c key val = (c,1)) := by
 have hle := lowIx_le (wrKeys c.ws) key
 rw [List.length_map] at hle
 have e : putC c key val = (if hasK (wrKeys c.ws) key then ({ c with ws := c.ws.set (lowIx (wrKeys c.ws) key) ⟨(wrAt c.ws key).k,val⟩ },0) else if 6 ≤ c.ws.length then (c,1) else ({ c with ws := c.ws.take (lowIx (wrKeys c.ws) key) ++ ⟨key,val⟩ :: c.ws.drop (lowIx (wrKeys c.ws) key) },0)) := by
  unfold putC; rw [if_neg (by rw [ha]; simp),if_neg hv]
 have f : insK WrM.k c.ws ⟨key,val⟩ = (if hasK (wrKeys c.ws) key = true then c.ws.set (lowIx (wrKeys c.ws) key) ⟨key,val⟩ else c.ws.take (lowIx (wrKeys c.ws) key) ++ ⟨key,val⟩ :: c.ws.drop (lowIx (wrKeys c.ws) key)) := rfl
 rw [e,f]
 by_cases hk : hasK (wrKeys c.ws) key = true
 ·rw [if_pos hk,if_pos hk]
  have hkey : (wrAt c.ws key).k = key := by
   have hlt : lowIx (wrKeys c.ws) key < c.ws.length := by
    have h := hk
    simp only [hasK,Bool.and_eq_true,decide_eq_true_eq,List.length_map] at h
    exact h.1
   simp only [hasK,Bool.and_eq_true,decide_eq_true_eq] at hk
   have := hk.2
   simpa [List.getD,hlt,wrAt] using this
  refine ⟨fun _ => by rw [hkey],fun h => ?_⟩
  rw [List.length_set] at h
  omega
 ·rw [if_neg hk,if_neg hk]
  have hlen : (c.ws.take (lowIx (wrKeys c.ws) key) ++ ⟨key,val⟩ :: c.ws.drop (lowIx (wrKeys c.ws) key)).length = c.ws.length + 1 := by simp; omega
  rw [hlen]
  refine ⟨fun h => by rw [if_neg (by omega)],fun h => by rw [if_pos (by omega)]⟩
theorem RefW.inX {w : World} {X X' : Nat → Prop} {gC : Nat} {RA : Option Addr} {n rc m cc : Nat} {wo : WoM} (h : RefW w X gC RA n rc m cc wo) (hX : ∀ b,X' b → X b) (hg : ¬ X' gC) : WoInX w X' RA n rc (some ⟨gC,0,none⟩) m cc wo :=
 ⟨h.hn,h.hrc,h.rows.rows (fun _ hp => ⟨hp.1,fun e => hp.2.2 (hX _ e)⟩) (fun _ _ _ => rfl),h.hm,h.hcc,SeqAt.block (by have := h.h5; have := h.hm; omega) ⟨h.lt,hg⟩ fun i c hc => (h.cls i c hc).mono (fun _ hp => ⟨hp.1,fun e => hp.2.2 (hX _ e)⟩) (fun _ _ _ => rfl) (fun _ _ _ => rfl),h.ck⟩
theorem did_end {w W W8 V : World} {n1 g2 g3 g4 g5 gC : Nat} {RA : Option Addr} {n rc m cc : Nat} {wo : WoM} {v0 v1 v2 a0 a1 a2 a3 a4 p : Value} (h : RefW W (fun b => b < n1 ∨ b = g4 ∨ b = g5) gC RA n rc m cc wo) (hb : Below w.heap.size w W) (h8 : W8 = W.setCell ⟨g5,3,none⟩ p)
 (hV : V = (((((((W8.setCell ⟨g2,0,none⟩ v0).setCell ⟨g2,1,none⟩ v1).setCell ⟨g2,2,none⟩ v2).setCell ⟨g3,0,none⟩ a0).setCell ⟨g3,1,none⟩ a1).setCell ⟨g3,2,none⟩ a2).setCell ⟨g3,3,none⟩ a3).setCell ⟨g3,4,none⟩ a4) (hg2 : w.heap.size ≤ g2 ∧ g2 < n1) (hg3 : w.heap.size ≤ g3 ∧ g3 < n1) (hg5 : w.heap.size ≤ g5 ∧ gC ≠ g5 ∧ n1 ≤ gC) : WoInX V.drew (fun b => b < w.heap.size) RA n rc (some ⟨gC,0,none⟩) m cc wo ∧ Below w.heap.size w V.drew := by
 have k8 : ∀ q,q ≠ g5 → W8.heap[q]? = W.heap[q]? := fun q h => by rw [h8]; exact Below.heap_setCell _ _ _ _ h
 have kV : ∀ q,q ≠ g2 → q ≠ g3 → V.heap[q]? = W8.heap[q]? := fun q h2 h3 => by
  rw [hV,Below.heap_setCell _ _ _ _ h3,Below.heap_setCell _ _ _ _ h3,Below.heap_setCell _ _ _ _ h3,Below.heap_setCell _ _ _ _ h3,Below.heap_setCell _ _ _ _ h3,Below.heap_setCell _ _ _ _ h2,Below.heap_setCell _ _ _ _ h2,Below.heap_setCell _ _ _ _ h2]
 have s8 : W8.heap.size = W.heap.size := by rw [h8]; simp
 have sV : V.heap.size = W8.heap.size := by rw [hV]; simp
 have hR := h.turned (w' := V.drew) (show V.heap.size = W.heap.size by omega) ((kV gC (by omega) (by omega)).trans (k8 gC hg5.2.1)) (fun b hb => (kV b (fun e => hb (.inl (by omega))) (fun e => hb (.inl (by omega)))).trans (k8 b (fun e => hb (.inr (.inr e)))))
 refine ⟨hR.inX (fun b hb => .inl (by omega)) (by omega),Below.drew ?_⟩
 have hb8 : Below w.heap.size w W8 := by rw [h8]; exact hb.setCell hg5.1 _
 rw [hV]
 exact (((((((hb8.setCell hg2.1 _).setCell hg2.1 _).setCell hg2.1 _).setCell hg3.1 _).setCell hg3.1 _).setCell hg3.1 _).setCell hg3.1 _).setCell hg3.1 _
set_option maxRecDepth 100000 in
set_option maxHeartbeats 16000000 in
theorem did_ok (wo : WoM) (a : ActM) (RA : Option Addr) (n rc : Nat) (CA : Option Addr) (m cc : Nat) (w : World) (hin : WoIn w RA n rc CA m cc wo) (hks : a.key.size ≤ maxLen) (hvs : a.val.size ≤ maxLen) (he : actE wo a = 0) :
 Calls Tryz.prog 7 #[woV RA n rc wo.clock CA m cc,actV a] w (DidOut wo a w) := by
 have e1 := hin.hn
 have e2 := hin.hm
 subst e1 e2
 have hlc := hin.cls.1
 have hlr := hin.rows.1
 obtain ⟨kind,ac,key,val⟩ := a
 dsimp only at hks hvs he ⊢
 obtain ⟨W0,hW0,hb0,hs0,b0,b1,b2,b3⟩ := four_boxes w #[.slice RA wo.rows.length rc,.int .i64 wo.clock,.slice CA wo.cls.length cc] #[.int .i64 kind,.int .i64 ac,.string key,.string val] #[.slice none 0 0,.int .i64 0,.slice none 0 0] #[.int .i64 0,.bool false,.string ⟨#[]⟩,.int .i64 0,.int .i64 0] 25 27 25 31
 have HI := Lib.hid hin
 have HW0 := Lib.hid hW0
 have HB0 := Lib.hid hb0
 have HKS := Lib.hid hks
 have HVS := Lib.hid hvs
 have HIU := Lib.hid (hin.upto hb0)
 have s9 : IntKind.i64.wrap ((wo.cls.length : Int) - 1) = (wo.cls.length : Int) - 1 := IntWalk.i64_in _ (by omega)
 clear hin hW0 hb0 hks hvs
 go_enter Tryz.func7,Tryz.ntmps7
 go_wp2_with fail
 rw [← HW0.out]
 obtain ⟨g3,hg3⟩ : ∃ g3,g3 = w.heap.size + 1 + 1 + 1 := ⟨_,rfl⟩
 rw [← hg3] at b3 ⊢
 obtain ⟨g2,hg2⟩ : ∃ g2,g2 = w.heap.size + 1 + 1 := ⟨_,rfl⟩
 rw [← hg2] at b2 ⊢
 obtain ⟨g1,hg1⟩ : ∃ g1,g1 = w.heap.size + 1 := ⟨_,rfl⟩
 rw [← hg1] at b1 ⊢
 obtain ⟨g0,hg0⟩ : ∃ g0,g0 = w.heap.size := ⟨_,rfl⟩
 rw [← hg0] at b0 ⊢
 have HG := Lib.hid (show g0 = w.heap.size ∧ g1 = w.heap.size + 1 ∧ g2 = w.heap.size + 2 ∧ g3 = w.heap.size + 3 ∧ W0.heap.size = w.heap.size + 4 from ⟨hg0,hg1,by omega,by omega,by omega⟩)
 clear hg0 hg1 hg2 hg3 hs0
 refine (worldMay_any wo RA wo.rows.length rc CA wo.cls.length cc W0 HIU.out).mono ?_
 rintro e w1 ⟨rfl,hb1⟩
 have b0 : BoxIs w1 g0 [.slice RA wo.rows.length rc,.int .i64 wo.clock,.slice CA wo.cls.length cc] := b0.upto hb1
 have b1 : BoxIs w1 g1 [.int .i64 kind,.int .i64 ac,.string key,.string val] := b1.upto hb1
 have b2 : BoxIs w1 g2 [.slice none 0 0,.int .i64 0,.slice none 0 0] := b2.upto hb1
 have b3 : BoxIs w1 g3 [.int .i64 0,.bool false,.string ⟨#[]⟩,.int .i64 0,.int .i64 0] := b3.upto hb1
 have HB1 := Lib.hid (below_next HB0.out hb1)
 have HS1 := Lib.hid (show w.heap.size + 4 ≤ w1.heap.size by have := hb1.size; have := HG.out; omega)
 obtain ⟨x0,x1,x2⟩ := b0.c3
 obtain ⟨a0,a1,a2,a3⟩ := b1.c4
 obtain ⟨r0,r1,r2⟩ := b2.c3
 obtain ⟨s0,s1,s2,s3,s4⟩ := b3.c5
 obtain ⟨rf0,rf1,rf2⟩ := b2.f3
 obtain ⟨sf0,sf1,sf2,sf3,sf4⟩ := b3.f5
 have n23 : g2 ≠ g3 := by have := HG.out; omega
 have n32 : g3 ≠ g2 := by have := HG.out; omega
 clear hb1
 have HE0 := Lib.hid he
 obtain ⟨hok,hk1,hk6,hc0,hcm⟩ := act_zero he
 dsimp only at hk1 hk6 hc0 hcm
 have hclk : wo.clock < 1099511627376 := by
  have hcl := ok_clock hok
  rcases Int.lt_or_le wo.clock 1099511627376 with h | h
  ·exact h
  ·exfalso
   rw [actE,if_neg (by rw [hok]; decide),if_neg (by show ¬ (kind < 1 ∨ 6 < kind); omega),if_neg (by show ¬ (ac < 0 ∨ (wo.cls.length : Int) ≤ ac); omega),if_pos (by omega)] at he
   exact absurd he (by decide)
 have hclk0 := (ok_clock hok).1
 have h5 : wo.cls.length ≤ 5 := by have h := hok; simp only [WoM.ok,clsB,Bool.and_eq_true,decide_eq_true_eq] at h; exact h.2.1
 have hk : inB kind 1 6 = true := inB_true.2 ⟨hk1,hk6⟩
 have hc : inB ac 0 ((wo.cls.length : Int) - 1) = true := inB_true.2 ⟨hc0,by omega⟩
 have hd' : ¬ 1099511627376 ≤ wo.clock := by omega
 have hd : decide (1099511627376 ≤ wo.clock) = false := decide_eq_false hd'
 rw [hok]
 have HOKW := Lib.hid hok
 clear he hok
 go_wp2_with (go_at_call 16; refine (in_any _ _ _ _).mono ?_; rintro e w' ⟨rfl,rfl⟩)
 refine (worldCopy_any wo RA wo.rows.length rc CA wo.cls.length cc w1 (HI.out.upto HB1.out) (by omega)).mono ?_
 rintro e w2 ⟨RA2,rc2,CA2,cc2,rfl,_,href,hb2⟩
 obtain ⟨gC,rfl,hgC,hrw⟩ := href (by omega) (by omega)
 obtain ⟨C,hCd⟩ : ∃ C : Nat,ac = C := ⟨ac.toNat,by omega⟩
 subst hCd
 have hCl : C < wo.cls.length := by omega
 have b0 := b0.upto hb2
 have b1 := b1.upto hb2
 have b2 := b2.upto hb2
 have b3 := b3.upto hb2
 have HB2 := Lib.hid (below_next HB1.out hb2)
 have hs2 := hb2.size
 clear x0 x1 x2 a0 a1 a2 a3 r0 r1 r2 s0 s1 s2 s3 s4 rf0 rf1 rf2 sf0 sf1 sf2 sf3 sf4 hb2 href hk hc hd hd' s9 n23 n32
 obtain ⟨x0,x1,x2⟩ := b0.c3
 obtain ⟨xf0,xf1,xf2⟩ := b0.f3
 obtain ⟨a0,a1,a2,a3⟩ := b1.c4
 go_upto_region 10 with (fail)
 obtain ⟨W3,hW3⟩ : ∃ W3,W3 = ((w2.setCell ⟨g0,0,none⟩ (.slice RA2 wo.rows.length rc2)).setCell ⟨g0,1,none⟩ (.int .i64 wo.clock)).setCell ⟨g0,2,none⟩ (.slice (some ⟨gC,0,none⟩) wo.cls.length cc2) := ⟨_,rfl⟩
 rw [← hW3]
 have hg := HG.out
 have hs1 := HS1.out
 have k3 : ∀ q,q ≠ g0 → W3.heap[q]? = w2.heap[q]? := fun q h => by rw [hW3,Below.heap_setCell _ _ _ _ h,Below.heap_setCell _ _ _ _ h,Below.heap_setCell _ _ _ _ h]
 have hs3 : W3.heap.size = w2.heap.size := by rw [hW3]; simp
 have b0 : BoxIs W3 g0 [.slice RA2 wo.rows.length rc2,.int .i64 wo.clock,.slice (some ⟨gC,0,none⟩) wo.cls.length cc2] := by rw [hW3]; exact ((b0.set 0 _).set 1 _).set 2 _
 have b1 : BoxIs W3 g1 [.int .i64 kind,.int .i64 (C : Int),.string key,.string val] := b1.blk (k3 g1 (by omega))
 have b2 : BoxIs W3 g2 [.slice none 0 0,.int .i64 0,.slice none 0 0] := b2.blk (k3 g2 (by omega))
 have b3 : BoxIs W3 g3 [.int .i64 0,.bool false,.string ⟨#[]⟩,.int .i64 0,.int .i64 0] := b3.blk (k3 g3 (by omega))
 have hB3 : Below w.heap.size w W3 := by
  have l0 : w.heap.size ≤ g0 := by omega
  rw [hW3]; exact ((HB2.out.setCell l0 _).setCell l0 _).setCell l0 _
 have hR3 : RefW W3 (· < w1.heap.size) gC RA2 wo.rows.length rc2 wo.cls.length cc2 wo := hrw.turned hs3 (k3 gC (by omega)) (fun b hb => k3 b (fun e => hb (by omega)))
 obtain ⟨c,hcl⟩ : ∃ c,wo.cls[C]? = some c := ⟨_,List.getElem?_eq_getElem hCl⟩
 have hcat := hR3.cls C c hcl
 obtain ⟨WA,wk,q3,hwk,hws3⟩ := hcat.cw
 have q0 := hcat.cp
 have q1 := hcat.cs
 have q2 := hcat.cm
 have q4 := hcat.ca
 have HCOK := Lib.hid hcat.ok
 have hgl : gC < W3.heap.size := hR3.lt
 have hccc := hR3.hcc
 have j0 : (0 : Int) ≤ (C : Int) := by omega
 have j1 : (C : Int) < (wo.cls.length : Int) := by omega
 have lt0 : g0 < W3.heap.size := b0.lt
 have lt1 : g1 < W3.heap.size := b1.lt
 clear x0 x1 x2 xf0 xf1 xf2 a0 a1 a2 a3
 obtain ⟨x0,x1,x2⟩ := b0.c3
 obtain ⟨a0,a1,a2,a3⟩ := b1.c4
 obtain ⟨W4,hW4,_,_,_,_,_,hb34,hs34⟩ := box_new W3 (.int .i64 c.ph) (.int .i64 c.st) (.int .i64 c.cm) (.slice WA c.ws.length wk) (.int .i64 c.at_) 49
 obtain ⟨W5,hW5,_,_,_,_,_,hb45,hs45⟩ := box_new W4 (.int .i64 0) (.bool false) (.string ⟨#[]⟩) (.int .i64 0) (.int .i64 0) 31
 have b4 : BoxIs W4 W3.heap.size [.int .i64 c.ph,.int .i64 c.st,.int .i64 c.cm,.slice WA c.ws.length wk,.int .i64 c.at_] := by rw [hW4]; exact BoxIs.new W3 _ _
 have b5 : BoxIs W5 W4.heap.size [.int .i64 0,.bool false,.string ⟨#[]⟩,.int .i64 0,.int .i64 0] := by rw [hW5]; exact BoxIs.new W4 _ _
 have b4 := b4.upto hb45
 have hb35 := below_next hb34 hb45
 have b0 := b0.upto hb35
 have b1 := b1.upto hb35
 have b2 := b2.upto hb35
 have b3 := b3.upto hb35
 have hR5 := (hR3.apart (X' := fun b => b < w1.heap.size ∨ b = W3.heap.size ∨ b = W4.heap.size) (fun b hb hx e => by
  rcases e with e | e | e
  ·exact hx e
  ·omega
  ·omega)).upto hb35
 have HB5 := Lib.hid (below_next hB3 hb35)
 have hws5 : WrsAt W5 (fun b => b < W5.heap.size ∧ b ≠ gC ∧ ¬ (b < w1.heap.size ∨ b = W3.heap.size ∨ b = W4.heap.size)) WA c.ws := SeqAt.wrs hws3 (fun b hb => ⟨by have h1 := hb.1; have := hb35.size; omega,hb.2.1,fun e => by
  have h1 := hb.1
  rcases e with e | e | e
  ·exact hb.2.2 e
  ·omega
  ·omega⟩) (fun b k hb => hb35.cell (p := ⟨b,k,none⟩) hb.1)
 have HWK := Lib.hid hwk
 have HW4 := Lib.hid hW4
 have HW5 := Lib.hid hW5
 have HS34 := Lib.hid hs34
 have hwl : c.ws.length ≤ 4398046511104 := hws3.1
 have HK3 := Lib.hid k3
 have hs5 : W5.heap.size = W3.heap.size + 2 := by omega
 clear hW4 hW5 hcat hws3 hwk hs34 hs45 hb34 hb45 hb35 hR3 hB3 hW3 k3
 have HSS := Lib.hid (show W5.heap.size = W3.heap.size + 2 ∧ W3.heap.size = w2.heap.size ∧ w1.heap.size ≤ w2.heap.size ∧ gC < W3.heap.size ∧ w1.heap.size ≤ gC from ⟨hs5,hs3,hs2,hgl,hgC⟩)
 clear hg hs1 hs2 hs3 hs5 hgC
 go_upto_region 12 with (fail)
 rw [← HW4.out,← HW5.out]
 rw [← HS34.out]
 obtain ⟨g5,hg5⟩ : ∃ g5,g5 = W4.heap.size := ⟨_,rfl⟩
 rw [← hg5] at b5 hR5 hws5 ⊢
 obtain ⟨g4,hg4⟩ : ∃ g4,g4 = W3.heap.size := ⟨_,rfl⟩
 rw [← hg4] at b4 hR5 hws5 ⊢
 have h34 := HS34.out
 have hg := HG.out
 have hs1 := HS1.out
 obtain ⟨hs5,hs3,hs2,hgl,hgC⟩ := HSS.out
 obtain ⟨n1,hn1⟩ : ∃ n1,n1 = w1.heap.size := ⟨_,rfl⟩
 rw [← hn1] at hR5 hws5
 have HRF := Lib.hid hR5
 have HWS := Lib.hid hws5
 have HGG := Lib.hid (show g0 = w.heap.size ∧ g1 = w.heap.size + 1 ∧ g2 = w.heap.size + 2 ∧ g3 = w.heap.size + 3 ∧ w.heap.size + 4 ≤ n1 ∧ n1 ≤ g4 ∧ g5 = g4 + 1 ∧ W5.heap.size = g5 + 1 ∧ n1 ≤ gC ∧ gC < g4 from ⟨by omega,by omega,by omega,by omega,by omega,by omega,by omega,by omega,by omega,by omega⟩)
 have n01 : g0 ≠ g1 := by omega
 have n02 : g0 ≠ g2 := by omega
 have n03 : g0 ≠ g3 := by omega
 have n04 : g0 ≠ g4 := by omega
 have n05 : g0 ≠ g5 := by omega
 have n10 : g1 ≠ g0 := by omega
 have n12 : g1 ≠ g2 := by omega
 have n13 : g1 ≠ g3 := by omega
 have n14 : g1 ≠ g4 := by omega
 have n15 : g1 ≠ g5 := by omega
 have n20 : g2 ≠ g0 := by omega
 have n21 : g2 ≠ g1 := by omega
 have n23 : g2 ≠ g3 := by omega
 have n24 : g2 ≠ g4 := by omega
 have n25 : g2 ≠ g5 := by omega
 have n30 : g3 ≠ g0 := by omega
 have n31 : g3 ≠ g1 := by omega
 have n32 : g3 ≠ g2 := by omega
 have n34 : g3 ≠ g4 := by omega
 have n35 : g3 ≠ g5 := by omega
 have n40 : g4 ≠ g0 := by omega
 have n41 : g4 ≠ g1 := by omega
 have n42 : g4 ≠ g2 := by omega
 have n43 : g4 ≠ g3 := by omega
 have n45 : g4 ≠ g5 := by omega
 have n50 : g5 ≠ g0 := by omega
 have n51 : g5 ≠ g1 := by omega
 have n52 : g5 ≠ g2 := by omega
 have n53 : g5 ≠ g3 := by omega
 have n54 : g5 ≠ g4 := by omega
 have k0 : g0 ≠ gC := by omega
 have k1 : g1 ≠ gC := by omega
 have k2 : g2 ≠ gC := by omega
 have k3 : g3 ≠ gC := by omega
 have k4 : g4 ≠ gC := by omega
 have k5 : g5 ≠ gC := by omega
 have m0 : gC ≠ g0 := by omega
 have m1 : gC ≠ g1 := by omega
 have m2 : gC ≠ g2 := by omega
 have m3 : gC ≠ g3 := by omega
 have m4 : gC ≠ g4 := by omega
 have m5 : gC ≠ g5 := by omega
 have Xn01 := Lib.hid n01
 have Xn02 := Lib.hid n02
 have Xn03 := Lib.hid n03
 have Xn04 := Lib.hid n04
 have Xn05 := Lib.hid n05
 have Xn10 := Lib.hid n10
 have Xn12 := Lib.hid n12
 have Xn13 := Lib.hid n13
 have Xn14 := Lib.hid n14
 have Xn15 := Lib.hid n15
 have Xn20 := Lib.hid n20
 have Xn21 := Lib.hid n21
 have Xn23 := Lib.hid n23
 have Xn24 := Lib.hid n24
 have Xn25 := Lib.hid n25
 have Xn30 := Lib.hid n30
 have Xn31 := Lib.hid n31
 have Xn32 := Lib.hid n32
 have Xn34 := Lib.hid n34
 have Xn35 := Lib.hid n35
 have Xn40 := Lib.hid n40
 have Xn41 := Lib.hid n41
 have Xn42 := Lib.hid n42
 have Xn43 := Lib.hid n43
 have Xn45 := Lib.hid n45
 have Xn50 := Lib.hid n50
 have Xn51 := Lib.hid n51
 have Xn52 := Lib.hid n52
 have Xn53 := Lib.hid n53
 have Xn54 := Lib.hid n54
 have Xk0 := Lib.hid k0
 have Xk1 := Lib.hid k1
 have Xk2 := Lib.hid k2
 have Xk3 := Lib.hid k3
 have Xk4 := Lib.hid k4
 have Xk5 := Lib.hid k5
 have Xm0 := Lib.hid m0
 have Xm1 := Lib.hid m1
 have Xm2 := Lib.hid m2
 have Xm3 := Lib.hid m3
 have Xm4 := Lib.hid m4
 have Xm5 := Lib.hid m5
 clear n02 n03 n12 n13 n14 n20 n21 n23 n24 n25 n30 n31 n32 n34 n35 n41 n42 n43 n52 n53 k1 k2 k3 m1 m2 m3
 have HCL := Lib.hid hcl
 have hcd : wo.cls.getD C default = c := getD_of_get hcl
 have HCD := Lib.hid hcd
 clear x0 x1 x2 a0 a1 a2 a3 q0 q1 q2 q3 q4 hR5 hws5 hg4 hg5 hn1 hs5 hs3 hs2 hs1 hg lt0 lt1 hgl h34 hcl hcd hrw hgC
 have hk16 : kind = 1 ∨ kind = 2 ∨ kind = 3 ∨ kind = 4 ∨ kind = 5 ∨ kind = 6 := by omega
 rcases hk16 with rfl | rfl | rfl | rfl | rfl | rfl
 ·by_cases hp : c.ph = 0
  ·have HPF := Lib.hid (show performW wo ⟨1,(C : Int),key,val⟩ = (⟨wo.rows,wo.clock + 1,wo.cls.set C ⟨1,wo.clock + 1,0,[],0⟩⟩,ansTime (wo.clock + 1)) by
    unfold performW; dsimp only; rw [if_pos rfl,Int.toNat_natCast,HCD.out,beginW,if_pos hp])
   have hp' : (c.ph == 0) = true := beq_iff_eq.2 hp
   have s7 : IntKind.i64.wrap (wo.clock + 1) = wo.clock + 1 := IntWalk.i64_in _ (by omega)
   have HHP := Lib.hid hp
   clear hp
   obtain ⟨x0,x1,x2⟩ := b0.c3
   obtain ⟨a0,a1,a2,a3⟩ := b1.c4
   obtain ⟨y0,y1,y2,y3,y4⟩ := b4.c5
   obtain ⟨o0,o1,o2,o3,o4⟩ := b5.c5
   obtain ⟨xf0,xf1,xf2⟩ := b0.f3
   obtain ⟨yf0,yf1,yf2,yf3,yf4⟩ := b4.f5
   obtain ⟨of0,of1,of2,of3,of4⟩ := b5.f5
   go_upto_region 17 with (fail)
   obtain ⟨W6,hW6⟩ : ∃ W6,W6 = (W5.setCell ⟨g0,1,none⟩ (.int .i64 (wo.clock + 1))) := ⟨_,rfl⟩
   rw [← hW6]
   have b0 : BoxIs W6 g0 [.slice RA2 wo.rows.length rc2,.int .i64 (wo.clock + 1),.slice (some ⟨gC,0,none⟩) wo.cls.length cc2] := BoxIs.to hW6 (.set b0 1 _)
   have b1 := BoxIs.to hW6 (.o1 b1 Xn10.out)
   have b2 := BoxIs.to hW6 (.o1 b2 Xn20.out)
   have b3 := BoxIs.to hW6 (.o1 b3 Xn30.out)
   have b4 := BoxIs.to hW6 (.o1 b4 Xn40.out)
   have b5 := BoxIs.to hW6 (.o1 b5 Xn50.out)
   have HW6 := Lib.hid hW6
   clear hW6
   have HR_W6 := Lib.hid (show RefW W6 (fun b => b < n1 ∨ b = g4 ∨ b = g5) gC RA2 wo.rows.length rc2 wo.cls.length cc2 wo by rw [HW6.out]; exact (RefW.box HRF.out (.inl (by have := HGG.out; omega)) Xk0.out _ _))
   have HB_W6 := Lib.hid (show Below w.heap.size w W6 by
    have hgg := HGG.out
    have l0 : w.heap.size ≤ g0 := by omega
    rw [HW6.out]
    exact (HB5.out).setCell l0 _)
   clear x0 x1 x2 a0 a1 a2 a3 y0 y1 y2 y3 y4 o0 o1 o2 o3 o4 xf0 xf1 xf2 yf0 yf1 yf2 yf3 yf4 of0 of1 of2 of3 of4
   obtain ⟨x0,x1,x2⟩ := b0.c3
   obtain ⟨a0,a1,a2,a3⟩ := b1.c4
   obtain ⟨y0,y1,y2,y3,y4⟩ := b4.c5
   obtain ⟨o0,o1,o2,o3,o4⟩ := b5.c5
   obtain ⟨xf0,xf1,xf2⟩ := b0.f3
   obtain ⟨yf0,yf1,yf2,yf3,yf4⟩ := b4.f5
   obtain ⟨of0,of1,of2,of3,of4⟩ := b5.f5
   have t0 := RefW.cell HR_W6.out hCl 0 (by omega)
   have t1 := RefW.cell HR_W6.out hCl 1 (by omega)
   have t2 := RefW.cell HR_W6.out hCl 2 (by omega)
   have t3 := RefW.cell HR_W6.out hCl 3 (by omega)
   have t4 := RefW.cell HR_W6.out hCl 4 (by omega)
   rw [Nat.add_zero] at t0
   obtain ⟨u0,t0,tf0⟩ := t0
   obtain ⟨u1,t1,tf1⟩ := t1
   obtain ⟨u2,t2,tf2⟩ := t2
   obtain ⟨u3,t3,tf3⟩ := t3
   obtain ⟨u4,t4,tf4⟩ := t4
   go_upto_region 18 with (fail)
   obtain ⟨W7,hW7⟩ : ∃ W7,W7 = (((((W6.setCell ⟨gC,C * 5,none⟩ (.int .i64 1)).setCell ⟨gC,C * 5 + 1,none⟩ (.int .i64 (wo.clock + 1))).setCell ⟨gC,C * 5 + 2,none⟩ (.int .i64 0)).setCell ⟨gC,C * 5 + 3,none⟩ (.slice none 0 0)).setCell ⟨gC,C * 5 + 4,none⟩ (.int .i64 0)) := ⟨_,rfl⟩
   rw [← hW7]
   have b0 := BoxIs.to hW7 (.o5 b0 Xk0.out)
   have b1 := BoxIs.to hW7 (.o5 b1 Xk1.out)
   have b2 := BoxIs.to hW7 (.o5 b2 Xk2.out)
   have b3 := BoxIs.to hW7 (.o5 b3 Xk3.out)
   have b4 := BoxIs.to hW7 (.o5 b4 Xk4.out)
   have b5 := BoxIs.to hW7 (.o5 b5 Xk5.out)
   have HW7 := Lib.hid hW7
   clear hW7
   clear t0 t1 t2 t3 t4 tf0 tf1 tf2 tf3 tf4
   have HR_W7 := Lib.hid (show RefW W7 (fun b => b < n1 ∨ b = g4 ∨ b = g5) gC RA2 wo.rows.length rc2 wo.cls.length cc2 ⟨wo.rows,wo.clock + 1,wo.cls.set C ⟨1,wo.clock + 1,0,[],0⟩⟩ by
    rw [HW7.out]; exact (HR_W6.out.tick (k := wo.clock + 1) (by unfold i64; omega)).setC hCl ⟨1,wo.clock + 1,0,[],0⟩ none 0 ⟨by show i64 1; unfold i64; omega,by show i64 (wo.clock + 1); unfold i64; omega,i64_zero,i64_zero⟩ (Nat.le_refl _) (SeqAt.nil_ _))
   have HB_W7 := Lib.hid (show Below w.heap.size w W7 by
    have hgg := HGG.out
    have lC : w.heap.size ≤ gC := by omega
    rw [HW7.out]
    exact (((((HB_W6.out).setCell lC _).setCell lC _).setCell lC _).setCell lC _).setCell lC _)
   clear x0 x1 x2 a0 a1 a2 a3 y0 y1 y2 y3 y4 o0 o1 o2 o3 o4 xf0 xf1 xf2 yf0 yf1 yf2 yf3 yf4 of0 of1 of2 of3 of4
   obtain ⟨x0,x1,x2⟩ := b0.c3
   obtain ⟨a0,a1,a2,a3⟩ := b1.c4
   obtain ⟨y0,y1,y2,y3,y4⟩ := b4.c5
   obtain ⟨o0,o1,o2,o3,o4⟩ := b5.c5
   obtain ⟨xf0,xf1,xf2⟩ := b0.f3
   obtain ⟨yf0,yf1,yf2,yf3,yf4⟩ := b4.f5
   obtain ⟨of0,of1,of2,of3,of4⟩ := b5.f5
   go_upto_region 48 with (fail)
   obtain ⟨W9,hW9⟩ : ∃ W9,W9 = (W7.setCell ⟨g5,4,none⟩ (.int .i64 (wo.clock + 1))) := ⟨_,rfl⟩
   rw [← hW9]
   have b0 := BoxIs.to hW9 (.o1 b0 Xn05.out)
   have b1 := BoxIs.to hW9 (.o1 b1 Xn15.out)
   have b2 := BoxIs.to hW9 (.o1 b2 Xn25.out)
   have b3 := BoxIs.to hW9 (.o1 b3 Xn35.out)
   have b4 := BoxIs.to hW9 (.o1 b4 Xn45.out)
   have b5 : BoxIs W9 g5 [.int .i64 0,.bool false,.string ⟨#[]⟩,.int .i64 0,.int .i64 (wo.clock + 1)] := BoxIs.to hW9 (.set b5 4 _)
   have HW9 := Lib.hid hW9
   clear hW9
   have HR_W9 := Lib.hid (show RefW W9 (fun b => b < n1 ∨ b = g4 ∨ b = g5) gC RA2 wo.rows.length rc2 wo.cls.length cc2 ⟨wo.rows,wo.clock + 1,wo.cls.set C ⟨1,wo.clock + 1,0,[],0⟩⟩ by rw [HW9.out]; exact (RefW.box HR_W7.out (.inr (.inr rfl)) Xk5.out _ _))
   have HB_W9 := Lib.hid (show Below w.heap.size w W9 by
    have hgg := HGG.out
    have l5 : w.heap.size ≤ g5 := by omega
    rw [HW9.out]
    exact (HB_W7.out).setCell l5 _)
   clear x0 x1 x2 a0 a1 a2 a3 y0 y1 y2 y3 y4 o0 o1 o2 o3 o4 xf0 xf1 xf2 yf0 yf1 yf2 yf3 yf4 of0 of1 of2 of3 of4
   obtain ⟨x0,x1,x2⟩ := b0.c3
   obtain ⟨a0,a1,a2,a3⟩ := b1.c4
   obtain ⟨y0,y1,y2,y3,y4⟩ := b4.c5
   obtain ⟨o0,o1,o2,o3,o4⟩ := b5.c5
   obtain ⟨xf0,xf1,xf2⟩ := b0.f3
   obtain ⟨yf0,yf1,yf2,yf3,yf4⟩ := b4.f5
   obtain ⟨of0,of1,of2,of3,of4⟩ := b5.f5
   have tp := (HR_W9.out).cls C _ (show (wo.cls.set C ⟨1,wo.clock + 1,0,[],0⟩)[C]? = some ⟨1,wo.clock + 1,0,[],0⟩ from List.getElem?_set_self hCl)
   have tp0 := tp.cp
   clear tp
   go_upto_region 49 with (fail)
   obtain ⟨W8,hW8⟩ : ∃ W8,W8 = (W9.setCell ⟨g5,3,none⟩ (.int .i64 1)) := ⟨_,rfl⟩
   rw [← hW8]
   have b0 := BoxIs.to hW8 (.o1 b0 Xn05.out)
   have b1 := BoxIs.to hW8 (.o1 b1 Xn15.out)
   have b2 := BoxIs.to hW8 (.o1 b2 Xn25.out)
   have b3 := BoxIs.to hW8 (.o1 b3 Xn35.out)
   have b4 := BoxIs.to hW8 (.o1 b4 Xn45.out)
   have b5 : BoxIs W8 g5 [.int .i64 0,.bool false,.string ⟨#[]⟩,.int .i64 1,.int .i64 (wo.clock + 1)] := BoxIs.to hW8 (.set b5 3 _)
   have HW8 := Lib.hid hW8
   clear hW8
   clear tp0
   clear x0 x1 x2 a0 a1 a2 a3 y0 y1 y2 y3 y4 o0 o1 o2 o3 o4 xf0 xf1 xf2 yf0 yf1 yf2 yf3 yf4 of0 of1 of2 of3 of4
   obtain ⟨x0,x1,x2⟩ := b0.c3
   obtain ⟨a0,a1,a2,a3⟩ := b1.c4
   obtain ⟨y0,y1,y2,y3,y4⟩ := b4.c5
   obtain ⟨o0,o1,o2,o3,o4⟩ := b5.c5
   obtain ⟨xf0,xf1,xf2⟩ := b0.f3
   obtain ⟨yf0,yf1,yf2,yf3,yf4⟩ := b4.f5
   obtain ⟨of0,of1,of2,of3,of4⟩ := b5.f5
   obtain ⟨r0,r1,r2⟩ := b2.c3
   obtain ⟨s0,s1,s2,s3,s4⟩ := b3.c5
   obtain ⟨rf0,rf1,rf2⟩ := b2.f3
   obtain ⟨sf0,sf1,sf2,sf3,sf4⟩ := b3.f5
   have n23 := Xn23.out
   have n32 := Xn32.out
   have n02 := Xn02.out
   have n20 := Xn20.out
   have n03 := Xn03.out
   have n30 := Xn30.out
   have n25 := Xn25.out
   have n52 := Xn52.out
   have n35 := Xn35.out
   have n53 := Xn53.out
   go_region
   obtain ⟨V,hV,⟨e0,e1,e2⟩,⟨d0,d1,d2,d3,d4⟩,hsV⟩ := two_stores (W := W8) (g := g2) (g' := g3) n23 r0 r1 r2 s0 s1 s2 s3 s4 (.slice RA2 wo.rows.length rc2) (.int .i64 (wo.clock + 1)) (.slice (some ⟨gC,0,none⟩) wo.cls.length cc2) (.int .i64 0) (.bool false) (.string ⟨#[]⟩) (.int .i64 1) (.int .i64 (wo.clock + 1))
   rw [← hV]
   have HFIN := Lib.hid (did_end (V := V) (w := w) (n1 := n1) (g4 := g4) (g5 := g5) (g2 := g2) (g3 := g3) HR_W9.out HB_W9.out HW8.out hV (by have := HGG.out; omega) (by have := HGG.out; omega) (by have := HGG.out; omega))
   clear hV
   go_wp2
   exact bodyPost_ret (v := .tuple #[.agg #[.slice RA2 wo.rows.length rc2,.int .i64 (wo.clock + 1),.slice (some ⟨gC,0,none⟩) wo.cls.length cc2],.agg #[.int .i64 0,.bool false,.string ⟨#[]⟩,.int .i64 1,.int .i64 (wo.clock + 1)],.int .i64 0]) (by simp [results,Tryz.results7,go_sem,e0,e1,e2,d0,d1,d2,d3,d4]) rfl
    ⟨HFIN.out.2,.inr ⟨HE0.out,RA2,wo.rows.length,rc2,some ⟨gC,0,none⟩,wo.cls.length,cc2,by rw [doW,HPF.out]; dsimp only; rw [Int.toNat_natCast,getD_of_get (show (wo.cls.set C ⟨1,wo.clock + 1,0,[],0⟩)[C]? = some ⟨1,wo.clock + 1,0,[],0⟩ from List.getElem?_set_self hCl)]; try rfl,by rw [doW,HPF.out]; exact HFIN.out.1⟩⟩
  ·have HPF := Lib.hid (show performW wo ⟨1,(C : Int),key,val⟩ = (wo,ansCode 6) by
    unfold performW; dsimp only; rw [if_pos rfl,Int.toNat_natCast,HCD.out,beginW,if_neg hp])
   have hp' : (c.ph == 0) = false := beq_eq_false_iff_ne.2 hp
   obtain ⟨x0,x1,x2⟩ := b0.c3
   obtain ⟨a0,a1,a2,a3⟩ := b1.c4
   obtain ⟨y0,y1,y2,y3,y4⟩ := b4.c5
   obtain ⟨o0,o1,o2,o3,o4⟩ := b5.c5
   obtain ⟨xf0,xf1,xf2⟩ := b0.f3
   obtain ⟨yf0,yf1,yf2,yf3,yf4⟩ := b4.f5
   obtain ⟨of0,of1,of2,of3,of4⟩ := b5.f5
   go_upto_region 48 with (fail)
   obtain ⟨W6,hW6⟩ : ∃ W6,W6 = (W5.setCell ⟨g5,0,none⟩ (.int .i64 6)) := ⟨_,rfl⟩
   rw [← hW6]
   have b0 := BoxIs.to hW6 (.o1 b0 Xn05.out)
   have b1 := BoxIs.to hW6 (.o1 b1 Xn15.out)
   have b2 := BoxIs.to hW6 (.o1 b2 Xn25.out)
   have b3 := BoxIs.to hW6 (.o1 b3 Xn35.out)
   have b4 := BoxIs.to hW6 (.o1 b4 Xn45.out)
   have b5 : BoxIs W6 g5 [.int .i64 6,.bool false,.string ⟨#[]⟩,.int .i64 0,.int .i64 0] := BoxIs.to hW6 (.set b5 0 _)
   have HW6 := Lib.hid hW6
   clear hW6
   have HR6 := Lib.hid (show RefW W6 (fun b => b < n1 ∨ b = g4 ∨ b = g5) gC RA2 wo.rows.length rc2 wo.cls.length cc2 wo by rw [HW6.out]; exact HRF.out.box (.inr (.inr rfl)) Xk5.out _ _)
   have HB6 := Lib.hid (show Below w.heap.size w W6 by rw [HW6.out]; exact HB5.out.setCell (by show w.heap.size ≤ g5; have := HGG.out; omega) _)
   clear x0 x1 x2 a0 a1 a2 a3 y0 y1 y2 y3 y4 o0 o1 o2 o3 o4 xf0 xf1 xf2 yf0 yf1 yf2 yf3 yf4 of0 of1 of2 of3 of4
   obtain ⟨x0,x1,x2⟩ := b0.c3
   obtain ⟨a0,a1,a2,a3⟩ := b1.c4
   obtain ⟨y0,y1,y2,y3,y4⟩ := b4.c5
   obtain ⟨o0,o1,o2,o3,o4⟩ := b5.c5
   obtain ⟨xf0,xf1,xf2⟩ := b0.f3
   obtain ⟨yf0,yf1,yf2,yf3,yf4⟩ := b4.f5
   obtain ⟨of0,of1,of2,of3,of4⟩ := b5.f5
   have tp := (HR6.out).cls C _ HCL.out
   have tp0 := tp.cp
   clear tp
   go_upto_region 49 with (fail)
   obtain ⟨W8,hW8⟩ : ∃ W8,W8 = (W6.setCell ⟨g5,3,none⟩ (.int .i64 c.ph)) := ⟨_,rfl⟩
   rw [← hW8]
   have b0 := BoxIs.to hW8 (.o1 b0 Xn05.out)
   have b1 := BoxIs.to hW8 (.o1 b1 Xn15.out)
   have b2 := BoxIs.to hW8 (.o1 b2 Xn25.out)
   have b3 := BoxIs.to hW8 (.o1 b3 Xn35.out)
   have b4 := BoxIs.to hW8 (.o1 b4 Xn45.out)
   have b5 : BoxIs W8 g5 [.int .i64 6,.bool false,.string ⟨#[]⟩,.int .i64 c.ph,.int .i64 0] := BoxIs.to hW8 (.set b5 3 _)
   have HW8 := Lib.hid hW8
   clear hW8
   clear tp0
   clear x0 x1 x2 a0 a1 a2 a3 y0 y1 y2 y3 y4 o0 o1 o2 o3 o4 xf0 xf1 xf2 yf0 yf1 yf2 yf3 yf4 of0 of1 of2 of3 of4
   obtain ⟨x0,x1,x2⟩ := b0.c3
   obtain ⟨a0,a1,a2,a3⟩ := b1.c4
   obtain ⟨y0,y1,y2,y3,y4⟩ := b4.c5
   obtain ⟨o0,o1,o2,o3,o4⟩ := b5.c5
   obtain ⟨xf0,xf1,xf2⟩ := b0.f3
   obtain ⟨yf0,yf1,yf2,yf3,yf4⟩ := b4.f5
   obtain ⟨of0,of1,of2,of3,of4⟩ := b5.f5
   obtain ⟨r0,r1,r2⟩ := b2.c3
   obtain ⟨s0,s1,s2,s3,s4⟩ := b3.c5
   obtain ⟨rf0,rf1,rf2⟩ := b2.f3
   obtain ⟨sf0,sf1,sf2,sf3,sf4⟩ := b3.f5
   have n23 := Xn23.out
   have n32 := Xn32.out
   have n02 := Xn02.out
   have n20 := Xn20.out
   have n03 := Xn03.out
   have n30 := Xn30.out
   have n25 := Xn25.out
   have n52 := Xn52.out
   have n35 := Xn35.out
   have n53 := Xn53.out
   go_region
   obtain ⟨V,hV,⟨e0,e1,e2⟩,⟨d0,d1,d2,d3,d4⟩,hsV⟩ := two_stores (W := W8) (g := g2) (g' := g3) n23 r0 r1 r2 s0 s1 s2 s3 s4 (.slice RA2 wo.rows.length rc2) (.int .i64 wo.clock) (.slice (some ⟨gC,0,none⟩) wo.cls.length cc2) (.int .i64 6) (.bool false) (.string ⟨#[]⟩) (.int .i64 c.ph) (.int .i64 0)
   rw [← hV]
   have HFIN := Lib.hid (did_end (V := V) (w := w) (n1 := n1) (g4 := g4) (g5 := g5) (g2 := g2) (g3 := g3) HR6.out HB6.out HW8.out hV (by have := HGG.out; omega) (by have := HGG.out; omega) (by have := HGG.out; omega))
   clear hV
   go_wp2
   exact bodyPost_ret (v := .tuple #[.agg #[.slice RA2 wo.rows.length rc2,.int .i64 wo.clock,.slice (some ⟨gC,0,none⟩) wo.cls.length cc2],.agg #[.int .i64 6,.bool false,.string ⟨#[]⟩,.int .i64 c.ph,.int .i64 0],.int .i64 0]) (by simp [results,Tryz.results7,go_sem,e0,e1,e2,d0,d1,d2,d3,d4]) rfl
    ⟨HFIN.out.2,.inr ⟨HE0.out,RA2,wo.rows.length,rc2,some ⟨gC,0,none⟩,wo.cls.length,cc2,by rw [doW,HPF.out]; dsimp only; rw [Int.toNat_natCast,getD_of_get HCL.out]; try rfl,by rw [doW,HPF.out]; exact HFIN.out.1⟩⟩
 ·have HWA := Lib.hid (writeAt_any key (fun b => b < W5.heap.size ∧ b ≠ gC ∧ ¬ (b < n1 ∨ b = g4 ∨ b = g5)) WA c.ws.length wk c.ws W5 rfl HWS.out (fun b hb => hb.1) (cl_inc (ok_client HOKW.out HCL.out)))
  obtain ⟨iv,hiv⟩ : ∃ iv : Int,iv = (if hasK (wrKeys c.ws) key = true then (lowIx (wrKeys c.ws) key : Int) else -1) := ⟨_,rfl⟩
  rw [← hiv] at HWA
  have HIV := Lib.hid hiv
  have HGA := Lib.hid (show performW wo ⟨2,(C : Int),key,val⟩ = (wo,getA wo c key) by
   unfold performW; dsimp only; rw [if_neg (by decide),if_pos rfl,Int.toNat_natCast,HCD.out])
  clear hiv
  obtain ⟨x0,x1,x2⟩ := b0.c3
  obtain ⟨a0,a1,a2,a3⟩ := b1.c4
  obtain ⟨y0,y1,y2,y3,y4⟩ := b4.c5
  obtain ⟨o0,o1,o2,o3,o4⟩ := b5.c5
  obtain ⟨xf0,xf1,xf2⟩ := b0.f3
  obtain ⟨yf0,yf1,yf2,yf3,yf4⟩ := b4.f5
  obtain ⟨of0,of1,of2,of3,of4⟩ := b5.f5
  go_wp2_with fail
  refine HWA.out.mono ?_
  rintro e w6 ⟨rfl,hb6⟩
  have b0 := BoxIs.upto b0 hb6
  have b1 := BoxIs.upto b1 hb6
  have b2 := BoxIs.upto b2 hb6
  have b3 := BoxIs.upto b3 hb6
  have b4 := BoxIs.upto b4 hb6
  have b5 := BoxIs.upto b5 hb6
  have HRW6 := Lib.hid (HRF.out.upto hb6)
  have HB6 := Lib.hid (below_next HB5.out hb6)
  have HB56 := Lib.hid hb6
  clear hb6
  clear x0 x1 x2 a0 a1 a2 a3 y0 y1 y2 y3 y4 o0 o1 o2 o3 o4 xf0 xf1 xf2 yf0 yf1 yf2 yf3 yf4 of0 of1 of2 of3 of4
  obtain ⟨x0,x1,x2⟩ := b0.c3
  obtain ⟨a0,a1,a2,a3⟩ := b1.c4
  obtain ⟨y0,y1,y2,y3,y4⟩ := b4.c5
  obtain ⟨o0,o1,o2,o3,o4⟩ := b5.c5
  obtain ⟨xf0,xf1,xf2⟩ := b0.f3
  obtain ⟨yf0,yf1,yf2,yf3,yf4⟩ := b4.f5
  obtain ⟨of0,of1,of2,of3,of4⟩ := b5.f5
  by_cases hp : c.ph = 1
  ·have HPH := Lib.hid hp
   have hp' : (c.ph == 1) = true := beq_iff_eq.2 hp
   clear hp
   cases hkb : keyB key with
   | false =>
    have HPF := Lib.hid (show performW wo ⟨2,(C : Int),key,val⟩ = (wo,ansCode 4) by rw [HGA.out,getA,show accessE c key = 4 by rw [accessE,if_neg (by rw [HPH.out]; decide),if_pos hkb],if_pos (by decide)])
    go_upto_region 48 with ((go_at_call 18; refine (keyMay_any _ _ HKS.out).mono ?_; rintro e w' ⟨rfl,rfl⟩))
    obtain ⟨W7,hW7⟩ : ∃ W7,W7 = (w6.setCell ⟨g5,0,none⟩ (.int .i64 4)) := ⟨_,rfl⟩
    rw [← hW7]
    have b0 := BoxIs.to hW7 (.o1 b0 Xn05.out)
    have b1 := BoxIs.to hW7 (.o1 b1 Xn15.out)
    have b2 := BoxIs.to hW7 (.o1 b2 Xn25.out)
    have b3 := BoxIs.to hW7 (.o1 b3 Xn35.out)
    have b4 := BoxIs.to hW7 (.o1 b4 Xn45.out)
    have b5 : BoxIs W7 g5 [.int .i64 4,.bool false,.string ⟨#[]⟩,.int .i64 0,.int .i64 0] := BoxIs.to hW7 (.set b5 0 _)
    have HW7 := Lib.hid hW7
    clear hW7
    have HR_W7 := Lib.hid (show RefW W7 (fun b => b < n1 ∨ b = g4 ∨ b = g5) gC RA2 wo.rows.length rc2 wo.cls.length cc2 wo by rw [HW7.out]; exact (RefW.box HRW6.out (.inr (.inr rfl)) Xk5.out _ _))
    have HB_W7 := Lib.hid (show Below w.heap.size w W7 by
     have hgg := HGG.out
     have l5 : w.heap.size ≤ g5 := by omega
     rw [HW7.out]
     exact (HB6.out).setCell l5 _)
    clear x0 x1 x2 a0 a1 a2 a3 y0 y1 y2 y3 y4 o0 o1 o2 o3 o4 xf0 xf1 xf2 yf0 yf1 yf2 yf3 yf4 of0 of1 of2 of3 of4
    obtain ⟨x0,x1,x2⟩ := b0.c3
    obtain ⟨a0,a1,a2,a3⟩ := b1.c4
    obtain ⟨y0,y1,y2,y3,y4⟩ := b4.c5
    obtain ⟨o0,o1,o2,o3,o4⟩ := b5.c5
    obtain ⟨xf0,xf1,xf2⟩ := b0.f3
    obtain ⟨yf0,yf1,yf2,yf3,yf4⟩ := b4.f5
    obtain ⟨of0,of1,of2,of3,of4⟩ := b5.f5
    have tp := (HR_W7.out).cls C _ HCL.out
    have tp0 := tp.cp
    clear tp
    go_upto_region 49 with (fail)
    obtain ⟨W8,hW8⟩ : ∃ W8,W8 = (W7.setCell ⟨g5,3,none⟩ (.int .i64 c.ph)) := ⟨_,rfl⟩
    rw [← hW8]
    have b0 := BoxIs.to hW8 (.o1 b0 Xn05.out)
    have b1 := BoxIs.to hW8 (.o1 b1 Xn15.out)
    have b2 := BoxIs.to hW8 (.o1 b2 Xn25.out)
    have b3 := BoxIs.to hW8 (.o1 b3 Xn35.out)
    have b4 := BoxIs.to hW8 (.o1 b4 Xn45.out)
    have b5 : BoxIs W8 g5 [.int .i64 4,.bool false,.string ⟨#[]⟩,.int .i64 c.ph,.int .i64 0] := BoxIs.to hW8 (.set b5 3 _)
    have HW8 := Lib.hid hW8
    clear hW8
    clear tp0
    clear x0 x1 x2 a0 a1 a2 a3 y0 y1 y2 y3 y4 o0 o1 o2 o3 o4 xf0 xf1 xf2 yf0 yf1 yf2 yf3 yf4 of0 of1 of2 of3 of4
    obtain ⟨x0,x1,x2⟩ := b0.c3
    obtain ⟨a0,a1,a2,a3⟩ := b1.c4
    obtain ⟨y0,y1,y2,y3,y4⟩ := b4.c5
    obtain ⟨o0,o1,o2,o3,o4⟩ := b5.c5
    obtain ⟨xf0,xf1,xf2⟩ := b0.f3
    obtain ⟨yf0,yf1,yf2,yf3,yf4⟩ := b4.f5
    obtain ⟨of0,of1,of2,of3,of4⟩ := b5.f5
    obtain ⟨r0,r1,r2⟩ := b2.c3
    obtain ⟨s0,s1,s2,s3,s4⟩ := b3.c5
    obtain ⟨rf0,rf1,rf2⟩ := b2.f3
    obtain ⟨sf0,sf1,sf2,sf3,sf4⟩ := b3.f5
    have n23 := Xn23.out
    have n32 := Xn32.out
    have n02 := Xn02.out
    have n20 := Xn20.out
    have n03 := Xn03.out
    have n30 := Xn30.out
    have n25 := Xn25.out
    have n52 := Xn52.out
    have n35 := Xn35.out
    have n53 := Xn53.out
    go_region
    obtain ⟨V,hV,⟨e0,e1,e2⟩,⟨d0,d1,d2,d3,d4⟩,hsV⟩ := two_stores (W := W8) (g := g2) (g' := g3) n23 r0 r1 r2 s0 s1 s2 s3 s4 (.slice RA2 wo.rows.length rc2) (.int .i64 wo.clock) (.slice (some ⟨gC,0,none⟩) wo.cls.length cc2) (.int .i64 4) (.bool false) (.string ⟨#[]⟩) (.int .i64 c.ph) (.int .i64 0)
    rw [← hV]
    have HFIN := Lib.hid (did_end (V := V) (w := w) (n1 := n1) (g4 := g4) (g5 := g5) (g2 := g2) (g3 := g3) HR_W7.out HB_W7.out HW8.out hV (by have := HGG.out; omega) (by have := HGG.out; omega) (by have := HGG.out; omega))
    clear hV
    go_wp2
    exact bodyPost_ret (v := .tuple #[.agg #[.slice RA2 wo.rows.length rc2,.int .i64 wo.clock,.slice (some ⟨gC,0,none⟩) wo.cls.length cc2],.agg #[.int .i64 4,.bool false,.string ⟨#[]⟩,.int .i64 c.ph,.int .i64 0],.int .i64 0]) (by simp [results,Tryz.results7,go_sem,e0,e1,e2,d0,d1,d2,d3,d4]) rfl
     ⟨HFIN.out.2,.inr ⟨HE0.out,RA2,wo.rows.length,rc2,some ⟨gC,0,none⟩,wo.cls.length,cc2,by rw [doW,HPF.out]; dsimp only; rw [Int.toNat_natCast,getD_of_get HCL.out]; try rfl,by rw [doW,HPF.out]; exact HFIN.out.1⟩⟩
   | true =>
    have HAC := Lib.hid (show accessE c key = 0 by rw [accessE,if_neg (by rw [HPH.out]; decide),if_neg (by rw [hkb]; decide)])
    cases hw : hasK (wrKeys c.ws) key with
    | true =>
     have hlow : lowIx (wrKeys c.ws) key < c.ws.length := by
      have h := hw
      simp only [hasK,Bool.and_eq_true,decide_eq_true_eq,List.length_map] at h
      exact h.1
     obtain ⟨q,hqd⟩ : ∃ q,q = lowIx (wrKeys c.ws) key := ⟨_,rfl⟩
     obtain ⟨y,hyd⟩ : ∃ y,y = wrAt c.ws key := ⟨_,rfl⟩
     have HPF := Lib.hid (show performW wo ⟨2,(C : Int),key,val⟩ = (wo,⟨0,true,y.v,0,0⟩) by rw [HGA.out,getA,HAC.out,if_neg (by simp),if_pos hw,hyd])
     rw [← hqd] at hlow
     have hyq : c.ws[q]? = some y := by rw [hyd,wrAt,← hqd]; exact getD_some hlow
     obtain ⟨wb,wof,hWAe,hwbp,hwr⟩ := SeqAt.at_ HWS.out hyq
     subst hWAe
     have wv : w6.cell? ⟨wb,wof + q * 2 + 1,none⟩ = some (.string y.v) := (HB56.out.cell (p := ⟨wb,wof + q * 2 + 1,none⟩) hwbp.1).trans hwr.v
     have hiq : iv = (q : Int) := by rw [HIV.out,if_pos hw,← hqd]
     subst hiq
     have i0 : (0 : Int) ≤ (q : Int) := by omega
     have i0' : decide ((0 : Int) ≤ (q : Int)) = true := decide_eq_true i0
     have i1 : (q : Int) < (c.ws.length : Int) := by omega
     have hwb6 : wb < w6.heap.size := World.block_lt_of_cell? w6 _ wv
     clear hyq hwr hqd hyd hwbp
     go_upto_region 48 with ((go_at_call 18; refine (keyMay_any _ _ HKS.out).mono ?_; rintro e w' ⟨rfl,rfl⟩))
     obtain ⟨W7,hW7⟩ : ∃ W7,W7 = ((w6.setCell ⟨g5,2,none⟩ (.string y.v)).setCell ⟨g5,1,none⟩ (.bool true)) := ⟨_,rfl⟩
     rw [← hW7]
     have b0 := BoxIs.to hW7 (.o1 (.o1 b0 Xn05.out) Xn05.out)
     have b1 := BoxIs.to hW7 (.o1 (.o1 b1 Xn15.out) Xn15.out)
     have b2 := BoxIs.to hW7 (.o1 (.o1 b2 Xn25.out) Xn25.out)
     have b3 := BoxIs.to hW7 (.o1 (.o1 b3 Xn35.out) Xn35.out)
     have b4 := BoxIs.to hW7 (.o1 (.o1 b4 Xn45.out) Xn45.out)
     have b5 : BoxIs W7 g5 [.int .i64 0,.bool true,.string y.v,.int .i64 0,.int .i64 0] := BoxIs.to hW7 (.set (.set b5 2 _) 1 _)
     have HW7 := Lib.hid hW7
     clear hW7
     have HR_W7 := Lib.hid (show RefW W7 (fun b => b < n1 ∨ b = g4 ∨ b = g5) gC RA2 wo.rows.length rc2 wo.cls.length cc2 wo by rw [HW7.out]; exact (RefW.box (RefW.box HRW6.out (.inr (.inr rfl)) Xk5.out _ _) (.inr (.inr rfl)) Xk5.out _ _))
     have HB_W7 := Lib.hid (show Below w.heap.size w W7 by
      have hgg := HGG.out
      have l5 : w.heap.size ≤ g5 := by omega
      rw [HW7.out]
      exact ((HB6.out).setCell l5 _).setCell l5 _)
     clear x0 x1 x2 a0 a1 a2 a3 y0 y1 y2 y3 y4 o0 o1 o2 o3 o4 xf0 xf1 xf2 yf0 yf1 yf2 yf3 yf4 of0 of1 of2 of3 of4
     obtain ⟨x0,x1,x2⟩ := b0.c3
     obtain ⟨a0,a1,a2,a3⟩ := b1.c4
     obtain ⟨y0,y1,y2,y3,y4⟩ := b4.c5
     obtain ⟨o0,o1,o2,o3,o4⟩ := b5.c5
     obtain ⟨xf0,xf1,xf2⟩ := b0.f3
     obtain ⟨yf0,yf1,yf2,yf3,yf4⟩ := b4.f5
     obtain ⟨of0,of1,of2,of3,of4⟩ := b5.f5
     have tp := (HR_W7.out).cls C _ HCL.out
     have tp0 := tp.cp
     clear tp
     go_upto_region 49 with (fail)
     obtain ⟨W8,hW8⟩ : ∃ W8,W8 = (W7.setCell ⟨g5,3,none⟩ (.int .i64 c.ph)) := ⟨_,rfl⟩
     rw [← hW8]
     have b0 := BoxIs.to hW8 (.o1 b0 Xn05.out)
     have b1 := BoxIs.to hW8 (.o1 b1 Xn15.out)
     have b2 := BoxIs.to hW8 (.o1 b2 Xn25.out)
     have b3 := BoxIs.to hW8 (.o1 b3 Xn35.out)
     have b4 := BoxIs.to hW8 (.o1 b4 Xn45.out)
     have b5 : BoxIs W8 g5 [.int .i64 0,.bool true,.string y.v,.int .i64 c.ph,.int .i64 0] := BoxIs.to hW8 (.set b5 3 _)
     have HW8 := Lib.hid hW8
     clear hW8
     clear tp0
     clear x0 x1 x2 a0 a1 a2 a3 y0 y1 y2 y3 y4 o0 o1 o2 o3 o4 xf0 xf1 xf2 yf0 yf1 yf2 yf3 yf4 of0 of1 of2 of3 of4
     obtain ⟨x0,x1,x2⟩ := b0.c3
     obtain ⟨a0,a1,a2,a3⟩ := b1.c4
     obtain ⟨y0,y1,y2,y3,y4⟩ := b4.c5
     obtain ⟨o0,o1,o2,o3,o4⟩ := b5.c5
     obtain ⟨xf0,xf1,xf2⟩ := b0.f3
     obtain ⟨yf0,yf1,yf2,yf3,yf4⟩ := b4.f5
     obtain ⟨of0,of1,of2,of3,of4⟩ := b5.f5
     obtain ⟨r0,r1,r2⟩ := b2.c3
     obtain ⟨s0,s1,s2,s3,s4⟩ := b3.c5
     obtain ⟨rf0,rf1,rf2⟩ := b2.f3
     obtain ⟨sf0,sf1,sf2,sf3,sf4⟩ := b3.f5
     have n23 := Xn23.out
     have n32 := Xn32.out
     have n02 := Xn02.out
     have n20 := Xn20.out
     have n03 := Xn03.out
     have n30 := Xn30.out
     have n25 := Xn25.out
     have n52 := Xn52.out
     have n35 := Xn35.out
     have n53 := Xn53.out
     go_region
     obtain ⟨V,hV,⟨e0,e1,e2⟩,⟨d0,d1,d2,d3,d4⟩,hsV⟩ := two_stores (W := W8) (g := g2) (g' := g3) n23 r0 r1 r2 s0 s1 s2 s3 s4 (.slice RA2 wo.rows.length rc2) (.int .i64 wo.clock) (.slice (some ⟨gC,0,none⟩) wo.cls.length cc2) (.int .i64 0) (.bool true) (.string y.v) (.int .i64 c.ph) (.int .i64 0)
     rw [← hV]
     have HFIN := Lib.hid (did_end (V := V) (w := w) (n1 := n1) (g4 := g4) (g5 := g5) (g2 := g2) (g3 := g3) HR_W7.out HB_W7.out HW8.out hV (by have := HGG.out; omega) (by have := HGG.out; omega) (by have := HGG.out; omega))
     clear hV
     go_wp2
     exact bodyPost_ret (v := .tuple #[.agg #[.slice RA2 wo.rows.length rc2,.int .i64 wo.clock,.slice (some ⟨gC,0,none⟩) wo.cls.length cc2],.agg #[.int .i64 0,.bool true,.string y.v,.int .i64 c.ph,.int .i64 0],.int .i64 0]) (by simp [results,Tryz.results7,go_sem,e0,e1,e2,d0,d1,d2,d3,d4]) rfl
      ⟨HFIN.out.2,.inr ⟨HE0.out,RA2,wo.rows.length,rc2,some ⟨gC,0,none⟩,wo.cls.length,cc2,by rw [doW,HPF.out]; dsimp only; rw [Int.toNat_natCast,getD_of_get HCL.out]; try rfl,by rw [doW,HPF.out]; exact HFIN.out.1⟩⟩
    | false =>
     have hiq : iv = -1 := by rw [HIV.out,if_neg (by rw [hw]; decide)]
     subst hiq
     have HRO := Lib.hid (rowOf_any key (fun b => b < w6.heap.size ∧ b ≠ gC ∧ ¬ (b < n1 ∨ b = g4 ∨ b = g5)) RA2 (some ⟨gC,0,none⟩) wo.rows.length rc2 wo.cls.length cc2 wo.clock wo.rows w6 rfl HRW6.out.rows (fun b hb => hb.1) (ok_rows HOKW.out).inc HKS.out)
     have HKB := Lib.hid (show keyB key = true by simpa using hkb)
     go_wp2_with (go_at_call 18; refine (keyMay_any _ _ HKS.out).mono ?_; rintro e w' ⟨rfl,rfl⟩)
     refine HRO.out.mono ?_
     rintro e w7 ⟨A7,c7,rfl,hh7,hb7⟩
     obtain ⟨r,hrd⟩ : ∃ r,r = look wo.rows key := ⟨_,rfl⟩
     rw [← hrd] at hh7 ⊢
     have b0 := BoxIs.upto b0 hb7
     have b1 := BoxIs.upto b1 hb7
     have b2 := BoxIs.upto b2 hb7
     have b3 := BoxIs.upto b3 hb7
     have b4 := BoxIs.upto b4 hb7
     have b5 := BoxIs.upto b5 hb7
     have HRW7 := Lib.hid (HRW6.out.upto hb7)
     have HB7 := Lib.hid (below_next HB6.out hb7)
     have HH7 := Lib.hid (show RowHas w7 (fun b => b < w6.heap.size ∧ b ≠ gC ∧ ¬ (b < n1 ∨ b = g4 ∨ b = g5)) (r,A7,c7) from hh7.mono (fun _ h => h) (fun b k hp => hb7.cell (p := ⟨b,k,none⟩) hp.1))
     have HS67 := Lib.hid hb7.size
     obtain ⟨W8',hW8',z0,z1,z2,z3,z4,hb8,hs8⟩ := box_new w7 (.string r.key) (.int .i64 r.ls) (.string r.lp) (.string r.val) (.slice A7 r.recs.length c7) 45
     have HW8' := Lib.hid hW8'
     have HRW8 := Lib.hid (HRW7.out.upto hb8)
     have HB8 := Lib.hid (below_next HB7.out hb8)
     have HBB := Lib.hid hb8
     have HRDD := Lib.hid hrd
     have lt0 : g0 < w7.heap.size := b0.lt
     have lt1 : g1 < w7.heap.size := b1.lt
     have lt4 : g4 < w7.heap.size := b4.lt
     have lt5 : g5 < w7.heap.size := b5.lt
     clear hb7 hh7 hrd hW8' z0 z1 z2 z3 z4 hb8 hs8
     clear x0 x1 x2 a0 a1 a2 a3 y0 y1 y2 y3 y4 o0 o1 o2 o3 o4 xf0 xf1 xf2 yf0 yf1 yf2 yf3 yf4 of0 of1 of2 of3 of4
     obtain ⟨x0,x1,x2⟩ := b0.c3
     obtain ⟨a0,a1,a2,a3⟩ := b1.c4
     obtain ⟨y0,y1,y2,y3,y4⟩ := b4.c5
     obtain ⟨o0,o1,o2,o3,o4⟩ := b5.c5
     obtain ⟨xf0,xf1,xf2⟩ := b0.f3
     obtain ⟨yf0,yf1,yf2,yf3,yf4⟩ := b4.f5
     obtain ⟨of0,of1,of2,of3,of4⟩ := b5.f5
     cases hth : hasK (rowKeys wo.rows) key with
     | false =>
      have HPF := Lib.hid (show performW wo ⟨2,(C : Int),key,val⟩ = (wo,ansCode 0) by rw [HGA.out,getA,HAC.out,if_neg (by simp),if_neg (by rw [hw]; decide),if_neg (by rw [hth]; decide)])
      go_upto_region 48 with (fail)
      rw [← HW8'.out]
      have b0 := BoxIs.upto b0 HBB.out
      have b1 := BoxIs.upto b1 HBB.out
      have b2 := BoxIs.upto b2 HBB.out
      have b3 := BoxIs.upto b3 HBB.out
      have b4 := BoxIs.upto b4 HBB.out
      have b5 := BoxIs.upto b5 HBB.out
      clear x0 x1 x2 a0 a1 a2 a3 y0 y1 y2 y3 y4 o0 o1 o2 o3 o4 xf0 xf1 xf2 yf0 yf1 yf2 yf3 yf4 of0 of1 of2 of3 of4
      obtain ⟨x0,x1,x2⟩ := b0.c3
      obtain ⟨a0,a1,a2,a3⟩ := b1.c4
      obtain ⟨y0,y1,y2,y3,y4⟩ := b4.c5
      obtain ⟨o0,o1,o2,o3,o4⟩ := b5.c5
      obtain ⟨xf0,xf1,xf2⟩ := b0.f3
      obtain ⟨yf0,yf1,yf2,yf3,yf4⟩ := b4.f5
      obtain ⟨of0,of1,of2,of3,of4⟩ := b5.f5
      have tp := (HRW8.out).cls C _ HCL.out
      have tp0 := tp.cp
      clear tp
      go_upto_region 49 with (fail)
      obtain ⟨W8,hW8⟩ : ∃ W8,W8 = (W8'.setCell ⟨g5,3,none⟩ (.int .i64 c.ph)) := ⟨_,rfl⟩
      rw [← hW8]
      have b0 := BoxIs.to hW8 (.o1 b0 Xn05.out)
      have b1 := BoxIs.to hW8 (.o1 b1 Xn15.out)
      have b2 := BoxIs.to hW8 (.o1 b2 Xn25.out)
      have b3 := BoxIs.to hW8 (.o1 b3 Xn35.out)
      have b4 := BoxIs.to hW8 (.o1 b4 Xn45.out)
      have b5 : BoxIs W8 g5 [.int .i64 0,.bool false,.string ⟨#[]⟩,.int .i64 c.ph,.int .i64 0] := BoxIs.to hW8 (.set b5 3 _)
      have HW8 := Lib.hid hW8
      clear hW8
      clear tp0
      clear x0 x1 x2 a0 a1 a2 a3 y0 y1 y2 y3 y4 o0 o1 o2 o3 o4 xf0 xf1 xf2 yf0 yf1 yf2 yf3 yf4 of0 of1 of2 of3 of4
      obtain ⟨x0,x1,x2⟩ := b0.c3
      obtain ⟨a0,a1,a2,a3⟩ := b1.c4
      obtain ⟨y0,y1,y2,y3,y4⟩ := b4.c5
      obtain ⟨o0,o1,o2,o3,o4⟩ := b5.c5
      obtain ⟨xf0,xf1,xf2⟩ := b0.f3
      obtain ⟨yf0,yf1,yf2,yf3,yf4⟩ := b4.f5
      obtain ⟨of0,of1,of2,of3,of4⟩ := b5.f5
      obtain ⟨r0,r1,r2⟩ := b2.c3
      obtain ⟨s0,s1,s2,s3,s4⟩ := b3.c5
      obtain ⟨rf0,rf1,rf2⟩ := b2.f3
      obtain ⟨sf0,sf1,sf2,sf3,sf4⟩ := b3.f5
      have n23 := Xn23.out
      have n32 := Xn32.out
      have n02 := Xn02.out
      have n20 := Xn20.out
      have n03 := Xn03.out
      have n30 := Xn30.out
      have n25 := Xn25.out
      have n52 := Xn52.out
      have n35 := Xn35.out
      have n53 := Xn53.out
      go_region
      obtain ⟨V,hV,⟨e0,e1,e2⟩,⟨d0,d1,d2,d3,d4⟩,hsV⟩ := two_stores (W := W8) (g := g2) (g' := g3) n23 r0 r1 r2 s0 s1 s2 s3 s4 (.slice RA2 wo.rows.length rc2) (.int .i64 wo.clock) (.slice (some ⟨gC,0,none⟩) wo.cls.length cc2) (.int .i64 0) (.bool false) (.string ⟨#[]⟩) (.int .i64 c.ph) (.int .i64 0)
      rw [← hV]
      have HFIN := Lib.hid (did_end (V := V) (w := w) (n1 := n1) (g4 := g4) (g5 := g5) (g2 := g2) (g3 := g3) HRW8.out HB8.out HW8.out hV (by have := HGG.out; omega) (by have := HGG.out; omega) (by have := HGG.out; omega))
      clear hV
      go_wp2
      exact bodyPost_ret (v := .tuple #[.agg #[.slice RA2 wo.rows.length rc2,.int .i64 wo.clock,.slice (some ⟨gC,0,none⟩) wo.cls.length cc2],.agg #[.int .i64 0,.bool false,.string ⟨#[]⟩,.int .i64 c.ph,.int .i64 0],.int .i64 0]) (by simp [results,Tryz.results7,go_sem,e0,e1,e2,d0,d1,d2,d3,d4]) rfl
       ⟨HFIN.out.2,.inr ⟨HE0.out,RA2,wo.rows.length,rc2,some ⟨gC,0,none⟩,wo.cls.length,cc2,by rw [doW,HPF.out]; dsimp only; rw [Int.toNat_natCast,getD_of_get HCL.out]; try rfl,by rw [doW,HPF.out]; exact HFIN.out.1⟩⟩
     | true =>
      cases hbs : inB r.ls 1 c.st with
      | true =>
       have hrr : r = rowAt wo.rows key := by rw [HRDD.out,look,if_pos hth]
       have HPF := Lib.hid (show performW wo ⟨2,(C : Int),key,val⟩ = (wo,readA r c.st) by rw [HGA.out,getA,HAC.out,if_neg (by simp),if_neg (by rw [hw]; decide),if_pos hth,hrr])
       have HRV := Lib.hid (show r.ok = true by rw [HRDD.out]; exact look_valid (ok_rows HOKW.out) HKB.out)
       have hop := (HH7.out.op (fun b hb => Nat.lt_of_lt_of_le hb.1 HS67.out)).upto HBB.out
       have HRE := Lib.hid (refRead_busy r.key r.lp r.val r.ls A7 r.recs.length c7 r.recs c.st W8' hop.i (show rowB r.key r.ls r.lp r.val r.recs = true from HRV.out) (cl_time (ok_client HOKW.out HCL.out) (by omega) (by rw [HPH.out]; decide)) hbs)
       rw [readA,if_pos hbs] at HPF
       clear hrr hop
       go_wp2_with fail
       rw [← HW8'.out]
       refine HRE.out.mono ?_
       rintro e w9 ⟨rfl,hb9⟩
       have b0 := BoxIs.upto b0 (below_next HBB.out hb9)
       have b1 := BoxIs.upto b1 (below_next HBB.out hb9)
       have b2 := BoxIs.upto b2 (below_next HBB.out hb9)
       have b3 := BoxIs.upto b3 (below_next HBB.out hb9)
       have b4 := BoxIs.upto b4 (below_next HBB.out hb9)
       have b5 := BoxIs.upto b5 (below_next HBB.out hb9)
       have HRW9 := Lib.hid (HRW8.out.upto hb9)
       have HB9 := Lib.hid (below_next HB8.out hb9)
       clear hb9 lt0 lt1 lt4 lt5
       clear x0 x1 x2 a0 a1 a2 a3 y0 y1 y2 y3 y4 o0 o1 o2 o3 o4 xf0 xf1 xf2 yf0 yf1 yf2 yf3 yf4 of0 of1 of2 of3 of4
       obtain ⟨x0,x1,x2⟩ := b0.c3
       obtain ⟨a0,a1,a2,a3⟩ := b1.c4
       obtain ⟨y0,y1,y2,y3,y4⟩ := b4.c5
       obtain ⟨o0,o1,o2,o3,o4⟩ := b5.c5
       obtain ⟨xf0,xf1,xf2⟩ := b0.f3
       obtain ⟨yf0,yf1,yf2,yf3,yf4⟩ := b4.f5
       obtain ⟨of0,of1,of2,of3,of4⟩ := b5.f5
       go_upto_region 48 with (fail)
       obtain ⟨W7,hW7⟩ : ∃ W7,W7 = (((w9.setCell ⟨g5,2,none⟩ (.string ⟨#[]⟩)).setCell ⟨g5,1,none⟩ (.bool false)).setCell ⟨g5,0,none⟩ (.int .i64 7)) := ⟨_,rfl⟩
       rw [← hW7]
       have b0 := BoxIs.to hW7 (.o3 b0 Xn05.out)
       have b1 := BoxIs.to hW7 (.o3 b1 Xn15.out)
       have b2 := BoxIs.to hW7 (.o3 b2 Xn25.out)
       have b3 := BoxIs.to hW7 (.o3 b3 Xn35.out)
       have b4 := BoxIs.to hW7 (.o3 b4 Xn45.out)
       have b5 : BoxIs W7 g5 [.int .i64 7,.bool false,.string ⟨#[]⟩,.int .i64 0,.int .i64 0] := BoxIs.to hW7 (.set (.set (.set b5 2 _) 1 _) 0 _)
       have HW7 := Lib.hid hW7
       clear hW7
       have HR_W7 := Lib.hid (show RefW W7 (fun b => b < n1 ∨ b = g4 ∨ b = g5) gC RA2 wo.rows.length rc2 wo.cls.length cc2 wo by rw [HW7.out]; exact (RefW.box (RefW.box (RefW.box HRW9.out (.inr (.inr rfl)) Xk5.out _ _) (.inr (.inr rfl)) Xk5.out _ _) (.inr (.inr rfl)) Xk5.out _ _))
       have HB_W7 := Lib.hid (show Below w.heap.size w W7 by
        have hgg := HGG.out
        have l5 : w.heap.size ≤ g5 := by omega
        rw [HW7.out]
        exact (((HB9.out).setCell l5 _).setCell l5 _).setCell l5 _)
       clear x0 x1 x2 a0 a1 a2 a3 y0 y1 y2 y3 y4 o0 o1 o2 o3 o4 xf0 xf1 xf2 yf0 yf1 yf2 yf3 yf4 of0 of1 of2 of3 of4
       obtain ⟨x0,x1,x2⟩ := b0.c3
       obtain ⟨a0,a1,a2,a3⟩ := b1.c4
       obtain ⟨y0,y1,y2,y3,y4⟩ := b4.c5
       obtain ⟨o0,o1,o2,o3,o4⟩ := b5.c5
       obtain ⟨xf0,xf1,xf2⟩ := b0.f3
       obtain ⟨yf0,yf1,yf2,yf3,yf4⟩ := b4.f5
       obtain ⟨of0,of1,of2,of3,of4⟩ := b5.f5
       have tp := (HR_W7.out).cls C _ HCL.out
       have tp0 := tp.cp
       clear tp
       go_upto_region 49 with (fail)
       obtain ⟨W8,hW8⟩ : ∃ W8,W8 = (W7.setCell ⟨g5,3,none⟩ (.int .i64 c.ph)) := ⟨_,rfl⟩
       rw [← hW8]
       have b0 := BoxIs.to hW8 (.o1 b0 Xn05.out)
       have b1 := BoxIs.to hW8 (.o1 b1 Xn15.out)
       have b2 := BoxIs.to hW8 (.o1 b2 Xn25.out)
       have b3 := BoxIs.to hW8 (.o1 b3 Xn35.out)
       have b4 := BoxIs.to hW8 (.o1 b4 Xn45.out)
       have b5 : BoxIs W8 g5 [.int .i64 7,.bool false,.string ⟨#[]⟩,.int .i64 c.ph,.int .i64 0] := BoxIs.to hW8 (.set b5 3 _)
       have HW8 := Lib.hid hW8
       clear hW8
       clear tp0
       clear x0 x1 x2 a0 a1 a2 a3 y0 y1 y2 y3 y4 o0 o1 o2 o3 o4 xf0 xf1 xf2 yf0 yf1 yf2 yf3 yf4 of0 of1 of2 of3 of4
       obtain ⟨x0,x1,x2⟩ := b0.c3
       obtain ⟨a0,a1,a2,a3⟩ := b1.c4
       obtain ⟨y0,y1,y2,y3,y4⟩ := b4.c5
       obtain ⟨o0,o1,o2,o3,o4⟩ := b5.c5
       obtain ⟨xf0,xf1,xf2⟩ := b0.f3
       obtain ⟨yf0,yf1,yf2,yf3,yf4⟩ := b4.f5
       obtain ⟨of0,of1,of2,of3,of4⟩ := b5.f5
       obtain ⟨r0,r1,r2⟩ := b2.c3
       obtain ⟨s0,s1,s2,s3,s4⟩ := b3.c5
       obtain ⟨rf0,rf1,rf2⟩ := b2.f3
       obtain ⟨sf0,sf1,sf2,sf3,sf4⟩ := b3.f5
       have n23 := Xn23.out
       have n32 := Xn32.out
       have n02 := Xn02.out
       have n20 := Xn20.out
       have n03 := Xn03.out
       have n30 := Xn30.out
       have n25 := Xn25.out
       have n52 := Xn52.out
       have n35 := Xn35.out
       have n53 := Xn53.out
       go_region
       obtain ⟨V,hV,⟨e0,e1,e2⟩,⟨d0,d1,d2,d3,d4⟩,hsV⟩ := two_stores (W := W8) (g := g2) (g' := g3) n23 r0 r1 r2 s0 s1 s2 s3 s4 (.slice RA2 wo.rows.length rc2) (.int .i64 wo.clock) (.slice (some ⟨gC,0,none⟩) wo.cls.length cc2) (.int .i64 7) (.bool false) (.string ⟨#[]⟩) (.int .i64 c.ph) (.int .i64 0)
       rw [← hV]
       have HFIN := Lib.hid (did_end (V := V) (w := w) (n1 := n1) (g4 := g4) (g5 := g5) (g2 := g2) (g3 := g3) HR_W7.out HB_W7.out HW8.out hV (by have := HGG.out; omega) (by have := HGG.out; omega) (by have := HGG.out; omega))
       clear hV
       go_wp2
       exact bodyPost_ret (v := .tuple #[.agg #[.slice RA2 wo.rows.length rc2,.int .i64 wo.clock,.slice (some ⟨gC,0,none⟩) wo.cls.length cc2],.agg #[.int .i64 7,.bool false,.string ⟨#[]⟩,.int .i64 c.ph,.int .i64 0],.int .i64 0]) (by simp [results,Tryz.results7,go_sem,e0,e1,e2,d0,d1,d2,d3,d4]) rfl
        ⟨HFIN.out.2,.inr ⟨HE0.out,RA2,wo.rows.length,rc2,some ⟨gC,0,none⟩,wo.cls.length,cc2,by rw [doW,HPF.out]; dsimp only; rw [Int.toNat_natCast,getD_of_get HCL.out]; try rfl,by rw [doW,HPF.out]; exact HFIN.out.1⟩⟩
      | false =>
       have hrr : r = rowAt wo.rows key := by rw [HRDD.out,look,if_pos hth]
       have HPF := Lib.hid (show performW wo ⟨2,(C : Int),key,val⟩ = (wo,readA r c.st) by rw [HGA.out,getA,HAC.out,if_neg (by simp),if_neg (by rw [hw]; decide),if_pos hth,hrr])
       have HRV := Lib.hid (show r.ok = true by rw [HRDD.out]; exact look_valid (ok_rows HOKW.out) HKB.out)
       have hop := (HH7.out.op (fun b hb => Nat.lt_of_lt_of_le hb.1 HS67.out)).upto HBB.out
       have HRE := Lib.hid (refRead_ok r.key r.lp r.val r.ls A7 r.recs.length c7 r.recs c.st W8' hop.i (show rowB r.key r.ls r.lp r.val r.recs = true from HRV.out) (cl_time (ok_client HOKW.out HCL.out) (by omega) (by rw [HPH.out]; decide)) hbs)
       rw [readA,if_neg (by rw [hbs]; decide)] at HPF
       obtain ⟨bb,hbb⟩ : ∃ bb,bb = bestOf c.st r.recs := ⟨_,rfl⟩
       rw [← hbb] at HPF HRE
       clear hbb
       clear hrr hop
       go_wp2_with fail
       rw [← HW8'.out]
       refine HRE.out.mono ?_
       rintro e w9 ⟨rfl,hb9⟩
       have b0 := BoxIs.upto b0 (below_next HBB.out hb9)
       have b1 := BoxIs.upto b1 (below_next HBB.out hb9)
       have b2 := BoxIs.upto b2 (below_next HBB.out hb9)
       have b3 := BoxIs.upto b3 (below_next HBB.out hb9)
       have b4 := BoxIs.upto b4 (below_next HBB.out hb9)
       have b5 := BoxIs.upto b5 (below_next HBB.out hb9)
       have HRW9 := Lib.hid (HRW8.out.upto hb9)
       have HB9 := Lib.hid (below_next HB8.out hb9)
       clear hb9 lt0 lt1 lt4 lt5
       clear x0 x1 x2 a0 a1 a2 a3 y0 y1 y2 y3 y4 o0 o1 o2 o3 o4 xf0 xf1 xf2 yf0 yf1 yf2 yf3 yf4 of0 of1 of2 of3 of4
       obtain ⟨x0,x1,x2⟩ := b0.c3
       obtain ⟨a0,a1,a2,a3⟩ := b1.c4
       obtain ⟨y0,y1,y2,y3,y4⟩ := b4.c5
       obtain ⟨o0,o1,o2,o3,o4⟩ := b5.c5
       obtain ⟨xf0,xf1,xf2⟩ := b0.f3
       obtain ⟨yf0,yf1,yf2,yf3,yf4⟩ := b4.f5
       obtain ⟨of0,of1,of2,of3,of4⟩ := b5.f5
       go_upto_region 48 with (fail)
       obtain ⟨W7,hW7⟩ : ∃ W7,W7 = (((w9.setCell ⟨g5,2,none⟩ (.string bb.v)).setCell ⟨g5,1,none⟩ (.bool (decide (0 < bb.c)))).setCell ⟨g5,0,none⟩ (.int .i64 0)) := ⟨_,rfl⟩
       rw [← hW7]
       have b0 := BoxIs.to hW7 (.o3 b0 Xn05.out)
       have b1 := BoxIs.to hW7 (.o3 b1 Xn15.out)
       have b2 := BoxIs.to hW7 (.o3 b2 Xn25.out)
       have b3 := BoxIs.to hW7 (.o3 b3 Xn35.out)
       have b4 := BoxIs.to hW7 (.o3 b4 Xn45.out)
       have b5 : BoxIs W7 g5 [.int .i64 0,.bool (decide (0 < bb.c)),.string bb.v,.int .i64 0,.int .i64 0] := BoxIs.to hW7 (.set (.set (.set b5 2 _) 1 _) 0 _)
       have HW7 := Lib.hid hW7
       clear hW7
       have HR_W7 := Lib.hid (show RefW W7 (fun b => b < n1 ∨ b = g4 ∨ b = g5) gC RA2 wo.rows.length rc2 wo.cls.length cc2 wo by rw [HW7.out]; exact (RefW.box (RefW.box (RefW.box HRW9.out (.inr (.inr rfl)) Xk5.out _ _) (.inr (.inr rfl)) Xk5.out _ _) (.inr (.inr rfl)) Xk5.out _ _))
       have HB_W7 := Lib.hid (show Below w.heap.size w W7 by
        have hgg := HGG.out
        have l5 : w.heap.size ≤ g5 := by omega
        rw [HW7.out]
        exact (((HB9.out).setCell l5 _).setCell l5 _).setCell l5 _)
       clear x0 x1 x2 a0 a1 a2 a3 y0 y1 y2 y3 y4 o0 o1 o2 o3 o4 xf0 xf1 xf2 yf0 yf1 yf2 yf3 yf4 of0 of1 of2 of3 of4
       obtain ⟨x0,x1,x2⟩ := b0.c3
       obtain ⟨a0,a1,a2,a3⟩ := b1.c4
       obtain ⟨y0,y1,y2,y3,y4⟩ := b4.c5
       obtain ⟨o0,o1,o2,o3,o4⟩ := b5.c5
       obtain ⟨xf0,xf1,xf2⟩ := b0.f3
       obtain ⟨yf0,yf1,yf2,yf3,yf4⟩ := b4.f5
       obtain ⟨of0,of1,of2,of3,of4⟩ := b5.f5
       have tp := (HR_W7.out).cls C _ HCL.out
       have tp0 := tp.cp
       clear tp
       go_upto_region 49 with (fail)
       obtain ⟨W8,hW8⟩ : ∃ W8,W8 = (W7.setCell ⟨g5,3,none⟩ (.int .i64 c.ph)) := ⟨_,rfl⟩
       rw [← hW8]
       have b0 := BoxIs.to hW8 (.o1 b0 Xn05.out)
       have b1 := BoxIs.to hW8 (.o1 b1 Xn15.out)
       have b2 := BoxIs.to hW8 (.o1 b2 Xn25.out)
       have b3 := BoxIs.to hW8 (.o1 b3 Xn35.out)
       have b4 := BoxIs.to hW8 (.o1 b4 Xn45.out)
       have b5 : BoxIs W8 g5 [.int .i64 0,.bool (decide (0 < bb.c)),.string bb.v,.int .i64 c.ph,.int .i64 0] := BoxIs.to hW8 (.set b5 3 _)
       have HW8 := Lib.hid hW8
       clear hW8
       clear tp0
       clear x0 x1 x2 a0 a1 a2 a3 y0 y1 y2 y3 y4 o0 o1 o2 o3 o4 xf0 xf1 xf2 yf0 yf1 yf2 yf3 yf4 of0 of1 of2 of3 of4
       obtain ⟨x0,x1,x2⟩ := b0.c3
       obtain ⟨a0,a1,a2,a3⟩ := b1.c4
       obtain ⟨y0,y1,y2,y3,y4⟩ := b4.c5
       obtain ⟨o0,o1,o2,o3,o4⟩ := b5.c5
       obtain ⟨xf0,xf1,xf2⟩ := b0.f3
       obtain ⟨yf0,yf1,yf2,yf3,yf4⟩ := b4.f5
       obtain ⟨of0,of1,of2,of3,of4⟩ := b5.f5
       obtain ⟨r0,r1,r2⟩ := b2.c3
       obtain ⟨s0,s1,s2,s3,s4⟩ := b3.c5
       obtain ⟨rf0,rf1,rf2⟩ := b2.f3
       obtain ⟨sf0,sf1,sf2,sf3,sf4⟩ := b3.f5
       have n23 := Xn23.out
       have n32 := Xn32.out
       have n02 := Xn02.out
       have n20 := Xn20.out
       have n03 := Xn03.out
       have n30 := Xn30.out
       have n25 := Xn25.out
       have n52 := Xn52.out
       have n35 := Xn35.out
       have n53 := Xn53.out
       go_region
       obtain ⟨V,hV,⟨e0,e1,e2⟩,⟨d0,d1,d2,d3,d4⟩,hsV⟩ := two_stores (W := W8) (g := g2) (g' := g3) n23 r0 r1 r2 s0 s1 s2 s3 s4 (.slice RA2 wo.rows.length rc2) (.int .i64 wo.clock) (.slice (some ⟨gC,0,none⟩) wo.cls.length cc2) (.int .i64 0) (.bool (decide (0 < bb.c))) (.string bb.v) (.int .i64 c.ph) (.int .i64 0)
       rw [← hV]
       have HFIN := Lib.hid (did_end (V := V) (w := w) (n1 := n1) (g4 := g4) (g5 := g5) (g2 := g2) (g3 := g3) HR_W7.out HB_W7.out HW8.out hV (by have := HGG.out; omega) (by have := HGG.out; omega) (by have := HGG.out; omega))
       clear hV
       go_wp2
       exact bodyPost_ret (v := .tuple #[.agg #[.slice RA2 wo.rows.length rc2,.int .i64 wo.clock,.slice (some ⟨gC,0,none⟩) wo.cls.length cc2],.agg #[.int .i64 0,.bool (decide (0 < bb.c)),.string bb.v,.int .i64 c.ph,.int .i64 0],.int .i64 0]) (by simp [results,Tryz.results7,go_sem,e0,e1,e2,d0,d1,d2,d3,d4]) rfl
        ⟨HFIN.out.2,.inr ⟨HE0.out,RA2,wo.rows.length,rc2,some ⟨gC,0,none⟩,wo.cls.length,cc2,by rw [doW,HPF.out]; dsimp only; rw [Int.toNat_natCast,getD_of_get HCL.out]; try rfl,by rw [doW,HPF.out]; exact HFIN.out.1⟩⟩
  ·have HPF := Lib.hid (show performW wo ⟨2,(C : Int),key,val⟩ = (wo,ansCode 6) by rw [HGA.out,getA,show accessE c key = 6 by rw [accessE,if_pos hp],if_pos (by decide)])
   have hp' : (c.ph == 1) = false := beq_eq_false_iff_ne.2 hp
   go_upto_region 48 with (fail)
   obtain ⟨W7,hW7⟩ : ∃ W7,W7 = (w6.setCell ⟨g5,0,none⟩ (.int .i64 6)) := ⟨_,rfl⟩
   rw [← hW7]
   have b0 := BoxIs.to hW7 (.o1 b0 Xn05.out)
   have b1 := BoxIs.to hW7 (.o1 b1 Xn15.out)
   have b2 := BoxIs.to hW7 (.o1 b2 Xn25.out)
   have b3 := BoxIs.to hW7 (.o1 b3 Xn35.out)
   have b4 := BoxIs.to hW7 (.o1 b4 Xn45.out)
   have b5 : BoxIs W7 g5 [.int .i64 6,.bool false,.string ⟨#[]⟩,.int .i64 0,.int .i64 0] := BoxIs.to hW7 (.set b5 0 _)
   have HW7 := Lib.hid hW7
   clear hW7
   have HR_W7 := Lib.hid (show RefW W7 (fun b => b < n1 ∨ b = g4 ∨ b = g5) gC RA2 wo.rows.length rc2 wo.cls.length cc2 wo by rw [HW7.out]; exact (RefW.box HRW6.out (.inr (.inr rfl)) Xk5.out _ _))
   have HB_W7 := Lib.hid (show Below w.heap.size w W7 by
    have hgg := HGG.out
    have l5 : w.heap.size ≤ g5 := by omega
    rw [HW7.out]
    exact (HB6.out).setCell l5 _)
   clear x0 x1 x2 a0 a1 a2 a3 y0 y1 y2 y3 y4 o0 o1 o2 o3 o4 xf0 xf1 xf2 yf0 yf1 yf2 yf3 yf4 of0 of1 of2 of3 of4
   obtain ⟨x0,x1,x2⟩ := b0.c3
   obtain ⟨a0,a1,a2,a3⟩ := b1.c4
   obtain ⟨y0,y1,y2,y3,y4⟩ := b4.c5
   obtain ⟨o0,o1,o2,o3,o4⟩ := b5.c5
   obtain ⟨xf0,xf1,xf2⟩ := b0.f3
   obtain ⟨yf0,yf1,yf2,yf3,yf4⟩ := b4.f5
   obtain ⟨of0,of1,of2,of3,of4⟩ := b5.f5
   have tp := (HR_W7.out).cls C _ HCL.out
   have tp0 := tp.cp
   clear tp
   go_upto_region 49 with (fail)
   obtain ⟨W8,hW8⟩ : ∃ W8,W8 = (W7.setCell ⟨g5,3,none⟩ (.int .i64 c.ph)) := ⟨_,rfl⟩
   rw [← hW8]
   have b0 := BoxIs.to hW8 (.o1 b0 Xn05.out)
   have b1 := BoxIs.to hW8 (.o1 b1 Xn15.out)
   have b2 := BoxIs.to hW8 (.o1 b2 Xn25.out)
   have b3 := BoxIs.to hW8 (.o1 b3 Xn35.out)
   have b4 := BoxIs.to hW8 (.o1 b4 Xn45.out)
   have b5 : BoxIs W8 g5 [.int .i64 6,.bool false,.string ⟨#[]⟩,.int .i64 c.ph,.int .i64 0] := BoxIs.to hW8 (.set b5 3 _)
   have HW8 := Lib.hid hW8
   clear hW8
   clear tp0
   clear x0 x1 x2 a0 a1 a2 a3 y0 y1 y2 y3 y4 o0 o1 o2 o3 o4 xf0 xf1 xf2 yf0 yf1 yf2 yf3 yf4 of0 of1 of2 of3 of4
   obtain ⟨x0,x1,x2⟩ := b0.c3
   obtain ⟨a0,a1,a2,a3⟩ := b1.c4
   obtain ⟨y0,y1,y2,y3,y4⟩ := b4.c5
   obtain ⟨o0,o1,o2,o3,o4⟩ := b5.c5
   obtain ⟨xf0,xf1,xf2⟩ := b0.f3
   obtain ⟨yf0,yf1,yf2,yf3,yf4⟩ := b4.f5
   obtain ⟨of0,of1,of2,of3,of4⟩ := b5.f5
   obtain ⟨r0,r1,r2⟩ := b2.c3
   obtain ⟨s0,s1,s2,s3,s4⟩ := b3.c5
   obtain ⟨rf0,rf1,rf2⟩ := b2.f3
   obtain ⟨sf0,sf1,sf2,sf3,sf4⟩ := b3.f5
   have n23 := Xn23.out
   have n32 := Xn32.out
   have n02 := Xn02.out
   have n20 := Xn20.out
   have n03 := Xn03.out
   have n30 := Xn30.out
   have n25 := Xn25.out
   have n52 := Xn52.out
   have n35 := Xn35.out
   have n53 := Xn53.out
   go_region
   obtain ⟨V,hV,⟨e0,e1,e2⟩,⟨d0,d1,d2,d3,d4⟩,hsV⟩ := two_stores (W := W8) (g := g2) (g' := g3) n23 r0 r1 r2 s0 s1 s2 s3 s4 (.slice RA2 wo.rows.length rc2) (.int .i64 wo.clock) (.slice (some ⟨gC,0,none⟩) wo.cls.length cc2) (.int .i64 6) (.bool false) (.string ⟨#[]⟩) (.int .i64 c.ph) (.int .i64 0)
   rw [← hV]
   have HFIN := Lib.hid (did_end (V := V) (w := w) (n1 := n1) (g4 := g4) (g5 := g5) (g2 := g2) (g3 := g3) HR_W7.out HB_W7.out HW8.out hV (by have := HGG.out; omega) (by have := HGG.out; omega) (by have := HGG.out; omega))
   clear hV
   go_wp2
   exact bodyPost_ret (v := .tuple #[.agg #[.slice RA2 wo.rows.length rc2,.int .i64 wo.clock,.slice (some ⟨gC,0,none⟩) wo.cls.length cc2],.agg #[.int .i64 6,.bool false,.string ⟨#[]⟩,.int .i64 c.ph,.int .i64 0],.int .i64 0]) (by simp [results,Tryz.results7,go_sem,e0,e1,e2,d0,d1,d2,d3,d4]) rfl
    ⟨HFIN.out.2,.inr ⟨HE0.out,RA2,wo.rows.length,rc2,some ⟨gC,0,none⟩,wo.cls.length,cc2,by rw [doW,HPF.out]; dsimp only; rw [Int.toNat_natCast,getD_of_get HCL.out]; try rfl,by rw [doW,HPF.out]; exact HFIN.out.1⟩⟩
 ·have hwv6 : c.ws.length ≤ 6 := by
   have h := ok_client HOKW.out HCL.out
   simp only [clB,wrsB,Bool.and_eq_true,decide_eq_true_eq] at h
   exact h.1.1.1
  have HPL := Lib.hid (plus_any (fun b => b < W5.heap.size ∧ b ≠ gC ∧ ¬ (b < n1 ∨ b = g4 ∨ b = g5)) WA c.ws.length wk c.ws ⟨key,val⟩ W5 rfl HWS.out (fun b hb => hb.1) (cl_inc (ok_client HOKW.out HCL.out)) ⟨HKS.out,HVS.out⟩ (by omega))
  have HGP := Lib.hid (show performW wo ⟨3,(C : Int),key,val⟩ = (wo.setC C (putC c key val).1,ansCode (putC c key val).2) by
   unfold performW; dsimp only; rw [if_neg (by decide),if_neg (by decide),if_pos rfl,Int.toNat_natCast,HCD.out])
  have HSELF := Lib.hid (setC_self HCL.out)
  have HPI := Lib.hid (put_ins (c := c) (key := key) (val := val) hwv6)
  obtain ⟨pl,hpl⟩ : ∃ pl,pl = insK WrM.k c.ws ⟨key,val⟩ := ⟨_,rfl⟩
  unfold PlusOut at HPL
  rw [← hpl] at HPL HPI
  have hvl : val.size ≤ 9223372036854775807 := by have := HVS.out; unfold maxLen at this; omega
  clear hpl
  obtain ⟨x0,x1,x2⟩ := b0.c3
  obtain ⟨a0,a1,a2,a3⟩ := b1.c4
  obtain ⟨y0,y1,y2,y3,y4⟩ := b4.c5
  obtain ⟨o0,o1,o2,o3,o4⟩ := b5.c5
  obtain ⟨xf0,xf1,xf2⟩ := b0.f3
  obtain ⟨yf0,yf1,yf2,yf3,yf4⟩ := b4.f5
  obtain ⟨of0,of1,of2,of3,of4⟩ := b5.f5
  go_wp2_with fail
  refine HPL.out.mono ?_
  rintro e w6 ⟨A6,c6,rfl,hc6,hws6,hb6⟩
  have b0 := BoxIs.upto b0 hb6
  have b1 := BoxIs.upto b1 hb6
  have b2 := BoxIs.upto b2 hb6
  have b3 := BoxIs.upto b3 hb6
  have b4 := BoxIs.upto b4 hb6
  have b5 := BoxIs.upto b5 hb6
  have HRW6 := Lib.hid (HRF.out.upto hb6)
  have HB6 := Lib.hid (below_next HB5.out hb6)
  have HC6 := Lib.hid hc6
  have HWS6 := Lib.hid (show WrsAt w6 (fun b => b < w6.heap.size ∧ b ≠ gC ∧ ¬ (b < n1 ∨ b = g4 ∨ b = g5)) A6 pl from SeqAt.wrs hws6 (fun b hb => by
   have hgg := HGG.out
   have h1 : W5.heap.size ≤ b := hb.1
   exact ⟨hb.2,by omega,by omega⟩) (fun _ _ _ => rfl))
  clear hb6 hc6 hws6
  clear x0 x1 x2 a0 a1 a2 a3 y0 y1 y2 y3 y4 o0 o1 o2 o3 o4 xf0 xf1 xf2 yf0 yf1 yf2 yf3 yf4 of0 of1 of2 of3 of4
  obtain ⟨x0,x1,x2⟩ := b0.c3
  obtain ⟨a0,a1,a2,a3⟩ := b1.c4
  obtain ⟨y0,y1,y2,y3,y4⟩ := b4.c5
  obtain ⟨o0,o1,o2,o3,o4⟩ := b5.c5
  obtain ⟨xf0,xf1,xf2⟩ := b0.f3
  obtain ⟨yf0,yf1,yf2,yf3,yf4⟩ := b4.f5
  obtain ⟨of0,of1,of2,of3,of4⟩ := b5.f5
  by_cases hp : c.ph = 1
  ·have HPH := Lib.hid hp
   have hp' : (c.ph == 1) = true := beq_iff_eq.2 hp
   clear hp
   cases hkb : keyB key with
   | false =>
    have HPF := Lib.hid (show performW wo ⟨3,(C : Int),key,val⟩ = (wo,ansCode 4) by rw [HGP.out,putC,show accessE c key = 4 by rw [accessE,if_neg (by rw [HPH.out]; decide),if_pos hkb],if_pos (by decide),HSELF.out])
    go_upto_region 48 with ((go_at_call 18; refine (keyMay_any _ _ HKS.out).mono ?_; rintro e w' ⟨rfl,rfl⟩))
    obtain ⟨W7,hW7⟩ : ∃ W7,W7 = (w6.setCell ⟨g5,0,none⟩ (.int .i64 4)) := ⟨_,rfl⟩
    rw [← hW7]
    have b0 := BoxIs.to hW7 (.o1 b0 Xn05.out)
    have b1 := BoxIs.to hW7 (.o1 b1 Xn15.out)
    have b2 := BoxIs.to hW7 (.o1 b2 Xn25.out)
    have b3 := BoxIs.to hW7 (.o1 b3 Xn35.out)
    have b4 := BoxIs.to hW7 (.o1 b4 Xn45.out)
    have b5 : BoxIs W7 g5 [.int .i64 4,.bool false,.string ⟨#[]⟩,.int .i64 0,.int .i64 0] := BoxIs.to hW7 (.set b5 0 _)
    have HW7 := Lib.hid hW7
    clear hW7
    have HR_W7 := Lib.hid (show RefW W7 (fun b => b < n1 ∨ b = g4 ∨ b = g5) gC RA2 wo.rows.length rc2 wo.cls.length cc2 wo by rw [HW7.out]; exact (RefW.box HRW6.out (.inr (.inr rfl)) Xk5.out _ _))
    have HB_W7 := Lib.hid (show Below w.heap.size w W7 by
     have hgg := HGG.out
     have l5 : w.heap.size ≤ g5 := by omega
     rw [HW7.out]
     exact (HB6.out).setCell l5 _)
    clear x0 x1 x2 a0 a1 a2 a3 y0 y1 y2 y3 y4 o0 o1 o2 o3 o4 xf0 xf1 xf2 yf0 yf1 yf2 yf3 yf4 of0 of1 of2 of3 of4
    obtain ⟨x0,x1,x2⟩ := b0.c3
    obtain ⟨a0,a1,a2,a3⟩ := b1.c4
    obtain ⟨y0,y1,y2,y3,y4⟩ := b4.c5
    obtain ⟨o0,o1,o2,o3,o4⟩ := b5.c5
    obtain ⟨xf0,xf1,xf2⟩ := b0.f3
    obtain ⟨yf0,yf1,yf2,yf3,yf4⟩ := b4.f5
    obtain ⟨of0,of1,of2,of3,of4⟩ := b5.f5
    have tp := (HR_W7.out).cls C _ HCL.out
    have tp0 := tp.cp
    clear tp
    go_upto_region 49 with (fail)
    obtain ⟨W8,hW8⟩ : ∃ W8,W8 = (W7.setCell ⟨g5,3,none⟩ (.int .i64 c.ph)) := ⟨_,rfl⟩
    rw [← hW8]
    have b0 := BoxIs.to hW8 (.o1 b0 Xn05.out)
    have b1 := BoxIs.to hW8 (.o1 b1 Xn15.out)
    have b2 := BoxIs.to hW8 (.o1 b2 Xn25.out)
    have b3 := BoxIs.to hW8 (.o1 b3 Xn35.out)
    have b4 := BoxIs.to hW8 (.o1 b4 Xn45.out)
    have b5 : BoxIs W8 g5 [.int .i64 4,.bool false,.string ⟨#[]⟩,.int .i64 c.ph,.int .i64 0] := BoxIs.to hW8 (.set b5 3 _)
    have HW8 := Lib.hid hW8
    clear hW8
    clear tp0
    clear x0 x1 x2 a0 a1 a2 a3 y0 y1 y2 y3 y4 o0 o1 o2 o3 o4 xf0 xf1 xf2 yf0 yf1 yf2 yf3 yf4 of0 of1 of2 of3 of4
    obtain ⟨x0,x1,x2⟩ := b0.c3
    obtain ⟨a0,a1,a2,a3⟩ := b1.c4
    obtain ⟨y0,y1,y2,y3,y4⟩ := b4.c5
    obtain ⟨o0,o1,o2,o3,o4⟩ := b5.c5
    obtain ⟨xf0,xf1,xf2⟩ := b0.f3
    obtain ⟨yf0,yf1,yf2,yf3,yf4⟩ := b4.f5
    obtain ⟨of0,of1,of2,of3,of4⟩ := b5.f5
    obtain ⟨r0,r1,r2⟩ := b2.c3
    obtain ⟨s0,s1,s2,s3,s4⟩ := b3.c5
    obtain ⟨rf0,rf1,rf2⟩ := b2.f3
    obtain ⟨sf0,sf1,sf2,sf3,sf4⟩ := b3.f5
    have n23 := Xn23.out
    have n32 := Xn32.out
    have n02 := Xn02.out
    have n20 := Xn20.out
    have n03 := Xn03.out
    have n30 := Xn30.out
    have n25 := Xn25.out
    have n52 := Xn52.out
    have n35 := Xn35.out
    have n53 := Xn53.out
    go_region
    obtain ⟨V,hV,⟨e0,e1,e2⟩,⟨d0,d1,d2,d3,d4⟩,hsV⟩ := two_stores (W := W8) (g := g2) (g' := g3) n23 r0 r1 r2 s0 s1 s2 s3 s4 (.slice RA2 wo.rows.length rc2) (.int .i64 wo.clock) (.slice (some ⟨gC,0,none⟩) wo.cls.length cc2) (.int .i64 4) (.bool false) (.string ⟨#[]⟩) (.int .i64 c.ph) (.int .i64 0)
    rw [← hV]
    have HFIN := Lib.hid (did_end (V := V) (w := w) (n1 := n1) (g4 := g4) (g5 := g5) (g2 := g2) (g3 := g3) HR_W7.out HB_W7.out HW8.out hV (by have := HGG.out; omega) (by have := HGG.out; omega) (by have := HGG.out; omega))
    clear hV
    go_wp2
    exact bodyPost_ret (v := .tuple #[.agg #[.slice RA2 wo.rows.length rc2,.int .i64 wo.clock,.slice (some ⟨gC,0,none⟩) wo.cls.length cc2],.agg #[.int .i64 4,.bool false,.string ⟨#[]⟩,.int .i64 c.ph,.int .i64 0],.int .i64 0]) (by simp [results,Tryz.results7,go_sem,e0,e1,e2,d0,d1,d2,d3,d4]) rfl
     ⟨HFIN.out.2,.inr ⟨HE0.out,RA2,wo.rows.length,rc2,some ⟨gC,0,none⟩,wo.cls.length,cc2,by rw [doW,HPF.out]; dsimp only; rw [Int.toNat_natCast,getD_of_get HCL.out]; try rfl,by rw [doW,HPF.out]; exact HFIN.out.1⟩⟩
   | true =>
    have HAC := Lib.hid (show accessE c key = 0 by rw [accessE,if_neg (by rw [HPH.out]; decide),if_neg (by rw [hkb]; decide)])
    by_cases hv20 : 20 < val.size
    ·have HPF := Lib.hid (show performW wo ⟨3,(C : Int),key,val⟩ = (wo,ansCode 1) by rw [HGP.out,putC,HAC.out,if_neg (by simp),if_pos hv20,HSELF.out])
     have hv' : decide (20 < (val.size : Int)) = true := decide_eq_true (by omega)
     go_upto_region 48 with ((go_at_call 18; refine (keyMay_any _ _ HKS.out).mono ?_; rintro e w' ⟨rfl,rfl⟩))
     obtain ⟨W7,hW7⟩ : ∃ W7,W7 = (w6.setCell ⟨g5,0,none⟩ (.int .i64 1)) := ⟨_,rfl⟩
     rw [← hW7]
     have b0 := BoxIs.to hW7 (.o1 b0 Xn05.out)
     have b1 := BoxIs.to hW7 (.o1 b1 Xn15.out)
     have b2 := BoxIs.to hW7 (.o1 b2 Xn25.out)
     have b3 := BoxIs.to hW7 (.o1 b3 Xn35.out)
     have b4 := BoxIs.to hW7 (.o1 b4 Xn45.out)
     have b5 : BoxIs W7 g5 [.int .i64 1,.bool false,.string ⟨#[]⟩,.int .i64 0,.int .i64 0] := BoxIs.to hW7 (.set b5 0 _)
     have HW7 := Lib.hid hW7
     clear hW7
     have HR_W7 := Lib.hid (show RefW W7 (fun b => b < n1 ∨ b = g4 ∨ b = g5) gC RA2 wo.rows.length rc2 wo.cls.length cc2 wo by rw [HW7.out]; exact (RefW.box HRW6.out (.inr (.inr rfl)) Xk5.out _ _))
     have HB_W7 := Lib.hid (show Below w.heap.size w W7 by
      have hgg := HGG.out
      have l5 : w.heap.size ≤ g5 := by omega
      rw [HW7.out]
      exact (HB6.out).setCell l5 _)
     clear x0 x1 x2 a0 a1 a2 a3 y0 y1 y2 y3 y4 o0 o1 o2 o3 o4 xf0 xf1 xf2 yf0 yf1 yf2 yf3 yf4 of0 of1 of2 of3 of4
     obtain ⟨x0,x1,x2⟩ := b0.c3
     obtain ⟨a0,a1,a2,a3⟩ := b1.c4
     obtain ⟨y0,y1,y2,y3,y4⟩ := b4.c5
     obtain ⟨o0,o1,o2,o3,o4⟩ := b5.c5
     obtain ⟨xf0,xf1,xf2⟩ := b0.f3
     obtain ⟨yf0,yf1,yf2,yf3,yf4⟩ := b4.f5
     obtain ⟨of0,of1,of2,of3,of4⟩ := b5.f5
     have tp := (HR_W7.out).cls C _ HCL.out
     have tp0 := tp.cp
     clear tp
     go_upto_region 49 with (fail)
     obtain ⟨W8,hW8⟩ : ∃ W8,W8 = (W7.setCell ⟨g5,3,none⟩ (.int .i64 c.ph)) := ⟨_,rfl⟩
     rw [← hW8]
     have b0 := BoxIs.to hW8 (.o1 b0 Xn05.out)
     have b1 := BoxIs.to hW8 (.o1 b1 Xn15.out)
     have b2 := BoxIs.to hW8 (.o1 b2 Xn25.out)
     have b3 := BoxIs.to hW8 (.o1 b3 Xn35.out)
     have b4 := BoxIs.to hW8 (.o1 b4 Xn45.out)
     have b5 : BoxIs W8 g5 [.int .i64 1,.bool false,.string ⟨#[]⟩,.int .i64 c.ph,.int .i64 0] := BoxIs.to hW8 (.set b5 3 _)
     have HW8 := Lib.hid hW8
     clear hW8
     clear tp0
     clear x0 x1 x2 a0 a1 a2 a3 y0 y1 y2 y3 y4 o0 o1 o2 o3 o4 xf0 xf1 xf2 yf0 yf1 yf2 yf3 yf4 of0 of1 of2 of3 of4
     obtain ⟨x0,x1,x2⟩ := b0.c3
     obtain ⟨a0,a1,a2,a3⟩ := b1.c4
     obtain ⟨y0,y1,y2,y3,y4⟩ := b4.c5
     obtain ⟨o0,o1,o2,o3,o4⟩ := b5.c5
     obtain ⟨xf0,xf1,xf2⟩ := b0.f3
     obtain ⟨yf0,yf1,yf2,yf3,yf4⟩ := b4.f5
     obtain ⟨of0,of1,of2,of3,of4⟩ := b5.f5
     obtain ⟨r0,r1,r2⟩ := b2.c3
     obtain ⟨s0,s1,s2,s3,s4⟩ := b3.c5
     obtain ⟨rf0,rf1,rf2⟩ := b2.f3
     obtain ⟨sf0,sf1,sf2,sf3,sf4⟩ := b3.f5
     have n23 := Xn23.out
     have n32 := Xn32.out
     have n02 := Xn02.out
     have n20 := Xn20.out
     have n03 := Xn03.out
     have n30 := Xn30.out
     have n25 := Xn25.out
     have n52 := Xn52.out
     have n35 := Xn35.out
     have n53 := Xn53.out
     go_region
     obtain ⟨V,hV,⟨e0,e1,e2⟩,⟨d0,d1,d2,d3,d4⟩,hsV⟩ := two_stores (W := W8) (g := g2) (g' := g3) n23 r0 r1 r2 s0 s1 s2 s3 s4 (.slice RA2 wo.rows.length rc2) (.int .i64 wo.clock) (.slice (some ⟨gC,0,none⟩) wo.cls.length cc2) (.int .i64 1) (.bool false) (.string ⟨#[]⟩) (.int .i64 c.ph) (.int .i64 0)
     rw [← hV]
     have HFIN := Lib.hid (did_end (V := V) (w := w) (n1 := n1) (g4 := g4) (g5 := g5) (g2 := g2) (g3 := g3) HR_W7.out HB_W7.out HW8.out hV (by have := HGG.out; omega) (by have := HGG.out; omega) (by have := HGG.out; omega))
     clear hV
     go_wp2
     exact bodyPost_ret (v := .tuple #[.agg #[.slice RA2 wo.rows.length rc2,.int .i64 wo.clock,.slice (some ⟨gC,0,none⟩) wo.cls.length cc2],.agg #[.int .i64 1,.bool false,.string ⟨#[]⟩,.int .i64 c.ph,.int .i64 0],.int .i64 0]) (by simp [results,Tryz.results7,go_sem,e0,e1,e2,d0,d1,d2,d3,d4]) rfl
      ⟨HFIN.out.2,.inr ⟨HE0.out,RA2,wo.rows.length,rc2,some ⟨gC,0,none⟩,wo.cls.length,cc2,by rw [doW,HPF.out]; dsimp only; rw [Int.toNat_natCast,getD_of_get HCL.out]; try rfl,by rw [doW,HPF.out]; exact HFIN.out.1⟩⟩
    ·by_cases hl6 : 6 < pl.length
     ·have HPF := Lib.hid (show performW wo ⟨3,(C : Int),key,val⟩ = (wo,ansCode 1) by rw [HGP.out,(HPI.out HAC.out hv20).2 hl6,HSELF.out])
      have hv' : decide (20 < (val.size : Int)) = false := decide_eq_false (by omega)
      have hl' : decide (6 < (pl.length : Int)) = true := decide_eq_true (by omega)
      go_upto_region 48 with ((go_at_call 18; refine (keyMay_any _ _ HKS.out).mono ?_; rintro e w' ⟨rfl,rfl⟩))
      obtain ⟨W7,hW7⟩ : ∃ W7,W7 = (w6.setCell ⟨g5,0,none⟩ (.int .i64 1)) := ⟨_,rfl⟩
      rw [← hW7]
      have b0 := BoxIs.to hW7 (.o1 b0 Xn05.out)
      have b1 := BoxIs.to hW7 (.o1 b1 Xn15.out)
      have b2 := BoxIs.to hW7 (.o1 b2 Xn25.out)
      have b3 := BoxIs.to hW7 (.o1 b3 Xn35.out)
      have b4 := BoxIs.to hW7 (.o1 b4 Xn45.out)
      have b5 : BoxIs W7 g5 [.int .i64 1,.bool false,.string ⟨#[]⟩,.int .i64 0,.int .i64 0] := BoxIs.to hW7 (.set b5 0 _)
      have HW7 := Lib.hid hW7
      clear hW7
      have HR_W7 := Lib.hid (show RefW W7 (fun b => b < n1 ∨ b = g4 ∨ b = g5) gC RA2 wo.rows.length rc2 wo.cls.length cc2 wo by rw [HW7.out]; exact (RefW.box HRW6.out (.inr (.inr rfl)) Xk5.out _ _))
      have HB_W7 := Lib.hid (show Below w.heap.size w W7 by
       have hgg := HGG.out
       have l5 : w.heap.size ≤ g5 := by omega
       rw [HW7.out]
       exact (HB6.out).setCell l5 _)
      clear x0 x1 x2 a0 a1 a2 a3 y0 y1 y2 y3 y4 o0 o1 o2 o3 o4 xf0 xf1 xf2 yf0 yf1 yf2 yf3 yf4 of0 of1 of2 of3 of4
      obtain ⟨x0,x1,x2⟩ := b0.c3
      obtain ⟨a0,a1,a2,a3⟩ := b1.c4
      obtain ⟨y0,y1,y2,y3,y4⟩ := b4.c5
      obtain ⟨o0,o1,o2,o3,o4⟩ := b5.c5
      obtain ⟨xf0,xf1,xf2⟩ := b0.f3
      obtain ⟨yf0,yf1,yf2,yf3,yf4⟩ := b4.f5
      obtain ⟨of0,of1,of2,of3,of4⟩ := b5.f5
      have tp := (HR_W7.out).cls C _ HCL.out
      have tp0 := tp.cp
      clear tp
      go_upto_region 49 with (fail)
      obtain ⟨W8,hW8⟩ : ∃ W8,W8 = (W7.setCell ⟨g5,3,none⟩ (.int .i64 c.ph)) := ⟨_,rfl⟩
      rw [← hW8]
      have b0 := BoxIs.to hW8 (.o1 b0 Xn05.out)
      have b1 := BoxIs.to hW8 (.o1 b1 Xn15.out)
      have b2 := BoxIs.to hW8 (.o1 b2 Xn25.out)
      have b3 := BoxIs.to hW8 (.o1 b3 Xn35.out)
      have b4 := BoxIs.to hW8 (.o1 b4 Xn45.out)
      have b5 : BoxIs W8 g5 [.int .i64 1,.bool false,.string ⟨#[]⟩,.int .i64 c.ph,.int .i64 0] := BoxIs.to hW8 (.set b5 3 _)
      have HW8 := Lib.hid hW8
      clear hW8
      clear tp0
      clear x0 x1 x2 a0 a1 a2 a3 y0 y1 y2 y3 y4 o0 o1 o2 o3 o4 xf0 xf1 xf2 yf0 yf1 yf2 yf3 yf4 of0 of1 of2 of3 of4
      obtain ⟨x0,x1,x2⟩ := b0.c3
      obtain ⟨a0,a1,a2,a3⟩ := b1.c4
      obtain ⟨y0,y1,y2,y3,y4⟩ := b4.c5
      obtain ⟨o0,o1,o2,o3,o4⟩ := b5.c5
      obtain ⟨xf0,xf1,xf2⟩ := b0.f3
      obtain ⟨yf0,yf1,yf2,yf3,yf4⟩ := b4.f5
      obtain ⟨of0,of1,of2,of3,of4⟩ := b5.f5
      obtain ⟨r0,r1,r2⟩ := b2.c3
      obtain ⟨s0,s1,s2,s3,s4⟩ := b3.c5
      obtain ⟨rf0,rf1,rf2⟩ := b2.f3
      obtain ⟨sf0,sf1,sf2,sf3,sf4⟩ := b3.f5
      have n23 := Xn23.out
      have n32 := Xn32.out
      have n02 := Xn02.out
      have n20 := Xn20.out
      have n03 := Xn03.out
      have n30 := Xn30.out
      have n25 := Xn25.out
      have n52 := Xn52.out
      have n35 := Xn35.out
      have n53 := Xn53.out
      go_region
      obtain ⟨V,hV,⟨e0,e1,e2⟩,⟨d0,d1,d2,d3,d4⟩,hsV⟩ := two_stores (W := W8) (g := g2) (g' := g3) n23 r0 r1 r2 s0 s1 s2 s3 s4 (.slice RA2 wo.rows.length rc2) (.int .i64 wo.clock) (.slice (some ⟨gC,0,none⟩) wo.cls.length cc2) (.int .i64 1) (.bool false) (.string ⟨#[]⟩) (.int .i64 c.ph) (.int .i64 0)
      rw [← hV]
      have HFIN := Lib.hid (did_end (V := V) (w := w) (n1 := n1) (g4 := g4) (g5 := g5) (g2 := g2) (g3 := g3) HR_W7.out HB_W7.out HW8.out hV (by have := HGG.out; omega) (by have := HGG.out; omega) (by have := HGG.out; omega))
      clear hV
      go_wp2
      exact bodyPost_ret (v := .tuple #[.agg #[.slice RA2 wo.rows.length rc2,.int .i64 wo.clock,.slice (some ⟨gC,0,none⟩) wo.cls.length cc2],.agg #[.int .i64 1,.bool false,.string ⟨#[]⟩,.int .i64 c.ph,.int .i64 0],.int .i64 0]) (by simp [results,Tryz.results7,go_sem,e0,e1,e2,d0,d1,d2,d3,d4]) rfl
       ⟨HFIN.out.2,.inr ⟨HE0.out,RA2,wo.rows.length,rc2,some ⟨gC,0,none⟩,wo.cls.length,cc2,by rw [doW,HPF.out]; dsimp only; rw [Int.toNat_natCast,getD_of_get HCL.out]; try rfl,by rw [doW,HPF.out]; exact HFIN.out.1⟩⟩
     ·have HPF := Lib.hid (show performW wo ⟨3,(C : Int),key,val⟩ = (wo.setC C ⟨c.ph,c.st,c.cm,pl,c.at_⟩,ansCode 0) by rw [HGP.out,(HPI.out HAC.out hv20).1 hl6])
      have hv' : decide (20 < (val.size : Int)) = false := decide_eq_false (by omega)
      have hl' : decide (6 < (pl.length : Int)) = false := decide_eq_false (by omega)
      go_upto_region 41 with ((go_at_call 18; refine (keyMay_any _ _ HKS.out).mono ?_; rintro e w' ⟨rfl,rfl⟩))
      obtain ⟨W7,hW7⟩ : ∃ W7,W7 = (w6.setCell ⟨g4,3,none⟩ (.slice A6 pl.length c6)) := ⟨_,rfl⟩
      rw [← hW7]
      have b0 := BoxIs.to hW7 (.o1 b0 Xn04.out)
      have b1 := BoxIs.to hW7 (.o1 b1 Xn14.out)
      have b2 := BoxIs.to hW7 (.o1 b2 Xn24.out)
      have b3 := BoxIs.to hW7 (.o1 b3 Xn34.out)
      have b4 : BoxIs W7 g4 [.int .i64 c.ph,.int .i64 c.st,.int .i64 c.cm,.slice A6 pl.length c6,.int .i64 c.at_] := BoxIs.to hW7 (.set b4 3 _)
      have b5 := BoxIs.to hW7 (.o1 b5 Xn54.out)
      have HW7 := Lib.hid hW7
      clear hW7
      have HR_W7 := Lib.hid (show RefW W7 (fun b => b < n1 ∨ b = g4 ∨ b = g5) gC RA2 wo.rows.length rc2 wo.cls.length cc2 wo by rw [HW7.out]; exact (RefW.box HRW6.out (.inr (.inl rfl)) Xk4.out _ _))
      have HB_W7 := Lib.hid (show Below w.heap.size w W7 by
       have hgg := HGG.out
       have l4 : w.heap.size ≤ g4 := by omega
       rw [HW7.out]
       exact (HB6.out).setCell l4 _)
      clear x0 x1 x2 a0 a1 a2 a3 y0 y1 y2 y3 y4 o0 o1 o2 o3 o4 xf0 xf1 xf2 yf0 yf1 yf2 yf3 yf4 of0 of1 of2 of3 of4
      obtain ⟨x0,x1,x2⟩ := b0.c3
      obtain ⟨a0,a1,a2,a3⟩ := b1.c4
      obtain ⟨y0,y1,y2,y3,y4⟩ := b4.c5
      obtain ⟨o0,o1,o2,o3,o4⟩ := b5.c5
      obtain ⟨xf0,xf1,xf2⟩ := b0.f3
      obtain ⟨yf0,yf1,yf2,yf3,yf4⟩ := b4.f5
      obtain ⟨of0,of1,of2,of3,of4⟩ := b5.f5
      have t0 := RefW.cell HR_W7.out hCl 0 (by omega)
      have t1 := RefW.cell HR_W7.out hCl 1 (by omega)
      have t2 := RefW.cell HR_W7.out hCl 2 (by omega)
      have t3 := RefW.cell HR_W7.out hCl 3 (by omega)
      have t4 := RefW.cell HR_W7.out hCl 4 (by omega)
      rw [Nat.add_zero] at t0
      obtain ⟨u0,t0,tf0⟩ := t0
      obtain ⟨u1,t1,tf1⟩ := t1
      obtain ⟨u2,t2,tf2⟩ := t2
      obtain ⟨u3,t3,tf3⟩ := t3
      obtain ⟨u4,t4,tf4⟩ := t4
      go_upto_region 48 with (fail)
      obtain ⟨W9,hW9⟩ : ∃ W9,W9 = (((((W7.setCell ⟨gC,C * 5,none⟩ (.int .i64 c.ph)).setCell ⟨gC,C * 5 + 1,none⟩ (.int .i64 c.st)).setCell ⟨gC,C * 5 + 2,none⟩ (.int .i64 c.cm)).setCell ⟨gC,C * 5 + 3,none⟩ (.slice A6 pl.length c6)).setCell ⟨gC,C * 5 + 4,none⟩ (.int .i64 c.at_)) := ⟨_,rfl⟩
      rw [← hW9]
      have b0 := BoxIs.to hW9 (.o5 b0 Xk0.out)
      have b1 := BoxIs.to hW9 (.o5 b1 Xk1.out)
      have b2 := BoxIs.to hW9 (.o5 b2 Xk2.out)
      have b3 := BoxIs.to hW9 (.o5 b3 Xk3.out)
      have b4 := BoxIs.to hW9 (.o5 b4 Xk4.out)
      have b5 := BoxIs.to hW9 (.o5 b5 Xk5.out)
      have HW9 := Lib.hid hW9
      clear hW9
      clear t0 t1 t2 t3 t4 tf0 tf1 tf2 tf3 tf4
      have HR_W9 := Lib.hid (show RefW W9 (fun b => b < n1 ∨ b = g4 ∨ b = g5) gC RA2 wo.rows.length rc2 wo.cls.length cc2 (wo.setC C ⟨c.ph,c.st,c.cm,pl,c.at_⟩) by
       rw [HW9.out]; exact RefW.setC HR_W7.out hCl ⟨c.ph,c.st,c.cm,pl,c.at_⟩ A6 c6 ⟨HCOK.out.p,HCOK.out.s,HCOK.out.m,HCOK.out.a⟩ HC6.out (SeqAt.wrs HWS6.out (fun b hb => ⟨by have h1 : W7.heap.size = w6.heap.size := (by rw [HW7.out]; simp); have h2 := hb.1; omega,hb.2⟩) (fun b k hb => by rw [HW7.out]; exact World.cell?_of_block (w := w6) (a := ⟨b,k,none⟩) (Below.heap_setCell _ _ _ _ (fun e => hb.2.2 (.inr (.inl e)))))))
      have HB_W9 := Lib.hid (show Below w.heap.size w W9 by
       have hgg := HGG.out
       have lC : w.heap.size ≤ gC := by omega
       rw [HW9.out]
       exact (((((HB_W7.out).setCell lC _).setCell lC _).setCell lC _).setCell lC _).setCell lC _)
      clear x0 x1 x2 a0 a1 a2 a3 y0 y1 y2 y3 y4 o0 o1 o2 o3 o4 xf0 xf1 xf2 yf0 yf1 yf2 yf3 yf4 of0 of1 of2 of3 of4
      obtain ⟨x0,x1,x2⟩ := b0.c3
      obtain ⟨a0,a1,a2,a3⟩ := b1.c4
      obtain ⟨y0,y1,y2,y3,y4⟩ := b4.c5
      obtain ⟨o0,o1,o2,o3,o4⟩ := b5.c5
      obtain ⟨xf0,xf1,xf2⟩ := b0.f3
      obtain ⟨yf0,yf1,yf2,yf3,yf4⟩ := b4.f5
      obtain ⟨of0,of1,of2,of3,of4⟩ := b5.f5
      have tp := (HR_W9.out).cls C _ (show (wo.setC C ⟨c.ph,c.st,c.cm,pl,c.at_⟩).cls[C]? = some ⟨c.ph,c.st,c.cm,pl,c.at_⟩ from List.getElem?_set_self hCl)
      have tp0 := tp.cp
      clear tp
      go_upto_region 49 with (fail)
      obtain ⟨W8,hW8⟩ : ∃ W8,W8 = (W9.setCell ⟨g5,3,none⟩ (.int .i64 c.ph)) := ⟨_,rfl⟩
      rw [← hW8]
      have b0 := BoxIs.to hW8 (.o1 b0 Xn05.out)
      have b1 := BoxIs.to hW8 (.o1 b1 Xn15.out)
      have b2 := BoxIs.to hW8 (.o1 b2 Xn25.out)
      have b3 := BoxIs.to hW8 (.o1 b3 Xn35.out)
      have b4 := BoxIs.to hW8 (.o1 b4 Xn45.out)
      have b5 : BoxIs W8 g5 [.int .i64 0,.bool false,.string ⟨#[]⟩,.int .i64 c.ph,.int .i64 0] := BoxIs.to hW8 (.set b5 3 _)
      have HW8 := Lib.hid hW8
      clear hW8
      clear tp0
      clear x0 x1 x2 a0 a1 a2 a3 y0 y1 y2 y3 y4 o0 o1 o2 o3 o4 xf0 xf1 xf2 yf0 yf1 yf2 yf3 yf4 of0 of1 of2 of3 of4
      obtain ⟨x0,x1,x2⟩ := b0.c3
      obtain ⟨a0,a1,a2,a3⟩ := b1.c4
      obtain ⟨y0,y1,y2,y3,y4⟩ := b4.c5
      obtain ⟨o0,o1,o2,o3,o4⟩ := b5.c5
      obtain ⟨xf0,xf1,xf2⟩ := b0.f3
      obtain ⟨yf0,yf1,yf2,yf3,yf4⟩ := b4.f5
      obtain ⟨of0,of1,of2,of3,of4⟩ := b5.f5
      obtain ⟨r0,r1,r2⟩ := b2.c3
      obtain ⟨s0,s1,s2,s3,s4⟩ := b3.c5
      obtain ⟨rf0,rf1,rf2⟩ := b2.f3
      obtain ⟨sf0,sf1,sf2,sf3,sf4⟩ := b3.f5
      have n23 := Xn23.out
      have n32 := Xn32.out
      have n02 := Xn02.out
      have n20 := Xn20.out
      have n03 := Xn03.out
      have n30 := Xn30.out
      have n25 := Xn25.out
      have n52 := Xn52.out
      have n35 := Xn35.out
      have n53 := Xn53.out
      go_region
      obtain ⟨V,hV,⟨e0,e1,e2⟩,⟨d0,d1,d2,d3,d4⟩,hsV⟩ := two_stores (W := W8) (g := g2) (g' := g3) n23 r0 r1 r2 s0 s1 s2 s3 s4 (.slice RA2 wo.rows.length rc2) (.int .i64 wo.clock) (.slice (some ⟨gC,0,none⟩) wo.cls.length cc2) (.int .i64 0) (.bool false) (.string ⟨#[]⟩) (.int .i64 c.ph) (.int .i64 0)
      rw [← hV]
      have HFIN := Lib.hid (did_end (V := V) (w := w) (n1 := n1) (g4 := g4) (g5 := g5) (g2 := g2) (g3 := g3) HR_W9.out HB_W9.out HW8.out hV (by have := HGG.out; omega) (by have := HGG.out; omega) (by have := HGG.out; omega))
      clear hV
      go_wp2
      exact bodyPost_ret (v := .tuple #[.agg #[.slice RA2 wo.rows.length rc2,.int .i64 wo.clock,.slice (some ⟨gC,0,none⟩) wo.cls.length cc2],.agg #[.int .i64 0,.bool false,.string ⟨#[]⟩,.int .i64 c.ph,.int .i64 0],.int .i64 0]) (by simp [results,Tryz.results7,go_sem,e0,e1,e2,d0,d1,d2,d3,d4]) rfl
       ⟨HFIN.out.2,.inr ⟨HE0.out,RA2,wo.rows.length,rc2,some ⟨gC,0,none⟩,wo.cls.length,cc2,by rw [doW,HPF.out]; dsimp only; rw [Int.toNat_natCast,getD_of_get (show (wo.setC C ⟨c.ph,c.st,c.cm,pl,c.at_⟩).cls[C]? = some ⟨c.ph,c.st,c.cm,pl,c.at_⟩ from List.getElem?_set_self hCl)]; try rfl,by rw [doW,HPF.out]; exact HFIN.out.1⟩⟩
  ·have HPF := Lib.hid (show performW wo ⟨3,(C : Int),key,val⟩ = (wo,ansCode 6) by rw [HGP.out,putC,show accessE c key = 6 by rw [accessE,if_pos hp],if_pos (by decide),HSELF.out])
   have hp' : (c.ph == 1) = false := beq_eq_false_iff_ne.2 hp
   go_upto_region 48 with (fail)
   obtain ⟨W7,hW7⟩ : ∃ W7,W7 = (w6.setCell ⟨g5,0,none⟩ (.int .i64 6)) := ⟨_,rfl⟩
   rw [← hW7]
   have b0 := BoxIs.to hW7 (.o1 b0 Xn05.out)
   have b1 := BoxIs.to hW7 (.o1 b1 Xn15.out)
   have b2 := BoxIs.to hW7 (.o1 b2 Xn25.out)
   have b3 := BoxIs.to hW7 (.o1 b3 Xn35.out)
   have b4 := BoxIs.to hW7 (.o1 b4 Xn45.out)
   have b5 : BoxIs W7 g5 [.int .i64 6,.bool false,.string ⟨#[]⟩,.int .i64 0,.int .i64 0] := BoxIs.to hW7 (.set b5 0 _)
   have HW7 := Lib.hid hW7
   clear hW7
   have HR_W7 := Lib.hid (show RefW W7 (fun b => b < n1 ∨ b = g4 ∨ b = g5) gC RA2 wo.rows.length rc2 wo.cls.length cc2 wo by rw [HW7.out]; exact (RefW.box HRW6.out (.inr (.inr rfl)) Xk5.out _ _))
   have HB_W7 := Lib.hid (show Below w.heap.size w W7 by
    have hgg := HGG.out
    have l5 : w.heap.size ≤ g5 := by omega
    rw [HW7.out]
    exact (HB6.out).setCell l5 _)
   clear x0 x1 x2 a0 a1 a2 a3 y0 y1 y2 y3 y4 o0 o1 o2 o3 o4 xf0 xf1 xf2 yf0 yf1 yf2 yf3 yf4 of0 of1 of2 of3 of4
   obtain ⟨x0,x1,x2⟩ := b0.c3
   obtain ⟨a0,a1,a2,a3⟩ := b1.c4
   obtain ⟨y0,y1,y2,y3,y4⟩ := b4.c5
   obtain ⟨o0,o1,o2,o3,o4⟩ := b5.c5
   obtain ⟨xf0,xf1,xf2⟩ := b0.f3
   obtain ⟨yf0,yf1,yf2,yf3,yf4⟩ := b4.f5
   obtain ⟨of0,of1,of2,of3,of4⟩ := b5.f5
   have tp := (HR_W7.out).cls C _ HCL.out
   have tp0 := tp.cp
   clear tp
   go_upto_region 49 with (fail)
   obtain ⟨W8,hW8⟩ : ∃ W8,W8 = (W7.setCell ⟨g5,3,none⟩ (.int .i64 c.ph)) := ⟨_,rfl⟩
   rw [← hW8]
   have b0 := BoxIs.to hW8 (.o1 b0 Xn05.out)
   have b1 := BoxIs.to hW8 (.o1 b1 Xn15.out)
   have b2 := BoxIs.to hW8 (.o1 b2 Xn25.out)
   have b3 := BoxIs.to hW8 (.o1 b3 Xn35.out)
   have b4 := BoxIs.to hW8 (.o1 b4 Xn45.out)
   have b5 : BoxIs W8 g5 [.int .i64 6,.bool false,.string ⟨#[]⟩,.int .i64 c.ph,.int .i64 0] := BoxIs.to hW8 (.set b5 3 _)
   have HW8 := Lib.hid hW8
   clear hW8
   clear tp0
   clear x0 x1 x2 a0 a1 a2 a3 y0 y1 y2 y3 y4 o0 o1 o2 o3 o4 xf0 xf1 xf2 yf0 yf1 yf2 yf3 yf4 of0 of1 of2 of3 of4
   obtain ⟨x0,x1,x2⟩ := b0.c3
   obtain ⟨a0,a1,a2,a3⟩ := b1.c4
   obtain ⟨y0,y1,y2,y3,y4⟩ := b4.c5
   obtain ⟨o0,o1,o2,o3,o4⟩ := b5.c5
   obtain ⟨xf0,xf1,xf2⟩ := b0.f3
   obtain ⟨yf0,yf1,yf2,yf3,yf4⟩ := b4.f5
   obtain ⟨of0,of1,of2,of3,of4⟩ := b5.f5
   obtain ⟨r0,r1,r2⟩ := b2.c3
   obtain ⟨s0,s1,s2,s3,s4⟩ := b3.c5
   obtain ⟨rf0,rf1,rf2⟩ := b2.f3
   obtain ⟨sf0,sf1,sf2,sf3,sf4⟩ := b3.f5
   have n23 := Xn23.out
   have n32 := Xn32.out
   have n02 := Xn02.out
   have n20 := Xn20.out
   have n03 := Xn03.out
   have n30 := Xn30.out
   have n25 := Xn25.out
   have n52 := Xn52.out
   have n35 := Xn35.out
   have n53 := Xn53.out
   go_region
   obtain ⟨V,hV,⟨e0,e1,e2⟩,⟨d0,d1,d2,d3,d4⟩,hsV⟩ := two_stores (W := W8) (g := g2) (g' := g3) n23 r0 r1 r2 s0 s1 s2 s3 s4 (.slice RA2 wo.rows.length rc2) (.int .i64 wo.clock) (.slice (some ⟨gC,0,none⟩) wo.cls.length cc2) (.int .i64 6) (.bool false) (.string ⟨#[]⟩) (.int .i64 c.ph) (.int .i64 0)
   rw [← hV]
   have HFIN := Lib.hid (did_end (V := V) (w := w) (n1 := n1) (g4 := g4) (g5 := g5) (g2 := g2) (g3 := g3) HR_W7.out HB_W7.out HW8.out hV (by have := HGG.out; omega) (by have := HGG.out; omega) (by have := HGG.out; omega))
   clear hV
   go_wp2
   exact bodyPost_ret (v := .tuple #[.agg #[.slice RA2 wo.rows.length rc2,.int .i64 wo.clock,.slice (some ⟨gC,0,none⟩) wo.cls.length cc2],.agg #[.int .i64 6,.bool false,.string ⟨#[]⟩,.int .i64 c.ph,.int .i64 0],.int .i64 0]) (by simp [results,Tryz.results7,go_sem,e0,e1,e2,d0,d1,d2,d3,d4]) rfl
    ⟨HFIN.out.2,.inr ⟨HE0.out,RA2,wo.rows.length,rc2,some ⟨gC,0,none⟩,wo.cls.length,cc2,by rw [doW,HPF.out]; dsimp only; rw [Int.toNat_natCast,getD_of_get HCL.out]; try rfl,by rw [doW,HPF.out]; exact HFIN.out.1⟩⟩
 ·have HPF := Lib.hid (show performW wo ⟨4,(C : Int),key,val⟩ = stepW wo C c by
   unfold performW; dsimp only; rw [if_neg (by decide),if_neg (by decide),if_neg (by decide),if_pos rfl,Int.toNat_natCast,HCD.out])
  have HST := Lib.hid (stepped_any (B := w.heap.size) HRF.out (fun b hb => by have := HGG.out; omega) (by have := HGG.out; omega) HCL.out HOKW.out)
  have HLEN := Lib.hid (step_len wo C c)
  obtain ⟨Z,hZ⟩ : ∃ Z,Z = stepW wo C c := ⟨_,rfl⟩
  rw [← hZ] at HPF HST HLEN
  obtain ⟨F,⟨zc,zi,zv,zp,zt⟩⟩ := Z
  clear hZ
  obtain ⟨x0,x1,x2⟩ := b0.c3
  obtain ⟨a0,a1,a2,a3⟩ := b1.c4
  obtain ⟨y0,y1,y2,y3,y4⟩ := b4.c5
  obtain ⟨o0,o1,o2,o3,o4⟩ := b5.c5
  obtain ⟨xf0,xf1,xf2⟩ := b0.f3
  obtain ⟨yf0,yf1,yf2,yf3,yf4⟩ := b4.f5
  obtain ⟨of0,of1,of2,of3,of4⟩ := b5.f5
  go_wp2_with fail
  refine HST.out.mono ?_
  rintro e w6 ⟨v6,rfl,RA6,rc6,rfl,hw6,hk6⟩
  dsimp only at hw6 ⊢
  have hgg := HGG.out
  have b0 := BoxIs.blk b0 (hk6.z g0 (by omega) Xk0.out)
  have b1 := BoxIs.blk b1 (hk6.z g1 (by omega) Xk1.out)
  have b2 := BoxIs.blk b2 (hk6.z g2 (by omega) Xk2.out)
  have b3 := BoxIs.blk b3 (hk6.z g3 (by omega) Xk3.out)
  have b4 := BoxIs.blk b4 (hk6.z g4 (by omega) Xk4.out)
  have b5 := BoxIs.blk b5 (hk6.z g5 (by omega) Xk5.out)
  have HRW6 := Lib.hid hw6
  have HB6 := Lib.hid (show Below w.heap.size w w6 from HB5.out.trans hk6.bel)
  obtain ⟨cf,hcf⟩ : ∃ cf,F.cls[C]? = some cf := ⟨_,List.getElem?_eq_getElem (by have h1 : F.cls.length = wo.cls.length := HLEN.out; omega)⟩
  have HCF := Lib.hid hcf
  clear hw6 hk6 hgg hcf
  clear x0 x1 x2 a0 a1 a2 a3 y0 y1 y2 y3 y4 o0 o1 o2 o3 o4 xf0 xf1 xf2 yf0 yf1 yf2 yf3 yf4 of0 of1 of2 of3 of4
  obtain ⟨x0,x1,x2⟩ := b0.c3
  obtain ⟨a0,a1,a2,a3⟩ := b1.c4
  obtain ⟨y0,y1,y2,y3,y4⟩ := b4.c5
  obtain ⟨o0,o1,o2,o3,o4⟩ := b5.c5
  obtain ⟨xf0,xf1,xf2⟩ := b0.f3
  obtain ⟨yf0,yf1,yf2,yf3,yf4⟩ := b4.f5
  obtain ⟨of0,of1,of2,of3,of4⟩ := b5.f5
  go_upto_region 48 with (fail)
  obtain ⟨W7,hW7⟩ : ∃ W7,W7 = ((((((((w6.setCell ⟨g0,0,none⟩ (.slice RA6 F.rows.length rc6)).setCell ⟨g0,1,none⟩ (.int .i64 F.clock)).setCell ⟨g0,2,none⟩ (.slice (some ⟨gC,0,none⟩) wo.cls.length cc2)).setCell ⟨g5,0,none⟩ (.int .i64 zc)).setCell ⟨g5,1,none⟩ (.bool zi)).setCell ⟨g5,2,none⟩ (.string zv)).setCell ⟨g5,3,none⟩ (.int .i64 zp)).setCell ⟨g5,4,none⟩ (.int .i64 zt)) := ⟨_,rfl⟩
  rw [← hW7]
  have b0 : BoxIs W7 g0 [.slice RA6 F.rows.length rc6,.int .i64 F.clock,.slice (some ⟨gC,0,none⟩) wo.cls.length cc2] := BoxIs.to hW7 (.o1 (.o1 (.o1 (.o1 (.o1 (.set (.set (.set b0 0 _) 1 _) 2 _) Xn05.out) Xn05.out) Xn05.out) Xn05.out) Xn05.out)
  have b1 := BoxIs.to hW7 (.o5 (.o3 b1 Xn10.out) Xn15.out)
  have b2 := BoxIs.to hW7 (.o5 (.o3 b2 Xn20.out) Xn25.out)
  have b3 := BoxIs.to hW7 (.o5 (.o3 b3 Xn30.out) Xn35.out)
  have b4 := BoxIs.to hW7 (.o5 (.o3 b4 Xn40.out) Xn45.out)
  have b5 : BoxIs W7 g5 [.int .i64 zc,.bool zi,.string zv,.int .i64 zp,.int .i64 zt] := BoxIs.to hW7 (.set (.set (.set (.set (.set (.o1 (.o1 (.o1 b5 Xn50.out) Xn50.out) Xn50.out) 0 _) 1 _) 2 _) 3 _) 4 _)
  have HW7 := Lib.hid hW7
  clear hW7
  have HR_W7 := Lib.hid (show RefW W7 (fun b => b < n1 ∨ b = g4 ∨ b = g5) gC RA6 F.rows.length rc6 wo.cls.length cc2 F by rw [HW7.out]; exact (RefW.box (RefW.box (RefW.box (RefW.box (RefW.box (RefW.box (RefW.box (RefW.box HRW6.out (.inl (by have := HGG.out; omega)) Xk0.out _ _) (.inl (by have := HGG.out; omega)) Xk0.out _ _) (.inl (by have := HGG.out; omega)) Xk0.out _ _) (.inr (.inr rfl)) Xk5.out _ _) (.inr (.inr rfl)) Xk5.out _ _) (.inr (.inr rfl)) Xk5.out _ _) (.inr (.inr rfl)) Xk5.out _ _) (.inr (.inr rfl)) Xk5.out _ _))
  have HB_W7 := Lib.hid (show Below w.heap.size w W7 by
   have hgg := HGG.out
   have l0 : w.heap.size ≤ g0 := by omega
   have l5 : w.heap.size ≤ g5 := by omega
   rw [HW7.out]
   exact ((((((((HB6.out).setCell l0 _).setCell l0 _).setCell l0 _).setCell l5 _).setCell l5 _).setCell l5 _).setCell l5 _).setCell l5 _)
  clear x0 x1 x2 a0 a1 a2 a3 y0 y1 y2 y3 y4 o0 o1 o2 o3 o4 xf0 xf1 xf2 yf0 yf1 yf2 yf3 yf4 of0 of1 of2 of3 of4
  obtain ⟨x0,x1,x2⟩ := b0.c3
  obtain ⟨a0,a1,a2,a3⟩ := b1.c4
  obtain ⟨y0,y1,y2,y3,y4⟩ := b4.c5
  obtain ⟨o0,o1,o2,o3,o4⟩ := b5.c5
  obtain ⟨xf0,xf1,xf2⟩ := b0.f3
  obtain ⟨yf0,yf1,yf2,yf3,yf4⟩ := b4.f5
  obtain ⟨of0,of1,of2,of3,of4⟩ := b5.f5
  have tp := (HR_W7.out).cls C _ HCF.out
  have tp0 := tp.cp
  clear tp
  go_upto_region 49 with (fail)
  obtain ⟨W8,hW8⟩ : ∃ W8,W8 = (W7.setCell ⟨g5,3,none⟩ (.int .i64 cf.ph)) := ⟨_,rfl⟩
  rw [← hW8]
  have b0 := BoxIs.to hW8 (.o1 b0 Xn05.out)
  have b1 := BoxIs.to hW8 (.o1 b1 Xn15.out)
  have b2 := BoxIs.to hW8 (.o1 b2 Xn25.out)
  have b3 := BoxIs.to hW8 (.o1 b3 Xn35.out)
  have b4 := BoxIs.to hW8 (.o1 b4 Xn45.out)
  have b5 : BoxIs W8 g5 [.int .i64 zc,.bool zi,.string zv,.int .i64 cf.ph,.int .i64 zt] := BoxIs.to hW8 (.set b5 3 _)
  have HW8 := Lib.hid hW8
  clear hW8
  clear tp0
  clear x0 x1 x2 a0 a1 a2 a3 y0 y1 y2 y3 y4 o0 o1 o2 o3 o4 xf0 xf1 xf2 yf0 yf1 yf2 yf3 yf4 of0 of1 of2 of3 of4
  obtain ⟨x0,x1,x2⟩ := b0.c3
  obtain ⟨a0,a1,a2,a3⟩ := b1.c4
  obtain ⟨y0,y1,y2,y3,y4⟩ := b4.c5
  obtain ⟨o0,o1,o2,o3,o4⟩ := b5.c5
  obtain ⟨xf0,xf1,xf2⟩ := b0.f3
  obtain ⟨yf0,yf1,yf2,yf3,yf4⟩ := b4.f5
  obtain ⟨of0,of1,of2,of3,of4⟩ := b5.f5
  obtain ⟨r0,r1,r2⟩ := b2.c3
  obtain ⟨s0,s1,s2,s3,s4⟩ := b3.c5
  obtain ⟨rf0,rf1,rf2⟩ := b2.f3
  obtain ⟨sf0,sf1,sf2,sf3,sf4⟩ := b3.f5
  have n23 := Xn23.out
  have n32 := Xn32.out
  have n02 := Xn02.out
  have n20 := Xn20.out
  have n03 := Xn03.out
  have n30 := Xn30.out
  have n25 := Xn25.out
  have n52 := Xn52.out
  have n35 := Xn35.out
  have n53 := Xn53.out
  go_region
  obtain ⟨V,hV,⟨e0,e1,e2⟩,⟨d0,d1,d2,d3,d4⟩,hsV⟩ := two_stores (W := W8) (g := g2) (g' := g3) n23 r0 r1 r2 s0 s1 s2 s3 s4 (.slice RA6 F.rows.length rc6) (.int .i64 F.clock) (.slice (some ⟨gC,0,none⟩) wo.cls.length cc2) (.int .i64 zc) (.bool zi) (.string zv) (.int .i64 cf.ph) (.int .i64 zt)
  rw [← hV]
  have HFIN := Lib.hid (did_end (V := V) (w := w) (n1 := n1) (g4 := g4) (g5 := g5) (g2 := g2) (g3 := g3) HR_W7.out HB_W7.out HW8.out hV (by have := HGG.out; omega) (by have := HGG.out; omega) (by have := HGG.out; omega))
  clear hV
  go_wp2
  exact bodyPost_ret (v := .tuple #[.agg #[.slice RA6 F.rows.length rc6,.int .i64 F.clock,.slice (some ⟨gC,0,none⟩) wo.cls.length cc2],.agg #[.int .i64 zc,.bool zi,.string zv,.int .i64 cf.ph,.int .i64 zt],.int .i64 0]) (by simp [results,Tryz.results7,go_sem,e0,e1,e2,d0,d1,d2,d3,d4]) rfl
   ⟨HFIN.out.2,.inr ⟨HE0.out,RA6,F.rows.length,rc6,some ⟨gC,0,none⟩,wo.cls.length,cc2,by rw [doW,HPF.out]; dsimp only; rw [Int.toNat_natCast,getD_of_get HCF.out]; try rfl,by rw [doW,HPF.out]; exact HFIN.out.1⟩⟩
 ·by_cases hp : c.ph = 0
  ·have HPF := Lib.hid (show performW wo ⟨5,(C : Int),key,val⟩ = (wo.setC C idleC,ansCode 6) by
    have hci : c = idleC := idle_client (ok_client HOKW.out HCL.out) hp
    unfold performW; dsimp only; rw [if_neg (by decide),if_neg (by decide),if_neg (by decide),if_neg (by decide),if_pos rfl,Int.toNat_natCast,HCD.out,dropW,if_pos hp,← hci,setC_self HCL.out])
   have hp' : (c.ph == 0) = true := beq_iff_eq.2 hp
   have HHP := Lib.hid hp
   clear hp
   obtain ⟨x0,x1,x2⟩ := b0.c3
   obtain ⟨a0,a1,a2,a3⟩ := b1.c4
   obtain ⟨y0,y1,y2,y3,y4⟩ := b4.c5
   obtain ⟨o0,o1,o2,o3,o4⟩ := b5.c5
   obtain ⟨xf0,xf1,xf2⟩ := b0.f3
   obtain ⟨yf0,yf1,yf2,yf3,yf4⟩ := b4.f5
   obtain ⟨of0,of1,of2,of3,of4⟩ := b5.f5
   go_upto_region 47 with (fail)
   obtain ⟨W6,hW6⟩ : ∃ W6,W6 = (W5.setCell ⟨g5,0,none⟩ (.int .i64 6)) := ⟨_,rfl⟩
   rw [← hW6]
   have b0 := BoxIs.to hW6 (.o1 b0 Xn05.out)
   have b1 := BoxIs.to hW6 (.o1 b1 Xn15.out)
   have b2 := BoxIs.to hW6 (.o1 b2 Xn25.out)
   have b3 := BoxIs.to hW6 (.o1 b3 Xn35.out)
   have b4 := BoxIs.to hW6 (.o1 b4 Xn45.out)
   have b5 : BoxIs W6 g5 [.int .i64 6,.bool false,.string ⟨#[]⟩,.int .i64 0,.int .i64 0] := BoxIs.to hW6 (.set b5 0 _)
   have HW6 := Lib.hid hW6
   clear hW6
   have HR_W6 := Lib.hid (show RefW W6 (fun b => b < n1 ∨ b = g4 ∨ b = g5) gC RA2 wo.rows.length rc2 wo.cls.length cc2 wo by rw [HW6.out]; exact (RefW.box HRF.out (.inr (.inr rfl)) Xk5.out _ _))
   have HB_W6 := Lib.hid (show Below w.heap.size w W6 by
    have hgg := HGG.out
    have l5 : w.heap.size ≤ g5 := by omega
    rw [HW6.out]
    exact (HB5.out).setCell l5 _)
   clear x0 x1 x2 a0 a1 a2 a3 y0 y1 y2 y3 y4 o0 o1 o2 o3 o4 xf0 xf1 xf2 yf0 yf1 yf2 yf3 yf4 of0 of1 of2 of3 of4
   obtain ⟨x0,x1,x2⟩ := b0.c3
   obtain ⟨a0,a1,a2,a3⟩ := b1.c4
   obtain ⟨y0,y1,y2,y3,y4⟩ := b4.c5
   obtain ⟨o0,o1,o2,o3,o4⟩ := b5.c5
   obtain ⟨xf0,xf1,xf2⟩ := b0.f3
   obtain ⟨yf0,yf1,yf2,yf3,yf4⟩ := b4.f5
   obtain ⟨of0,of1,of2,of3,of4⟩ := b5.f5
   have t0 := RefW.cell HR_W6.out hCl 0 (by omega)
   have t1 := RefW.cell HR_W6.out hCl 1 (by omega)
   have t2 := RefW.cell HR_W6.out hCl 2 (by omega)
   have t3 := RefW.cell HR_W6.out hCl 3 (by omega)
   have t4 := RefW.cell HR_W6.out hCl 4 (by omega)
   rw [Nat.add_zero] at t0
   obtain ⟨u0,t0,tf0⟩ := t0
   obtain ⟨u1,t1,tf1⟩ := t1
   obtain ⟨u2,t2,tf2⟩ := t2
   obtain ⟨u3,t3,tf3⟩ := t3
   obtain ⟨u4,t4,tf4⟩ := t4
   go_upto_region 48 with (fail)
   obtain ⟨W7,hW7⟩ : ∃ W7,W7 = (((((W6.setCell ⟨gC,C * 5,none⟩ (.int .i64 0)).setCell ⟨gC,C * 5 + 1,none⟩ (.int .i64 0)).setCell ⟨gC,C * 5 + 2,none⟩ (.int .i64 0)).setCell ⟨gC,C * 5 + 3,none⟩ (.slice none 0 0)).setCell ⟨gC,C * 5 + 4,none⟩ (.int .i64 0)) := ⟨_,rfl⟩
   rw [← hW7]
   have b0 := BoxIs.to hW7 (.o5 b0 Xk0.out)
   have b1 := BoxIs.to hW7 (.o5 b1 Xk1.out)
   have b2 := BoxIs.to hW7 (.o5 b2 Xk2.out)
   have b3 := BoxIs.to hW7 (.o5 b3 Xk3.out)
   have b4 := BoxIs.to hW7 (.o5 b4 Xk4.out)
   have b5 := BoxIs.to hW7 (.o5 b5 Xk5.out)
   have HW7 := Lib.hid hW7
   clear hW7
   clear t0 t1 t2 t3 t4 tf0 tf1 tf2 tf3 tf4
   have HR_W7 := Lib.hid (show RefW W7 (fun b => b < n1 ∨ b = g4 ∨ b = g5) gC RA2 wo.rows.length rc2 wo.cls.length cc2 (wo.setC C idleC) by
    rw [HW7.out]; exact RefW.setC HR_W6.out hCl idleC none 0 ⟨i64_zero,i64_zero,i64_zero,i64_zero⟩ (Nat.le_refl _) (SeqAt.nil_ _))
   have HB_W7 := Lib.hid (show Below w.heap.size w W7 by
    have hgg := HGG.out
    have lC : w.heap.size ≤ gC := by omega
    rw [HW7.out]
    exact (((((HB_W6.out).setCell lC _).setCell lC _).setCell lC _).setCell lC _).setCell lC _)
   clear x0 x1 x2 a0 a1 a2 a3 y0 y1 y2 y3 y4 o0 o1 o2 o3 o4 xf0 xf1 xf2 yf0 yf1 yf2 yf3 yf4 of0 of1 of2 of3 of4
   obtain ⟨x0,x1,x2⟩ := b0.c3
   obtain ⟨a0,a1,a2,a3⟩ := b1.c4
   obtain ⟨y0,y1,y2,y3,y4⟩ := b4.c5
   obtain ⟨o0,o1,o2,o3,o4⟩ := b5.c5
   obtain ⟨xf0,xf1,xf2⟩ := b0.f3
   obtain ⟨yf0,yf1,yf2,yf3,yf4⟩ := b4.f5
   obtain ⟨of0,of1,of2,of3,of4⟩ := b5.f5
   have tp := (HR_W7.out).cls C _ (show (wo.setC C idleC).cls[C]? = some idleC from List.getElem?_set_self hCl)
   have tp0 := tp.cp
   clear tp
   go_upto_region 49 with (fail)
   obtain ⟨W8,hW8⟩ : ∃ W8,W8 = (W7.setCell ⟨g5,3,none⟩ (.int .i64 idleC.ph)) := ⟨_,rfl⟩
   rw [← hW8]
   have b0 := BoxIs.to hW8 (.o1 b0 Xn05.out)
   have b1 := BoxIs.to hW8 (.o1 b1 Xn15.out)
   have b2 := BoxIs.to hW8 (.o1 b2 Xn25.out)
   have b3 := BoxIs.to hW8 (.o1 b3 Xn35.out)
   have b4 := BoxIs.to hW8 (.o1 b4 Xn45.out)
   have b5 : BoxIs W8 g5 [.int .i64 6,.bool false,.string ⟨#[]⟩,.int .i64 idleC.ph,.int .i64 0] := BoxIs.to hW8 (.set b5 3 _)
   have HW8 := Lib.hid hW8
   clear hW8
   clear tp0
   clear x0 x1 x2 a0 a1 a2 a3 y0 y1 y2 y3 y4 o0 o1 o2 o3 o4 xf0 xf1 xf2 yf0 yf1 yf2 yf3 yf4 of0 of1 of2 of3 of4
   obtain ⟨x0,x1,x2⟩ := b0.c3
   obtain ⟨a0,a1,a2,a3⟩ := b1.c4
   obtain ⟨y0,y1,y2,y3,y4⟩ := b4.c5
   obtain ⟨o0,o1,o2,o3,o4⟩ := b5.c5
   obtain ⟨xf0,xf1,xf2⟩ := b0.f3
   obtain ⟨yf0,yf1,yf2,yf3,yf4⟩ := b4.f5
   obtain ⟨of0,of1,of2,of3,of4⟩ := b5.f5
   obtain ⟨r0,r1,r2⟩ := b2.c3
   obtain ⟨s0,s1,s2,s3,s4⟩ := b3.c5
   obtain ⟨rf0,rf1,rf2⟩ := b2.f3
   obtain ⟨sf0,sf1,sf2,sf3,sf4⟩ := b3.f5
   have n23 := Xn23.out
   have n32 := Xn32.out
   have n02 := Xn02.out
   have n20 := Xn20.out
   have n03 := Xn03.out
   have n30 := Xn30.out
   have n25 := Xn25.out
   have n52 := Xn52.out
   have n35 := Xn35.out
   have n53 := Xn53.out
   go_region
   obtain ⟨V,hV,⟨e0,e1,e2⟩,⟨d0,d1,d2,d3,d4⟩,hsV⟩ := two_stores (W := W8) (g := g2) (g' := g3) n23 r0 r1 r2 s0 s1 s2 s3 s4 (.slice RA2 wo.rows.length rc2) (.int .i64 wo.clock) (.slice (some ⟨gC,0,none⟩) wo.cls.length cc2) (.int .i64 6) (.bool false) (.string ⟨#[]⟩) (.int .i64 idleC.ph) (.int .i64 0)
   rw [← hV]
   have HFIN := Lib.hid (did_end (V := V) (w := w) (n1 := n1) (g4 := g4) (g5 := g5) (g2 := g2) (g3 := g3) HR_W7.out HB_W7.out HW8.out hV (by have := HGG.out; omega) (by have := HGG.out; omega) (by have := HGG.out; omega))
   clear hV
   go_wp2
   exact bodyPost_ret (v := .tuple #[.agg #[.slice RA2 wo.rows.length rc2,.int .i64 wo.clock,.slice (some ⟨gC,0,none⟩) wo.cls.length cc2],.agg #[.int .i64 6,.bool false,.string ⟨#[]⟩,.int .i64 idleC.ph,.int .i64 0],.int .i64 0]) (by simp [results,Tryz.results7,go_sem,e0,e1,e2,d0,d1,d2,d3,d4]) rfl
    ⟨HFIN.out.2,.inr ⟨HE0.out,RA2,wo.rows.length,rc2,some ⟨gC,0,none⟩,wo.cls.length,cc2,by rw [doW,HPF.out]; dsimp only; rw [Int.toNat_natCast,getD_of_get (show (wo.setC C idleC).cls[C]? = some idleC from List.getElem?_set_self hCl)]; try rfl,by rw [doW,HPF.out]; exact HFIN.out.1⟩⟩
  ·have HPF := Lib.hid (show performW wo ⟨5,(C : Int),key,val⟩ = (wo.setC C idleC,ansCode 0) by
    unfold performW; dsimp only; rw [if_neg (by decide),if_neg (by decide),if_neg (by decide),if_neg (by decide),if_pos rfl,Int.toNat_natCast,HCD.out,dropW,if_neg hp])
   have hp' : (c.ph == 0) = false := beq_eq_false_iff_ne.2 hp
   have HHP := Lib.hid hp
   clear hp
   obtain ⟨x0,x1,x2⟩ := b0.c3
   obtain ⟨a0,a1,a2,a3⟩ := b1.c4
   obtain ⟨y0,y1,y2,y3,y4⟩ := b4.c5
   obtain ⟨o0,o1,o2,o3,o4⟩ := b5.c5
   obtain ⟨xf0,xf1,xf2⟩ := b0.f3
   obtain ⟨yf0,yf1,yf2,yf3,yf4⟩ := b4.f5
   obtain ⟨of0,of1,of2,of3,of4⟩ := b5.f5
   go_upto_region 47 with (fail)
   have t0 := RefW.cell HRF.out hCl 0 (by omega)
   have t1 := RefW.cell HRF.out hCl 1 (by omega)
   have t2 := RefW.cell HRF.out hCl 2 (by omega)
   have t3 := RefW.cell HRF.out hCl 3 (by omega)
   have t4 := RefW.cell HRF.out hCl 4 (by omega)
   rw [Nat.add_zero] at t0
   obtain ⟨u0,t0,tf0⟩ := t0
   obtain ⟨u1,t1,tf1⟩ := t1
   obtain ⟨u2,t2,tf2⟩ := t2
   obtain ⟨u3,t3,tf3⟩ := t3
   obtain ⟨u4,t4,tf4⟩ := t4
   go_upto_region 48 with (fail)
   obtain ⟨W7,hW7⟩ : ∃ W7,W7 = (((((W5.setCell ⟨gC,C * 5,none⟩ (.int .i64 0)).setCell ⟨gC,C * 5 + 1,none⟩ (.int .i64 0)).setCell ⟨gC,C * 5 + 2,none⟩ (.int .i64 0)).setCell ⟨gC,C * 5 + 3,none⟩ (.slice none 0 0)).setCell ⟨gC,C * 5 + 4,none⟩ (.int .i64 0)) := ⟨_,rfl⟩
   rw [← hW7]
   have b0 := BoxIs.to hW7 (.o5 b0 Xk0.out)
   have b1 := BoxIs.to hW7 (.o5 b1 Xk1.out)
   have b2 := BoxIs.to hW7 (.o5 b2 Xk2.out)
   have b3 := BoxIs.to hW7 (.o5 b3 Xk3.out)
   have b4 := BoxIs.to hW7 (.o5 b4 Xk4.out)
   have b5 := BoxIs.to hW7 (.o5 b5 Xk5.out)
   have HW7 := Lib.hid hW7
   clear hW7
   clear t0 t1 t2 t3 t4 tf0 tf1 tf2 tf3 tf4
   have HR_W7 := Lib.hid (show RefW W7 (fun b => b < n1 ∨ b = g4 ∨ b = g5) gC RA2 wo.rows.length rc2 wo.cls.length cc2 (wo.setC C idleC) by
    rw [HW7.out]; exact RefW.setC HRF.out hCl idleC none 0 ⟨i64_zero,i64_zero,i64_zero,i64_zero⟩ (Nat.le_refl _) (SeqAt.nil_ _))
   have HB_W7 := Lib.hid (show Below w.heap.size w W7 by
    have hgg := HGG.out
    have lC : w.heap.size ≤ gC := by omega
    rw [HW7.out]
    exact (((((HB5.out).setCell lC _).setCell lC _).setCell lC _).setCell lC _).setCell lC _)
   clear x0 x1 x2 a0 a1 a2 a3 y0 y1 y2 y3 y4 o0 o1 o2 o3 o4 xf0 xf1 xf2 yf0 yf1 yf2 yf3 yf4 of0 of1 of2 of3 of4
   obtain ⟨x0,x1,x2⟩ := b0.c3
   obtain ⟨a0,a1,a2,a3⟩ := b1.c4
   obtain ⟨y0,y1,y2,y3,y4⟩ := b4.c5
   obtain ⟨o0,o1,o2,o3,o4⟩ := b5.c5
   obtain ⟨xf0,xf1,xf2⟩ := b0.f3
   obtain ⟨yf0,yf1,yf2,yf3,yf4⟩ := b4.f5
   obtain ⟨of0,of1,of2,of3,of4⟩ := b5.f5
   have tp := (HR_W7.out).cls C _ (show (wo.setC C idleC).cls[C]? = some idleC from List.getElem?_set_self hCl)
   have tp0 := tp.cp
   clear tp
   go_upto_region 49 with (fail)
   obtain ⟨W8,hW8⟩ : ∃ W8,W8 = (W7.setCell ⟨g5,3,none⟩ (.int .i64 idleC.ph)) := ⟨_,rfl⟩
   rw [← hW8]
   have b0 := BoxIs.to hW8 (.o1 b0 Xn05.out)
   have b1 := BoxIs.to hW8 (.o1 b1 Xn15.out)
   have b2 := BoxIs.to hW8 (.o1 b2 Xn25.out)
   have b3 := BoxIs.to hW8 (.o1 b3 Xn35.out)
   have b4 := BoxIs.to hW8 (.o1 b4 Xn45.out)
   have b5 : BoxIs W8 g5 [.int .i64 0,.bool false,.string ⟨#[]⟩,.int .i64 idleC.ph,.int .i64 0] := BoxIs.to hW8 (.set b5 3 _)
   have HW8 := Lib.hid hW8
   clear hW8
   clear tp0
   clear x0 x1 x2 a0 a1 a2 a3 y0 y1 y2 y3 y4 o0 o1 o2 o3 o4 xf0 xf1 xf2 yf0 yf1 yf2 yf3 yf4 of0 of1 of2 of3 of4
   obtain ⟨x0,x1,x2⟩ := b0.c3
   obtain ⟨a0,a1,a2,a3⟩ := b1.c4
   obtain ⟨y0,y1,y2,y3,y4⟩ := b4.c5
   obtain ⟨o0,o1,o2,o3,o4⟩ := b5.c5
   obtain ⟨xf0,xf1,xf2⟩ := b0.f3
   obtain ⟨yf0,yf1,yf2,yf3,yf4⟩ := b4.f5
   obtain ⟨of0,of1,of2,of3,of4⟩ := b5.f5
   obtain ⟨r0,r1,r2⟩ := b2.c3
   obtain ⟨s0,s1,s2,s3,s4⟩ := b3.c5
   obtain ⟨rf0,rf1,rf2⟩ := b2.f3
   obtain ⟨sf0,sf1,sf2,sf3,sf4⟩ := b3.f5
   have n23 := Xn23.out
   have n32 := Xn32.out
   have n02 := Xn02.out
   have n20 := Xn20.out
   have n03 := Xn03.out
   have n30 := Xn30.out
   have n25 := Xn25.out
   have n52 := Xn52.out
   have n35 := Xn35.out
   have n53 := Xn53.out
   go_region
   obtain ⟨V,hV,⟨e0,e1,e2⟩,⟨d0,d1,d2,d3,d4⟩,hsV⟩ := two_stores (W := W8) (g := g2) (g' := g3) n23 r0 r1 r2 s0 s1 s2 s3 s4 (.slice RA2 wo.rows.length rc2) (.int .i64 wo.clock) (.slice (some ⟨gC,0,none⟩) wo.cls.length cc2) (.int .i64 0) (.bool false) (.string ⟨#[]⟩) (.int .i64 idleC.ph) (.int .i64 0)
   rw [← hV]
   have HFIN := Lib.hid (did_end (V := V) (w := w) (n1 := n1) (g4 := g4) (g5 := g5) (g2 := g2) (g3 := g3) HR_W7.out HB_W7.out HW8.out hV (by have := HGG.out; omega) (by have := HGG.out; omega) (by have := HGG.out; omega))
   clear hV
   go_wp2
   exact bodyPost_ret (v := .tuple #[.agg #[.slice RA2 wo.rows.length rc2,.int .i64 wo.clock,.slice (some ⟨gC,0,none⟩) wo.cls.length cc2],.agg #[.int .i64 0,.bool false,.string ⟨#[]⟩,.int .i64 idleC.ph,.int .i64 0],.int .i64 0]) (by simp [results,Tryz.results7,go_sem,e0,e1,e2,d0,d1,d2,d3,d4]) rfl
    ⟨HFIN.out.2,.inr ⟨HE0.out,RA2,wo.rows.length,rc2,some ⟨gC,0,none⟩,wo.cls.length,cc2,by rw [doW,HPF.out]; dsimp only; rw [Int.toNat_natCast,getD_of_get (show (wo.setC C idleC).cls[C]? = some idleC from List.getElem?_set_self hCl)]; try rfl,by rw [doW,HPF.out]; exact HFIN.out.1⟩⟩
 ·have HPF := Lib.hid (show performW wo ⟨6,(C : Int),key,val⟩ = ({ wo with rows := (resR wo.rows key).1 },ansCode (resR wo.rows key).2) by
   unfold performW; dsimp only; rw [if_neg (by decide),if_neg (by decide),if_neg (by decide),if_neg (by decide),if_neg (by decide),resolve_eq (ok_rows HOKW.out)])
  have HRS := Lib.hid (resolved_any key (fun b => b < W5.heap.size ∧ b ≠ gC ∧ ¬ (b < n1 ∨ b = g4 ∨ b = g5)) RA2 (some ⟨gC,0,none⟩) wo.rows.length rc2 wo.cls.length cc2 wo.clock wo.rows W5 rfl HRF.out.hrc HRF.out.rows (fun b hb => hb.1) (ok_rows HOKW.out) HKS.out)
  obtain ⟨R,hR⟩ : ∃ R,R = resR wo.rows key := ⟨_,rfl⟩
  rw [← hR] at HPF HRS
  obtain ⟨R1,R2⟩ := R
  clear hR
  dsimp only at HPF
  obtain ⟨x0,x1,x2⟩ := b0.c3
  obtain ⟨a0,a1,a2,a3⟩ := b1.c4
  obtain ⟨y0,y1,y2,y3,y4⟩ := b4.c5
  obtain ⟨o0,o1,o2,o3,o4⟩ := b5.c5
  obtain ⟨xf0,xf1,xf2⟩ := b0.f3
  obtain ⟨yf0,yf1,yf2,yf3,yf4⟩ := b4.f5
  obtain ⟨of0,of1,of2,of3,of4⟩ := b5.f5
  go_wp2_with fail
  refine HRS.out.mono ?_
  rintro e w6 ⟨RA6,rc6,rfl,hc6,hr6,hb6⟩
  dsimp only at hc6 hr6 ⊢
  have b0 := BoxIs.upto b0 hb6
  have b1 := BoxIs.upto b1 hb6
  have b2 := BoxIs.upto b2 hb6
  have b3 := BoxIs.upto b3 hb6
  have b4 := BoxIs.upto b4 hb6
  have b5 := BoxIs.upto b5 hb6
  have HRW6 := Lib.hid (show RefW w6 (fun b => b < n1 ∨ b = g4 ∨ b = g5) gC RA6 R1.length rc6 wo.cls.length cc2 { wo with rows := R1 } from (HRF.out.upto hb6).turn hc6 (hr6.rows (fun b hb => by
   have hgg := HGG.out
   have hsz := hb6.size
   rcases hb with hb | hb
   ·exact ⟨by omega,hb.2⟩
   ·exact ⟨hb.2,by omega,by omega⟩) (fun _ _ _ => rfl)))
  have HB6 := Lib.hid (below_next HB5.out hb6)
  clear hc6 hr6 hb6
  clear x0 x1 x2 a0 a1 a2 a3 y0 y1 y2 y3 y4 o0 o1 o2 o3 o4 xf0 xf1 xf2 yf0 yf1 yf2 yf3 yf4 of0 of1 of2 of3 of4
  obtain ⟨x0,x1,x2⟩ := b0.c3
  obtain ⟨a0,a1,a2,a3⟩ := b1.c4
  obtain ⟨y0,y1,y2,y3,y4⟩ := b4.c5
  obtain ⟨o0,o1,o2,o3,o4⟩ := b5.c5
  obtain ⟨xf0,xf1,xf2⟩ := b0.f3
  obtain ⟨yf0,yf1,yf2,yf3,yf4⟩ := b4.f5
  obtain ⟨of0,of1,of2,of3,of4⟩ := b5.f5
  go_upto_region 48 with (fail)
  obtain ⟨W7,hW7⟩ : ∃ W7,W7 = ((((w6.setCell ⟨g0,0,none⟩ (.slice RA6 R1.length rc6)).setCell ⟨g0,1,none⟩ (.int .i64 wo.clock)).setCell ⟨g0,2,none⟩ (.slice (some ⟨gC,0,none⟩) wo.cls.length cc2)).setCell ⟨g5,0,none⟩ (.int .i64 R2)) := ⟨_,rfl⟩
  rw [← hW7]
  have b0 : BoxIs W7 g0 [.slice RA6 R1.length rc6,.int .i64 wo.clock,.slice (some ⟨gC,0,none⟩) wo.cls.length cc2] := BoxIs.to hW7 (.o1 (.set (.set (.set b0 0 _) 1 _) 2 _) Xn05.out)
  have b1 := BoxIs.to hW7 (.o1 (.o3 b1 Xn10.out) Xn15.out)
  have b2 := BoxIs.to hW7 (.o1 (.o3 b2 Xn20.out) Xn25.out)
  have b3 := BoxIs.to hW7 (.o1 (.o3 b3 Xn30.out) Xn35.out)
  have b4 := BoxIs.to hW7 (.o1 (.o3 b4 Xn40.out) Xn45.out)
  have b5 : BoxIs W7 g5 [.int .i64 R2,.bool false,.string ⟨#[]⟩,.int .i64 0,.int .i64 0] := BoxIs.to hW7 (.set (.o1 (.o1 (.o1 b5 Xn50.out) Xn50.out) Xn50.out) 0 _)
  have HW7 := Lib.hid hW7
  clear hW7
  have HR_W7 := Lib.hid (show RefW W7 (fun b => b < n1 ∨ b = g4 ∨ b = g5) gC RA6 R1.length rc6 wo.cls.length cc2 { wo with rows := R1 } by rw [HW7.out]; exact (RefW.box (RefW.box (RefW.box (RefW.box HRW6.out (.inl (by have := HGG.out; omega)) Xk0.out _ _) (.inl (by have := HGG.out; omega)) Xk0.out _ _) (.inl (by have := HGG.out; omega)) Xk0.out _ _) (.inr (.inr rfl)) Xk5.out _ _))
  have HB_W7 := Lib.hid (show Below w.heap.size w W7 by
   have hgg := HGG.out
   have l0 : w.heap.size ≤ g0 := by omega
   have l5 : w.heap.size ≤ g5 := by omega
   rw [HW7.out]
   exact ((((HB6.out).setCell l0 _).setCell l0 _).setCell l0 _).setCell l5 _)
  clear x0 x1 x2 a0 a1 a2 a3 y0 y1 y2 y3 y4 o0 o1 o2 o3 o4 xf0 xf1 xf2 yf0 yf1 yf2 yf3 yf4 of0 of1 of2 of3 of4
  obtain ⟨x0,x1,x2⟩ := b0.c3
  obtain ⟨a0,a1,a2,a3⟩ := b1.c4
  obtain ⟨y0,y1,y2,y3,y4⟩ := b4.c5
  obtain ⟨o0,o1,o2,o3,o4⟩ := b5.c5
  obtain ⟨xf0,xf1,xf2⟩ := b0.f3
  obtain ⟨yf0,yf1,yf2,yf3,yf4⟩ := b4.f5
  obtain ⟨of0,of1,of2,of3,of4⟩ := b5.f5
  have tp := (HR_W7.out).cls C _ (show ({ wo with rows := R1 } : WoM).cls[C]? = some c from HCL.out)
  have tp0 := tp.cp
  clear tp
  go_upto_region 49 with (fail)
  obtain ⟨W8,hW8⟩ : ∃ W8,W8 = (W7.setCell ⟨g5,3,none⟩ (.int .i64 c.ph)) := ⟨_,rfl⟩
  rw [← hW8]
  have b0 := BoxIs.to hW8 (.o1 b0 Xn05.out)
  have b1 := BoxIs.to hW8 (.o1 b1 Xn15.out)
  have b2 := BoxIs.to hW8 (.o1 b2 Xn25.out)
  have b3 := BoxIs.to hW8 (.o1 b3 Xn35.out)
  have b4 := BoxIs.to hW8 (.o1 b4 Xn45.out)
  have b5 : BoxIs W8 g5 [.int .i64 R2,.bool false,.string ⟨#[]⟩,.int .i64 c.ph,.int .i64 0] := BoxIs.to hW8 (.set b5 3 _)
  have HW8 := Lib.hid hW8
  clear hW8
  clear tp0
  clear x0 x1 x2 a0 a1 a2 a3 y0 y1 y2 y3 y4 o0 o1 o2 o3 o4 xf0 xf1 xf2 yf0 yf1 yf2 yf3 yf4 of0 of1 of2 of3 of4
  obtain ⟨x0,x1,x2⟩ := b0.c3
  obtain ⟨a0,a1,a2,a3⟩ := b1.c4
  obtain ⟨y0,y1,y2,y3,y4⟩ := b4.c5
  obtain ⟨o0,o1,o2,o3,o4⟩ := b5.c5
  obtain ⟨xf0,xf1,xf2⟩ := b0.f3
  obtain ⟨yf0,yf1,yf2,yf3,yf4⟩ := b4.f5
  obtain ⟨of0,of1,of2,of3,of4⟩ := b5.f5
  obtain ⟨r0,r1,r2⟩ := b2.c3
  obtain ⟨s0,s1,s2,s3,s4⟩ := b3.c5
  obtain ⟨rf0,rf1,rf2⟩ := b2.f3
  obtain ⟨sf0,sf1,sf2,sf3,sf4⟩ := b3.f5
  have n23 := Xn23.out
  have n32 := Xn32.out
  have n02 := Xn02.out
  have n20 := Xn20.out
  have n03 := Xn03.out
  have n30 := Xn30.out
  have n25 := Xn25.out
  have n52 := Xn52.out
  have n35 := Xn35.out
  have n53 := Xn53.out
  go_region
  obtain ⟨V,hV,⟨e0,e1,e2⟩,⟨d0,d1,d2,d3,d4⟩,hsV⟩ := two_stores (W := W8) (g := g2) (g' := g3) n23 r0 r1 r2 s0 s1 s2 s3 s4 (.slice RA6 R1.length rc6) (.int .i64 wo.clock) (.slice (some ⟨gC,0,none⟩) wo.cls.length cc2) (.int .i64 R2) (.bool false) (.string ⟨#[]⟩) (.int .i64 c.ph) (.int .i64 0)
  rw [← hV]
  have HFIN := Lib.hid (did_end (V := V) (w := w) (n1 := n1) (g4 := g4) (g5 := g5) (g2 := g2) (g3 := g3) HR_W7.out HB_W7.out HW8.out hV (by have := HGG.out; omega) (by have := HGG.out; omega) (by have := HGG.out; omega))
  clear hV
  go_wp2
  exact bodyPost_ret (v := .tuple #[.agg #[.slice RA6 R1.length rc6,.int .i64 wo.clock,.slice (some ⟨gC,0,none⟩) wo.cls.length cc2],.agg #[.int .i64 R2,.bool false,.string ⟨#[]⟩,.int .i64 c.ph,.int .i64 0],.int .i64 0]) (by simp [results,Tryz.results7,go_sem,e0,e1,e2,d0,d1,d2,d3,d4]) rfl
   ⟨HFIN.out.2,.inr ⟨HE0.out,RA6,R1.length,rc6,some ⟨gC,0,none⟩,wo.cls.length,cc2,by rw [doW,HPF.out]; dsimp only; rw [Int.toNat_natCast,getD_of_get (show ({ wo with rows := R1 } : WoM).cls[C]? = some c from HCL.out)]; try rfl,by rw [doW,HPF.out]; exact HFIN.out.1⟩⟩
end Go.Proofs.YtambkjnhfejfaaaGreat
