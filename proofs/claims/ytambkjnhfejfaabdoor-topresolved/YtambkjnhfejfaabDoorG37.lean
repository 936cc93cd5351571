/-
  Contracts of functions of the program and words for memory, several texts in one: GRead, KMap, KValue, KCommMem, KCommEnd, KComm. Conditions: those stated with each.
-/
import Derived.Test.YtambkjnhfejfaabDoorG00
import Derived.Test.YtambkjnhfejfaabDoorG03
import Derived.Test.YtambkjnhfejfaabDoorG33
import Derived.Test.YtambkjnhfejfaabDoorG34
import Derived.Test.YtambkjnhfejfaabDoorRows
import Derived.Maps.StringElems
import Derived.Maps.Ext
import Derived.Deep.DeepCutAuto
import Derived.BigQuiet
import Derived.Deep.QuietTactic
import Derived.Deep.RegionHeld3
namespace Go.Proofs.YtambkjnhfejfaabDoor
open Go.RowKit

/-- The value of a key among writes. -/
def lookW (ws : List WrM) (k : ByteArray) : Option ByteArray := (ws.find? fun y => decide (y.k = k)).map WrM.v
theorem lookW_mem {ws : List WrM} {k v : ByteArray} (h : lookW ws k = some v) : ⟨k, v⟩ ∈ ws := by
  unfold lookW at h
  obtain ⟨y, hy, hv⟩ := Option.map_eq_some_iff.1 h
  have h1 := List.mem_of_find?_eq_some hy
  have h2 : y.k = k := by have := List.find?_some hy; simpa using this
  subst h2 hv
  exact h1
theorem lookW_some {ws : List WrM} {y : WrM} (h : y ∈ ws) : (lookW ws y.k).isSome = true := by
  unfold lookW
  rw [Option.isSome_map, List.find?_isSome]
  exact ⟨y, h, by simp⟩
theorem lookW_hasK {ws : List WrM} (h : Inc (wrKeys ws)) (k : ByteArray) : lookW ws k = if hasK (wrKeys ws) k then some (wrAt ws k).v else none := by
  by_cases hk : hasK (wrKeys ws) k = true
  · rw [if_pos hk]
    have hlt : lowIx (wrKeys ws) k < ws.length := by simp only [hasK, Bool.and_eq_true, decide_eq_true_eq, List.length_map] at hk; exact hk.1
    have hkey : (wrAt ws k).k = k := by
      simp only [hasK, Bool.and_eq_true, decide_eq_true_eq] at hk
      have := hk.2
      simpa [List.getD, hlt, wrAt] using this
    have hm : wrAt ws k ∈ ws := getD_mem hlt
    have hs := lookW_some hm
    rw [hkey] at hs
    obtain ⟨v, hv⟩ := Option.isSome_iff_exists.1 hs
    rw [hv]
    -- the keys differ, so there is one
    have h2 := lookW_mem hv
    obtain ⟨i, hi, ei⟩ := List.getElem_of_mem h2
    obtain ⟨j, hj, ej⟩ := List.getElem_of_mem hm
    have key : ∀ a b, (ha : a < ws.length) → (hb : b < ws.length) → a < b → ws[a].k ≠ ws[b].k := by
      intro a b ha hb hab e
      have := List.pairwise_iff_getElem.1 h a b (by simpa using ha) (by simpa using hb) hab
      have : ltS ws[a].k ws[b].k = true := by simpa using this
      rw [e, ltS_irrefl] at this; cases this
    have eij : i = j := by
      rcases Nat.lt_trichotomy i j with hij | hij | hij
      · exact absurd (by rw [ei, ej, hkey]) (key i j hi hj hij)
      · exact hij
      · exact absurd (by rw [ei, ej, hkey]) (key j i hj hi hij)
    subst eij
    rw [ei] at ej
    rw [← ej]
  · rw [if_neg hk]
    cases hl : lookW ws k with
    | none => rfl
    | some v =>
      exfalso
      have := lookW_mem hl
      exact hk ((hasK_iff h).2 (List.mem_map.2 ⟨_, this, rfl⟩))

/-- A deal that may tell of a key at a time, ahead of an act. -/
def tellsOf (key : ByteArray) (at_ : Int) (act : Nat) (d : DealM) : Bool := (lookW d.ws key).isSome && decide (d.act < act) && decide (d.cm ≤ at_)
def bestF (key : ByteArray) (at_ : Int) (act : Nat) (b d : DealM) : DealM := if tellsOf key at_ act d && decide (b.cm < d.cm) then d else b
def bestD (key : ByteArray) (at_ : Int) (act : Nat) (ds : List DealM) : DealM := ds.foldl (bestF key at_ act) default
theorem bestD_snoc (key : ByteArray) (at_ : Int) (act : Nat) (ds : List DealM) (d : DealM) : bestD key at_ act (ds ++ [d]) = bestF key at_ act (bestD key at_ act ds) d := by simp [bestD]
theorem fold_spec (key : ByteArray) (at_ : Int) (act : Nat) : ∀ (ds : List DealM) (b : DealM), (ds.foldl (bestF key at_ act) b = b ∨ (ds.foldl (bestF key at_ act) b ∈ ds ∧ tellsOf key at_ act (ds.foldl (bestF key at_ act) b) = true ∧ b.cm < (ds.foldl (bestF key at_ act) b).cm)) ∧ b.cm ≤ (ds.foldl (bestF key at_ act) b).cm ∧ ∀ d ∈ ds, tellsOf key at_ act d = true → d.cm ≤ (ds.foldl (bestF key at_ act) b).cm
  | [], b => ⟨.inl rfl, Int.le_refl _, fun _ h => by cases h⟩
  | d :: ds, b => by
    obtain ⟨h1, h2, h3⟩ := fold_spec key at_ act ds (bestF key at_ act b d)
    rw [List.foldl_cons]
    have hle : b.cm ≤ (bestF key at_ act b d).cm ∧ (tellsOf key at_ act d = true → d.cm ≤ (bestF key at_ act b d).cm) := by
      unfold bestF
      split
      · rename_i h
        simp only [Bool.and_eq_true, decide_eq_true_eq] at h
        exact ⟨by omega, fun _ => Int.le_refl _⟩
      · rename_i h
        refine ⟨Int.le_refl _, fun ht => ?_⟩
        simp only [Bool.and_eq_true, decide_eq_true_eq, not_and, Int.not_lt] at h
        exact h ht
    refine ⟨?_, by omega, fun e he ht => ?_⟩
    · rcases h1 with h1 | ⟨h1, h1', h1''⟩
      · rw [h1]
        by_cases h : (tellsOf key at_ act d && decide (b.cm < d.cm)) = true
        · have e : bestF key at_ act b d = d := by unfold bestF; rw [if_pos h]
          simp only [Bool.and_eq_true, decide_eq_true_eq] at h
          rw [e]; exact .inr ⟨List.mem_cons_self, h⟩
        · have e : bestF key at_ act b d = b := by unfold bestF; rw [if_neg h]
          rw [e]; exact .inl rfl
      · exact .inr ⟨List.mem_cons_of_mem _ h1, h1', by omega⟩
    · rcases List.mem_cons.1 he with rfl | he
      · have := hle.2 ht; omega
      · exact h3 e he ht
theorem fold_skip (key : ByteArray) (at_ : Int) (act : Nat) : ∀ (ds : List DealM) (b : DealM), (∀ d ∈ ds, tellsOf key at_ act d = false) → ds.foldl (bestF key at_ act) b = b
  | [], _, _ => rfl
  | d :: ds, b, h => by
    rw [List.foldl_cons, show bestF key at_ act b d = b by unfold bestF; rw [h d List.mem_cons_self]; rfl]
    exact fold_skip key at_ act ds b fun e he => h e (List.mem_cons_of_mem _ he)
/-- What is read last. -/
theorem best_spec {l : List RecM} (h : recsFrom 0 0 l = true) (at_ : Int) : (bestOf at_ l = zeroRec ∧ ∀ y ∈ l, upTo at_ y = false) ∨ (bestOf at_ l ∈ l ∧ upTo at_ (bestOf at_ l) = true ∧ ∀ y ∈ l, upTo at_ y = true → y.c ≤ (bestOf at_ l).c) := by
  rw [bestOf_eq]
  by_cases hF : l.filter (upTo at_) = []
  · left
    rw [hF]
    refine ⟨rfl, fun y hy => ?_⟩
    have := List.filter_eq_nil_iff.1 hF y hy
    simpa using this
  · right
    have e : (l.filter (upTo at_)).getLastD zeroRec = (l.filter (upTo at_)).getLast hF := by rw [List.getLastD_eq_getLast?, List.getLast?_eq_some_getLast hF]; rfl
    rw [e]
    have hm := List.getLast_mem hF
    obtain ⟨hm1, hm2⟩ := List.mem_filter.1 hm
    refine ⟨hm1, hm2, fun y hy hu => ?_⟩
    have hyF : y ∈ l.filter (upTo at_) := List.mem_filter.2 ⟨hy, hu⟩
    have hp : (l.filter (upTo at_)).Pairwise (fun a b => a.s < b.s ∧ (b.c ≠ 0 → a.c ≤ b.s)) := ((recsOk_iff _).1 h).2.sublist List.filter_sublist
    obtain ⟨i, hi, rfl⟩ := List.getElem_of_mem hyF
    rw [List.getLast_eq_getElem]
    by_cases hil : i = (l.filter (upTo at_)).length - 1
    · subst hil; exact Int.le_refl _
    · have hj : (l.filter (upTo at_)).length - 1 < (l.filter (upTo at_)).length := by omega
      have hpp := (List.pairwise_iff_getElem.1 hp i ((l.filter (upTo at_)).length - 1) hi hj (by omega)).2
      have hmm := List.getElem_mem hj
      obtain ⟨q1, q2⟩ := List.mem_filter.1 hmm
      have hc : (l.filter (upTo at_))[(l.filter (upTo at_)).length - 1].c ≠ 0 := by
        simp only [upTo, Bool.and_eq_true, bne_iff_ne] at q2; exact q2.1
      have h1 := hpp hc
      have h2 := (rec_parts h q1).2.2 hc
      omega
/-- What is read is what the deals tell. -/
theorem Whole.read {prim : Int → ByteArray} {i : Nat} {g : GhostM} {wo : WoM} (h : Whole prim i g wo) {key : ByteArray} {at_ : Int} (hf : inB (look wo.rows key).ls 1 at_ = false) :
    readA (look wo.rows key) at_ = ⟨0, decide (0 < (bestD key at_ i g.ds).cm), (lookW (bestD key at_ i g.ds).ws key).getD emptyS, 0, 0⟩ := by
  rw [readA_free hf]
  have hrec := look_recs h.good.rows key
  -- a deal that tells has its record here
  have hd : ∀ d ∈ g.ds, ∀ v, ⟨key, v⟩ ∈ d.ws → d.cm ≤ at_ → (⟨d.st, d.cm, v⟩ : RecM) ∈ (look wo.rows key).recs := by
    intro d hd v hv hc
    rcases h.inv.rows.dl d hd ⟨key, v⟩ hv with h' | ⟨h1, _⟩
    · exact h'
    · exfalso
      have h1 : (look wo.rows key).ls = d.st := h1
      have a1 := h.inv.rows.d1 d hd
      have a2 := (h.inv.dt d hd).1
      rw [h1] at hf
      rw [inB_true.2 ⟨a1, by omega⟩] at hf
      cases hf
  obtain ⟨s1, s2, s3⟩ := fold_spec key at_ i g.ds default
  have s2 : (0 : Int) ≤ (bestD key at_ i g.ds).cm := s2
  have s3 : ∀ d ∈ g.ds, tellsOf key at_ i d = true → d.cm ≤ (bestD key at_ i g.ds).cm := s3
  have s1 : bestD key at_ i g.ds = default ∨ (bestD key at_ i g.ds ∈ g.ds ∧ tellsOf key at_ i (bestD key at_ i g.ds) = true ∧ (0 : Int) < (bestD key at_ i g.ds).cm) := s1
  obtain ⟨b, hb⟩ : ∃ b, b = bestD key at_ i g.ds := ⟨_, rfl⟩
  rw [← hb] at s1 s2 s3 ⊢
  rcases best_spec hrec at_ with ⟨e, hno⟩ | ⟨hm, hu, hmax⟩
  · -- nothing is read
    rw [e]
    have : b = default := by
      rcases s1 with s1 | ⟨b1, b2, b3⟩
      · exact s1
      · exfalso
        simp only [tellsOf, Bool.and_eq_true, decide_eq_true_eq] at b2
        obtain ⟨v, hv⟩ := Option.isSome_iff_exists.1 b2.1.1
        have := hno _ (hd b b1 v (lookW_mem hv) b2.2)
        simp only [upTo, Bool.and_eq_false_iff, bne_eq_false_iff_eq, decide_eq_false_iff_not] at this
        have h2 := b2.2
        omega
    rw [this]
    rfl
  · obtain ⟨x, hx⟩ : ∃ x, x = bestOf at_ (look wo.rows key).recs := ⟨_, rfl⟩
    rw [← hx] at hm hu hmax ⊢
    simp only [upTo, Bool.and_eq_true, bne_iff_ne, decide_eq_true_eq] at hu
    obtain ⟨d, hdm, d1, d2, d3⟩ := h.inv.rows.co key x hm hu.1
    have hdt : tellsOf key at_ i d = true := by
      simp only [tellsOf, Bool.and_eq_true, decide_eq_true_eq]
      exact ⟨⟨lookW_some d3, h.acts d hdm⟩, by omega⟩
    have hle := s3 d hdm hdt
    have hx0 := (rec_parts hrec hm).2.2 hu.1
    have hx1 := (rec_parts hrec hm).1
    rcases s1 with s1 | ⟨b1, b2, _⟩
    · rw [s1] at hle
      have hle : d.cm ≤ 0 := hle
      omega
    · simp only [tellsOf, Bool.and_eq_true, decide_eq_true_eq] at b2
      obtain ⟨v, hv⟩ := Option.isSome_iff_exists.1 b2.1.1
      have hbr := hd b b1 v (lookW_mem hv) b2.2
      have hub : upTo at_ (⟨b.st, b.cm, v⟩ : RecM) = true := by
        simp only [upTo, Bool.and_eq_true, bne_iff_ne, decide_eq_true_eq]
        exact ⟨by omega, b2.2⟩
      have hbx : b.cm ≤ x.c := hmax _ hbr hub
      have ec : b.cm = x.c := by omega
      have es : b.st = x.s := by
        by_cases es : b.st = x.s
        · exact es
        · exfalso
          have hb0 : b.st < b.cm := (h.inv.dt b b1).1
          rcases rec_apart hrec hbr hm (show b.cm ≠ 0 by omega) hu.1 es with h' | h'
          · have h' : b.cm ≤ x.s := h'
            omega
          · have h' : x.c ≤ b.st := h'
            omega
      have e1 := rec_one hrec hbr hm es
      have ev : v = x.v := congrArg RecM.v e1
      rw [hv, ec, ev]
      rfl
/-- The deals only grow. -/
theorem ghost_more (l : List ActM) (x : List AnsM) (k : Nat) : ∀ m, k ≤ m → ∃ more, (ghostL l x m).ds = (ghostL l x k).ds ++ more ∧ ∀ d ∈ more, k ≤ d.act
  | 0, h => by
    obtain rfl : k = 0 := by omega
    exact ⟨[], by simp, fun _ h => by cases h⟩
  | m + 1, h => by
    by_cases e : k = m + 1
    · subst e; exact ⟨[], by simp, fun _ h => by cases h⟩
    · obtain ⟨more, h1, h2⟩ := ghost_more l x k m (by omega)
      have hstep : ∃ more', (ghostL l x (m + 1)).ds = (ghostL l x m).ds ++ more' ∧ ∀ d ∈ more', d.act = m := by
        show ∃ more', (ghostOf m (ghostL l x m) (l.getD m default) (x.getD m default)).ds = _ ∧ _
        simp only [ghostOf]
        split
        · exact ⟨_, rfl, fun d hd => by rw [List.mem_singleton.1 hd]⟩
        · exact ⟨[], by simp, fun _ h => by cases h⟩
      obtain ⟨more', h3, h4⟩ := hstep
      refine ⟨more ++ more', by rw [h3, h1, List.append_assoc], fun d hd => ?_⟩
      rcases List.mem_append.1 hd with hd | hd
      · exact h2 d hd
      · rw [h4 d hd]; omega
theorem ghost_acts (l : List ActM) (x : List AnsM) : ∀ m, (∀ d ∈ (ghostL l x m).ds, d.act < m) ∧ (ghostL l x m).ds.Pairwise (fun d e => d.act < e.act)
  | 0 => ⟨fun _ h => (by cases h), List.Pairwise.nil⟩
  | m + 1 => by
    obtain ⟨h1, h2⟩ := ghost_acts l x m
    show (∀ d ∈ (ghostOf m (ghostL l x m) (l.getD m default) (x.getD m default)).ds, d.act < m + 1) ∧ _
    show _ ∧ (ghostOf m (ghostL l x m) (l.getD m default) (x.getD m default)).ds.Pairwise _
    simp only [ghostOf]
    split
    · refine ⟨fun d hd => ?_, List.pairwise_append.2 ⟨h2, List.pairwise_singleton _ _, fun a ha b hb => ?_⟩⟩
      · rcases List.mem_append.1 hd with hd | hd
        · have := h1 d hd; omega
        · rw [List.mem_singleton.1 hd]; exact Nat.lt_succ_self m
      · rw [List.mem_singleton.1 hb]; exact h1 a ha
    · exact ⟨fun d hd => by have := h1 d hd; omega, h2⟩
/-- The deals behind a whole script tell of an act ahead of them what those did that were there. -/
theorem best_then (l : List ActM) (x : List AnsM) {k m : Nat} (h : k ≤ m) (key : ByteArray) (at_ : Int) : bestD key at_ k (ghostL l x m).ds = bestD key at_ k (ghostL l x k).ds := by
  obtain ⟨more, h1, h2⟩ := ghost_more l x k m h
  unfold bestD
  rw [h1, List.foldl_append]
  refine fold_skip key at_ k more _ fun d hd => ?_
  have := h2 d hd
  simp only [tellsOf, Bool.and_eq_false_iff, decide_eq_false_iff_not]
  exact .inl (.inr (by omega))
/-- What a Get must answer, as the acts and answers tell. -/
def wantM (l : List ActM) (x : List AnsM) (k : Nat) : ByteArray × Bool :=
  let t := (ghostL l x k).ts.getD (l.getD k default).c.toNat default
  let b := bestD (l.getD k default).key t.st k (ghostL l x l.length).ds
  if (lookW t.ws (l.getD k default).key).isSome then ((lookW t.ws (l.getD k default).key).getD emptyS, true) else ((lookW b.ws (l.getD k default).key).getD emptyS, decide (0 < b.cm))
/-- TopSnapshot, in these words. -/
theorem snapshot {l : List ActM} (hl : l.length ≤ 400) (hf : ∀ a ∈ l, ActFit a) {k : Nat} (hk : k < l.length) (h2 : (l.getD k default).kind = 2) (h0 : ((runAns (startW 4) l).getD k default).code = 0) :
    (((runAns (startW 4) l).getD k default).val, ((runAns (startW 4) l).getD k default).is) = wantM l (runAns (startW 4) l) k := by
  obtain ⟨⟨prim, hw⟩, _, h4⟩ := whole_at hl hf k (by omega)
  have hm : l.getD k default ∈ l := getD_mem hk
  have hfit := hf _ hm
  have hx := ans_at hl hf hk
  obtain ⟨a, ha⟩ : ∃ a, a = l.getD k default := ⟨_, rfl⟩
  unfold wantM
  rw [hx] at h0 ⊢
  rw [← ha] at h0 h2 hfit ⊢
  have hC : a.c.toNat < (woAt l k).cls.length := by rw [h4]; have := hfit.c0; have := hfit.c4; omega
  obtain ⟨c, hc⟩ : ∃ c, (woAt l k).cls[a.c.toNat]? = some c := ⟨_, List.getElem?_eq_getElem hC⟩
  have hcd : (woAt l k).cls.getD a.c.toNat default = c := by simp [List.getD, hc]
  have e : (doW (woAt l k) a).2.code = (getA (woAt l k) c a.key).code ∧ (doW (woAt l k) a).2.val = (getA (woAt l k) c a.key).val ∧ (doW (woAt l k) a).2.is = (getA (woAt l k) c a.key).is := by
    unfold doW performW
    dsimp only
    rw [if_neg (by omega), if_pos h2, hcd]
    exact ⟨rfl, rfl, rfl⟩
  rw [e.1] at h0
  rw [e.2.1, e.2.2]
  have hacc : accessE c a.key = 0 := by
    by_cases hz : accessE c a.key = 0
    · exact hz
    · exfalso
      rw [getA, if_pos hz] at h0
      exact hz h0
  have hph : c.ph = 1 := by
    unfold accessE at hacc
    split at hacc
    · omega
    · rename_i h1; simpa using h1
  have ht := hw.tells _ c hc
  obtain ⟨t1, t2⟩ := ht.op (by omega)
  obtain ⟨t, htd⟩ : ∃ t, t = (ghostL l (runAns (startW 4) l) k).ts.getD a.c.toNat default := ⟨_, rfl⟩
  rw [← htd] at t1 t2 ⊢
  dsimp only
  rw [t1, t2, best_then l (runAns (startW 4) l) (Nat.le_of_lt hk) a.key c.st]
  have hinc : Inc (wrKeys c.ws) := (hw.good.cl hc).ws.inc
  rw [lookW_hasK hinc]
  have hga : getA (woAt l k) c a.key = if hasK (wrKeys c.ws) a.key then ⟨0, true, (wrAt c.ws a.key).v, 0, 0⟩ else if hasK (rowKeys (woAt l k).rows) a.key then readA (rowAt (woAt l k).rows a.key) c.st else ansCode 0 := by rw [getA, if_neg (by simpa using hacc)]
  rw [hga] at h0 ⊢
  by_cases hown : hasK (wrKeys c.ws) a.key = true
  · rw [if_pos hown, if_pos hown]; rfl
  · rw [if_neg hown] at h0 ⊢
    rw [if_neg hown]
    have hrd : (if hasK (rowKeys (woAt l k).rows) a.key then readA (rowAt (woAt l k).rows a.key) c.st else ansCode 0) = readA (look (woAt l k).rows a.key) c.st := by
      unfold look
      by_cases hh : hasK (rowKeys (woAt l k).rows) a.key = true
      · rw [if_pos hh, if_pos hh]
      · rw [if_neg hh, if_neg hh, readA_free (r := freshRow a.key) (show inB (0 : Int) 1 c.st = false from inB_false.2 (.inl (by decide)))]
        rfl
    rw [hrd] at h0 ⊢
    rw [hw.read (readA_code h0)]
    rfl
/-- TopApart, in these words. -/
theorem Whole.apart {prim : Int → ByteArray} {i : Nat} {g : GhostM} {wo : WoM} (h : Whole prim i g wo) {a b : DealM} (ha : a ∈ g.ds) (hb : b ∈ g.ds) (hne : a.act ≠ b.act) {k : ByteArray} (h1 : (lookW a.ws k).isSome = true) (h2 : (lookW b.ws k).isSome = true) : a.cm ≤ b.st ∨ b.cm ≤ a.st := by
  obtain ⟨v, hv⟩ := Option.isSome_iff_exists.1 h1
  obtain ⟨u, hu⟩ := Option.isSome_iff_exists.1 h2
  have hst : a.st ≠ b.st := fun e => hne (by rw [h.inv.rows.d0 a ha b hb e])
  have hrec := look_recs h.good.rows k
  have a1 := h.inv.rows.d1 a ha
  have b1 := h.inv.rows.d1 b hb
  have at_ := (h.inv.dt a ha).1
  have bt := (h.inv.dt b hb).1
  rcases h.inv.rows.dl a ha _ (lookW_mem hv) with ra | ⟨la, _⟩
  · rcases h.inv.rows.dl b hb _ (lookW_mem hu) with rb | ⟨lb, _⟩
    · exact rec_apart hrec ra rb (show a.cm ≠ 0 by omega) (show b.cm ≠ 0 by omega) hst
    · have lb : (look wo.rows k).ls = b.st := lb
      have := ((look_locked h.good.rows (k := k) (by rw [lb]; omega)).2.2 _ ra).2
      rw [lb] at this
      exact .inl this
  · have la : (look wo.rows k).ls = a.st := la
    rcases h.inv.rows.dl b hb _ (lookW_mem hu) with rb | ⟨lb, _⟩
    · have := ((look_locked h.good.rows (k := k) (by rw [la]; omega)).2.2 _ rb).2
      rw [la] at this
      exact .inr this
    · have lb : (look wo.rows k).ls = b.st := lb
      exact absurd (la.symm.trans lb) hst
end Go.Proofs.YtambkjnhfejfaabDoor

namespace Go.Proofs.YtambkjnhfejfaabDoor
open Go.RowKit Go.Maps

theorem law_str : Keyed Tryd.prog 9 := string_keyed Tryd.underlying9
theorem zero_str (w : World) : (zeroValue 9).run Tryd.prog w = .ok (.string ⟨#[]⟩) w := by kernel_rfl
theorem key_str {s : ByteArray} (h : s.size ≤ maxLen) : Go.keyOf Tryd.prog 9 (.string s) = some (.string s.data.toList) := Go.WideMaps.keyOf_string_mk Tryd.underlying9 h
/-- The key of a string. -/
abbrev sk (s : ByteArray) : Lit := .string s.data.toList
theorem sk_inj {a b : ByteArray} (h : sk a = sk b) : a = b := by
  injection h with h
  obtain ⟨a⟩ := a
  obtain ⟨b⟩ := b
  simp only [ByteArray.mk.injEq]
  exact Array.toList_inj.1 h
/-- A datum holds these writes. -/
def MapIs (D : DataW Unit) (ws : List WrM) : Prop := ∀ s : ByteArray, s.size ≤ maxLen → Maps.has D (sk s) = (lookW ws s).isSome ∧ ∀ v, lookW ws s = some v → D.atKey (sk s) (.lit (.string [])) = .lit (.string v.data.toList)
theorem mapIs_nil : MapIs (.map []) [] := fun s _ => ⟨rfl, fun v h => by cases h⟩
theorem lookW_put {ws : List WrM} (h : Inc (wrKeys ws)) (key val k : ByteArray) : lookW (putWs ws key val) k = if k = key then some val else lookW ws k := by
  unfold putWs
  by_cases hk : hasK (wrKeys ws) key = true
  · rw [if_pos hk]
    have hlt : lowIx (wrKeys ws) key < ws.length := by simp only [hasK, Bool.and_eq_true, decide_eq_true_eq, List.length_map] at hk; exact hk.1
    have hkey : (wrAt ws key).k = key := by
      simp only [hasK, Bool.and_eq_true, decide_eq_true_eq] at hk
      have := hk.2
      simpa [List.getD, hlt, wrAt] using this
    have hkeys : wrKeys (ws.set (lowIx (wrKeys ws) key) ⟨(wrAt ws key).k, val⟩) = wrKeys ws := by
      apply List.ext_getElem?
      intro j
      simp only [wrKeys, List.getElem?_map, List.getElem?_set]
      by_cases e : lowIx (wrKeys ws) key = j
      · subst e
        simp [hlt, wrAt, List.getD]
      · simp [e]
    rw [lookW_hasK (by rw [hkeys]; exact h), lookW_hasK h, hkeys]
    by_cases e : k = key
    · subst e
      rw [if_pos hk, if_pos rfl]
      show some ((ws.set (lowIx (wrKeys ws) k) ⟨(wrAt ws k).k, val⟩).getD (lowIx (wrKeys (ws.set (lowIx (wrKeys ws) k) ⟨(wrAt ws k).k, val⟩)) k) default).v = some val
      rw [hkeys]
      simp [List.getD, hlt]
    · rw [if_neg e]
      by_cases hk' : hasK (wrKeys ws) k = true
      · rw [if_pos hk', if_pos hk']
        have hne : lowIx (wrKeys ws) key ≠ lowIx (wrKeys ws) k := by
          intro e'
          have hlt' : lowIx (wrKeys ws) k < ws.length := by simp only [hasK, Bool.and_eq_true, decide_eq_true_eq, List.length_map] at hk'; exact hk'.1
          have h2 : (wrAt ws k).k = k := by
            simp only [hasK, Bool.and_eq_true, decide_eq_true_eq] at hk'
            have := hk'.2
            simpa [List.getD, hlt', wrAt] using this
          unfold wrAt at hkey h2
          rw [e'] at hkey
          exact e (h2.symm.trans hkey)
        show some ((ws.set (lowIx (wrKeys ws) key) ⟨(wrAt ws key).k, val⟩).getD (lowIx (wrKeys (ws.set (lowIx (wrKeys ws) key) ⟨(wrAt ws key).k, val⟩)) k) default).v = some (ws.getD (lowIx (wrKeys ws) k) default).v
        rw [hkeys]
        simp [List.getD, hne]
      · rw [if_neg hk', if_neg hk']
  · have hk' : hasK (wrKeys ws) key = false := by simpa using hk
    rw [if_neg hk]
    have hinc : Inc (wrKeys (ws.take (lowIx (wrKeys ws) key) ++ ⟨key, val⟩ :: ws.drop (lowIx (wrKeys ws) key))) := by
      have e : wrKeys (ws.take (lowIx (wrKeys ws) key) ++ ⟨key, val⟩ :: ws.drop (lowIx (wrKeys ws) key)) = (wrKeys ws).take (lowIx (wrKeys ws) key) ++ key :: (wrKeys ws).drop (lowIx (wrKeys ws) key) := by
        simp only [wrKeys, List.map_append, List.map_cons, List.map_take, List.map_drop]
      rw [e]; exact inc_ins h hk'
    have hmem : ∀ y : WrM, y ∈ ws.take (lowIx (wrKeys ws) key) ++ ⟨key, val⟩ :: ws.drop (lowIx (wrKeys ws) key) ↔ y = ⟨key, val⟩ ∨ y ∈ ws := by
      intro y
      rw [List.mem_append, List.mem_cons]
      conv => rhs; rw [← List.take_append_drop (lowIx (wrKeys ws) key) ws, List.mem_append]
      constructor
      · rintro (h | h | h)
        · exact .inr (.inl h)
        · exact .inl h
        · exact .inr (.inr h)
      · rintro (h | h | h)
        · exact .inr (.inl h)
        · exact .inl h
        · exact .inr (.inr h)
    -- by membership: the keys differ
    have one : ∀ {ws' : List WrM}, Inc (wrKeys ws') → ∀ y : WrM, y ∈ ws' → lookW ws' y.k = some y.v := by
      intro ws' hi y hy
      obtain ⟨v, hv⟩ := Option.isSome_iff_exists.1 (lookW_some hy)
      rw [hv]
      have h2 := lookW_mem hv
      obtain ⟨i, hi1, ei⟩ := List.getElem_of_mem h2
      obtain ⟨j, hj1, ej⟩ := List.getElem_of_mem hy
      have key' : ∀ a b, (ha : a < ws'.length) → (hb : b < ws'.length) → a < b → ws'[a].k ≠ ws'[b].k := by
        intro a b ha hb hab e
        have := List.pairwise_iff_getElem.1 hi a b (by simpa using ha) (by simpa using hb) hab
        have : ltS ws'[a].k ws'[b].k = true := by simpa using this
        rw [e, ltS_irrefl] at this; cases this
      have eij : i = j := by
        rcases Nat.lt_trichotomy i j with hij | hij | hij
        · exact absurd (by rw [ei, ej]) (key' i j hi1 hj1 hij)
        · exact hij
        · exact absurd (by rw [ei, ej]) (key' j i hj1 hi1 hij)
      subst eij
      rw [ei] at ej
      rw [← ej]
    by_cases e : k = key
    · subst e
      rw [if_pos rfl]
      exact one hinc ⟨k, val⟩ ((hmem _).2 (.inl rfl))
    · rw [if_neg e]
      cases hl : lookW ws k with
      | some v => exact one hinc ⟨k, v⟩ ((hmem _).2 (.inr (lookW_mem hl)))
      | none =>
        cases hl' : lookW (ws.take (lowIx (wrKeys ws) key) ++ ⟨key, val⟩ :: ws.drop (lowIx (wrKeys ws) key)) k with
        | none => rfl
        | some v =>
          exfalso
          rcases (hmem _).1 (lookW_mem hl') with h' | h'
          · injection h' with h' _; exact e h'
          · have := lookW_some h'
            rw [show (⟨k, v⟩ : WrM).k = k from rfl, hl] at this
            cases this
theorem MapIs.put {D : DataW Unit} {ws : List WrM} (h : MapIs D ws) (hD : IsMap D) (hi : Inc (wrKeys ws)) (key val : ByteArray) : MapIs (D.put (sk key) (.lit (.string val.data.toList))) (putWs ws key val) := by
  intro s hs
  rw [lookW_put hi]
  by_cases e : s = key
  · subst e
    rw [if_pos rfl]
    refine ⟨has_put_same hD (show WideAt.IsKeyLit (sk s) from trivial) _, fun v hv => ?_⟩
    injection hv with hv
    subst hv
    exact atKey_put_same hD (show WideAt.IsKeyLit (sk s) from trivial) _ _
  · rw [if_neg e]
    have hne : sk s ≠ sk key := fun e' => e (sk_inj e')
    rw [has_put_other hne, atKey_put_other hne]
    exact h s hs
/-- A block that is a map and holds these writes. -/
def MapAt (w : World) (b n : Nat) (ws : List WrM) : Prop := ∃ D : DataW Unit, w.ownsMap Tryd.prog 9 (plainElem Tryd.prog 9) b n D ∧ MapIs D ws
section
variable {w w' : World} {b n : Nat} {ws : List WrM}
theorem MapAt.lt (h : MapAt w b n ws) : b < w.heap.size := by obtain ⟨D, h, _⟩ := h; exact h.lt
theorem MapAt.blk (h : MapAt w b n ws) (hk : w'.heap[b]? = w.heap[b]?) : MapAt w' b n ws := by
  obtain ⟨D, ⟨es, clock, hb, r⟩, hi⟩ := h
  exact ⟨D, ⟨es, clock, hk.trans hb, r⟩, hi⟩
theorem MapAt.upto (h : MapAt w b n ws) (hb : Below w.heap.size w w') : MapAt w' b n ws := h.blk (hb.block b h.lt)
theorem MapAt.obj (h : MapAt w b n ws) : ∃ es clock, w.heap[b]? = some (.map es clock) := by obtain ⟨D, ⟨es, clock, hb, _⟩, _⟩ := h; exact ⟨es, clock, hb⟩
theorem MapAt.mono (h : MapAt w b n ws) {n' : Nat} (hn : n ≤ n') : MapAt w b n' ws := by obtain ⟨D, h, hi⟩ := h; exact ⟨D, h.mono hn, hi⟩
/-- 'v, ok := m[k]'. -/
theorem MapAt.look_ok (h : MapAt w b n ws) {s : ByteArray} (hs : s.size ≤ maxLen) : (Instr.lookup 79 (.map (some b)) (.string s) true).run Tryd.prog w = .ok (.tuple #[.string ((lookW ws s).getD emptyS), .bool (lookW ws s).isSome]) w := by
  obtain ⟨D, hown, hi⟩ := h
  obtain ⟨v, ps, hrun, hv⟩ := hown.look_ok law_str Tryd.underlying79 (zero_str w) (plainElem_string (H := Unit) Tryd.underlying9 (s := ⟨#[]⟩) (Nat.zero_le _)) (key_str hs)
  obtain ⟨c, rfl, hc, _⟩ := plainElem_string_inv Tryd.underlying9 hv
  rw [hrun, (hi s hs).1]
  cases hl : lookW ws s with
  | none =>
    have hh : Maps.has D (sk s) = false := by rw [(hi s hs).1, hl]; rfl
    have h1 : D.atKey (sk s) (.lit (.string [])) = .lit (.string c.data.toList) := congrArg Prod.fst hc
    rw [atKey_of_not_has hh] at h1
    have h2 : sk ⟨#[]⟩ = sk c := by injection h1
    rw [← sk_inj h2]
    rfl
  | some u =>
    have h1 : D.atKey (sk s) (.lit (.string [])) = .lit (.string c.data.toList) := congrArg Prod.fst hc
    rw [(hi s hs).2 u hl] at h1
    have h2 : sk u = sk c := by injection h1
    rw [← sk_inj h2]
    rfl
set_option maxRecDepth 100000 in
/-- 'm[k]'. -/
theorem MapAt.look (h : MapAt w b n ws) {s : ByteArray} (hs : s.size ≤ maxLen) : (Instr.lookup 79 (.map (some b)) (.string s) false).run Tryd.prog w = .ok (.string ((lookW ws s).getD emptyS)) w := by
  obtain ⟨D, hown, hi⟩ := h
  obtain ⟨es, clock, hb, F, hn, hD⟩ := hown
  rcases Maps.fit_look false law_str Tryd.underlying79 (zero_str w) hb F (key_str hs) with ⟨hrun, _, hat⟩ | ⟨e0, y, _, _, hrun, hRv, hat, _⟩
  · rw [← hD] at hat
    have hh := has_false_of_atKey hat
    have hl : lookW ws s = none := by
      have := (hi s hs).1
      rw [show Maps.has D (sk s) = false from hh] at this
      simpa using this.symm
    rw [hl]; exact hrun
  · rw [← hD] at hat
    have hh := has_true_of_atKey hat
    have hl : (lookW ws s).isSome = true := by rw [← (hi s hs).1]; exact hh
    obtain ⟨u, hu⟩ := Option.isSome_iff_exists.1 hl
    obtain ⟨c, hc, hy, _⟩ := plainElem_string_inv Tryd.underlying9 hRv
    have h1 := (hi s hs).2 u hu
    rw [hat, hy] at h1
    have h2 : sk u = sk c := by
      have h3 : (DataW.lit (sk c) : DataW Unit) = .lit (sk u) := h1
      injection h3 with h3
      exact h3.symm
    rw [hu, show (some u).getD emptyS = u from rfl, sk_inj h2]
    simp only [hc] at hrun
    exact hrun
end
theorem key_str_inv {v : Value} {kl : Lit} (h : Go.keyOf Tryd.prog 9 v = some kl) : ∃ s : ByteArray, v = .string s ∧ kl = sk s ∧ s.size ≤ maxLen := by
  have hk := Tryd.underlying9
  cases v <;> simp [Go.keyOf, hk, mapKey] at h
  obtain ⟨h1, rfl⟩ := h
  exact ⟨_, rfl, rfl, h1⟩
/-- The range's step: keys and elements are strings. -/
theorem wpList_next_ss (w : World) {ops : Array Oper} {rest : List Oper} {o : Oper} {a : Act} {Q : Exit → Act → World → Prop}
    (hg : o.guard = none) (it : Operand) (hop : o.op = Op.next it false) (b r n : Nat) (D : DataW Unit) (left : Lit → Bool) (cnt : Nat) (hit : a.eval it = .pointer (some ⟨r, 0, none⟩)) (h : w.ranges Tryd.prog 9 (plainElem Tryd.prog 9) b r n D left cnt)
    (hDone : cnt = 0 → (∀ kl, left kl = false) → wpList Tryd.prog ops Q rest (a.put o.dst (.tuple #[.bool false])) w)
    (hMore : ∀ (x c : ByteArray) (w' : World) (cnt' : Nat), x.size ≤ maxLen → c.size ≤ maxLen → left (sk x) = true → (∀ zd, D.atKey (sk x) zd = .lit (.string c.data.toList)) → w'.ranges Tryd.prog 9 (plainElem Tryd.prog 9) b r n D (fun z => left z && !z.sameKey (sk x)) cnt' → cnt' < cnt →
      w.grownBy w' (some r) → w'.heap.size = w.heap.size → (Instr.entry (.pointer (some ⟨r, 0, none⟩))).run Tryd.prog w' = .ok (.tuple #[.string x, .string c]) w' → wpList Tryd.prog ops Q rest (a.put o.dst (.tuple #[.bool true, .string x, .string c])) w') :
    wpList Tryd.prog ops Q (o :: rest) a w :=
  wpList_next_ranges w hg it hop 9 law_str (plainElem Tryd.prog 9) Value.string Value.string (fun key kl hkey => by obtain ⟨x, rfl, _⟩ := key_str_inv hkey; exact ⟨x, rfl⟩) (fun v y hv => by obtain ⟨c, rfl, _⟩ := plainElem_string_inv Tryd.underlying9 hv; exact ⟨c, rfl⟩)
    b r n D left cnt hit h hDone (fun x c kl y w' cnt' hkey hlk hv hat hrg hlt hgr hsz hen => by
      obtain ⟨x', ex, rfl, hwx⟩ := key_str_inv hkey
      cases ex
      obtain ⟨c', ec, rfl, hwc⟩ := plainElem_string_inv Tryd.underlying9 hv
      cases ec
      exact hMore x c w' cnt' hwx hwc hlk hat hrg hlt hgr hsz hen)
theorem nil_look_ok (w : World) {s : ByteArray} (hs : s.size ≤ maxLen) : (Instr.lookup 79 (.map none) (.string s) true).run Tryd.prog w = .ok (.tuple #[.string emptyS, .bool false]) w :=
  Maps.look_nil true law_str Tryd.underlying79 (zero_str w) (key_str hs)
theorem nil_look (w : World) {s : ByteArray} (hs : s.size ≤ maxLen) : (Instr.lookup 79 (.map none) (.string s) false).run Tryd.prog w = .ok (.string emptyS) w :=
  Maps.look_nil false law_str Tryd.underlying79 (zero_str w) (key_str hs)
end Go.Proofs.YtambkjnhfejfaabDoor

namespace Go.Proofs.YtambkjnhfejfaabDoor
open Go.RowKit Go.Maps

/-- The four cells of a deal, and the map of its writes. -/
structure DealAt (w : World) (b o : Nat) (d : DealM) : Prop where
  s : w.cell? ⟨b, o, none⟩ = some (.int .i64 d.st)
  c : w.cell? ⟨b, o + 1, none⟩ = some (.int .i64 d.cm)
  a : w.cell? ⟨b, o + 2, none⟩ = some (.int .i64 d.act)
  m : ∃ bm n, w.cell? ⟨b, o + 3, none⟩ = some (.map (some bm)) ∧ MapAt w bm n d.ws
abbrev DealsAt (w : World) (A : Option Addr) (ds : List DealM) : Prop := SeqAt (· < w.heap.size) 4 1000 (DealAt w) A ds
theorem DealAt.upto {w w' : World} {b o : Nat} {d : DealM} (h : DealAt w b o d) (hb : Below w.heap.size w w') (hlt : b < w.heap.size) : DealAt w' b o d := by
  obtain ⟨bm, n, h1, h2⟩ := h.m
  have e : ∀ k, w'.cell? ⟨b, k, none⟩ = w.cell? ⟨b, k, none⟩ := fun k => hb.cell (p := ⟨b, k, none⟩) hlt
  exact ⟨(e _).trans h.s, (e _).trans h.c, (e _).trans h.a, ⟨bm, n, (e _).trans h1, h2.upto hb⟩⟩
theorem SeqAt.deals {w w' : World} {A : Option Addr} {ds : List DealM} (h : DealsAt w A ds) (hb : Below w.heap.size w w') : DealsAt w' A ds :=
  SeqAt.mono h (fun _ hp => Nat.lt_of_lt_of_le hp hb.size) fun _ _ _ _ hp hx => hx.upto hb hp
/-- The best deal so far, in its box. -/
structure BestBox (w : World) (g : Nat) (d : DealM) : Prop where
  s : w.cell? ⟨g, 0, none⟩ = some (.int .i64 d.st)
  c : w.cell? ⟨g, 1, none⟩ = some (.int .i64 d.cm)
  a : w.cell? ⟨g, 2, none⟩ = some (.int .i64 d.act)
  m : (w.cell? ⟨g, 3, none⟩ = some (.map none) ∧ d.ws = []) ∨ ∃ bm n, w.cell? ⟨g, 3, none⟩ = some (.map (some bm)) ∧ MapAt w bm n d.ws
  f : ∀ o, w.frozen? ⟨g, o, none⟩ = false
theorem BestBox.upto {w w' : World} {g : Nat} {d : DealM} (h : BestBox w g d) (hb : Below w.heap.size w w') : BestBox w' g d := by
  have hlt : g < w.heap.size := World.block_lt_of_cell? w _ h.s
  have e : ∀ k, w'.cell? ⟨g, k, none⟩ = w.cell? ⟨g, k, none⟩ := fun k => hb.cell (p := ⟨g, k, none⟩) hlt
  refine ⟨(e _).trans h.s, (e _).trans h.c, (e _).trans h.a, ?_, fun o => (hb.frozen (p := ⟨g, o, none⟩) hlt).trans (h.f o)⟩
  rcases h.m with ⟨h1, h2⟩ | ⟨bm, n, h1, h2⟩
  · exact .inl ⟨(e _).trans h1, h2⟩
  · exact .inr ⟨bm, n, (e _).trans h1, h2.upto hb⟩
theorem best_take {ds : List DealM} {k : Nat} (hk : k < ds.length) (key : ByteArray) (at_ : Int) (act : Nat) : bestD key at_ act (ds.take (k + 1)) = bestF key at_ act (bestD key at_ act (ds.take k)) (ds.getD k default) := by
  have e : ds.take (k + 1) = ds.take k ++ [ds.getD k default] := by
    rw [List.take_succ_eq_append_getElem hk]
    simp [List.getD, hk]
  rw [e, bestD_snoc]
theorem below_set4' {w W : World} {B : Nat} (h : Below B w W) {g : Nat} (hg : B ≤ g) (v0 v1 v2 v3 : Value) : Below B w ((((W.setCell ⟨g, 0, none⟩ v0).setCell ⟨g, 1, none⟩ v1).setCell ⟨g, 2, none⟩ v2).setCell ⟨g, 3, none⟩ v3) := (((h.setCell hg _).setCell hg _).setCell hg _).setCell hg _
/-- The best one is another. -/
theorem best_set {wr : World} {g bm nm : Nat} {d B : DealM} (h : BestBox wr g B) (hm : MapAt wr bm nm d.ws) :
    BestBox ((((wr.setCell ⟨g, 0, none⟩ (.int .i64 d.st)).setCell ⟨g, 1, none⟩ (.int .i64 d.cm)).setCell ⟨g, 2, none⟩ (.int .i64 d.act)).setCell ⟨g, 3, none⟩ (.map (some bm))) g d := by
  obtain ⟨v3, x3⟩ : ∃ v3, wr.cell? ⟨g, 3, none⟩ = some v3 := by
    rcases h.m with ⟨h, _⟩ | ⟨_, _, h, _⟩
    · exact ⟨_, h⟩
    · exact ⟨_, h⟩
  have ne : ∀ a b, a ≠ b → (⟨g, a, none⟩ : Addr) ≠ ⟨g, b, none⟩ := fun a b hab e => hab (by injection e)
  obtain ⟨es, clock, hobj⟩ := hm.obj
  have hbg : bm ≠ g := by
    intro e
    subst e
    have := h.s
    simp [World.cell?, hobj] at this
  have hheap : ((((wr.setCell ⟨g, 0, none⟩ (.int .i64 d.st)).setCell ⟨g, 1, none⟩ (.int .i64 d.cm)).setCell ⟨g, 2, none⟩ (.int .i64 d.act)).setCell ⟨g, 3, none⟩ (.map (some bm))).heap[bm]? = wr.heap[bm]? := by
    rw [Below.heap_setCell _ _ _ _ hbg, Below.heap_setCell _ _ _ _ hbg, Below.heap_setCell _ _ _ _ hbg, Below.heap_setCell _ _ _ _ hbg]
  refine ⟨?_, ?_, ?_, .inr ⟨bm, nm, ?_, hm.blk hheap⟩, fun o => ?_⟩
  · rw [World.cell?_setCell_other _ _ _ _ (ne 3 0 (by omega)), World.cell?_setCell_other _ _ _ _ (ne 2 0 (by omega)), World.cell?_setCell_other _ _ _ _ (ne 1 0 (by omega)), World.cell?_setCell_same _ _ _ h.s]
  · rw [World.cell?_setCell_other _ _ _ _ (ne 3 1 (by omega)), World.cell?_setCell_other _ _ _ _ (ne 2 1 (by omega)), World.cell?_setCell_same _ _ _ (by rw [World.cell?_setCell_other _ _ _ _ (ne 0 1 (by omega))]; exact h.c)]
  · rw [World.cell?_setCell_other _ _ _ _ (ne 3 2 (by omega)), World.cell?_setCell_same _ _ _ (by rw [World.cell?_setCell_other _ _ _ _ (ne 1 2 (by omega)), World.cell?_setCell_other _ _ _ _ (ne 0 2 (by omega))]; exact h.a)]
  · rw [World.cell?_setCell_same _ _ _ (by rw [World.cell?_setCell_other _ _ _ _ (ne 2 3 (by omega)), World.cell?_setCell_other _ _ _ _ (ne 1 3 (by omega)), World.cell?_setCell_other _ _ _ _ (ne 0 3 (by omega))]; exact x3)]
  · simp only [World.frozen?_setCell]; exact h.f o
set_option maxRecDepth 100000 in
set_option maxHeartbeats 4000000 in
theorem value_any (A : Option Addr) (c : Nat) (ds : List DealM) (key : ByteArray) (at_ : Int) (act : Nat) (w : World) (hd : DealsAt w A ds) (hk : key.size ≤ maxLen) :
    Calls Tryd.prog 40 #[.slice A ds.length c, .string key, .int .i64 at_, .int .i64 act] w fun e w' => e = .returned (.tuple #[.string ((lookW (bestD key at_ act ds).ws key).getD emptyS), .bool (decide (0 < (bestD key at_ act ds).cm))]) ∧ Below w.heap.size w w' := by
  have HD := Lib.hid hd
  have HKS := Lib.hid hk
  have hlen := hd.1
  clear hd hk
  go_enter Tryd.func40, Tryd.ntmps40
  go_wp2
  go_loopw [18] (fun i wr => ∃ (k : Nat), k ≤ ds.length ∧ i = .int .i64 k ∧ BestBox wr w.heap.size (bestD key at_ act (ds.take k)) ∧ Below w.heap.size w wr) (fun i _ => ds.length - (intOf i).toNat)
  case atStart => exact ⟨0, Nat.zero_le _, rfl, ⟨by simp [bestD]; rfl, by simp [bestD]; rfl, by simp [bestD]; rfl, .inl ⟨by simp, rfl⟩, fun o => by simp⟩, below_alloc (Below.refl _ _) _⟩
  case round =>
    obtain ⟨k, hk, rfl, hbx, hb⟩ := hrel
    have HB := Lib.hid hb
    have HBX := Lib.hid hbx
    obtain ⟨B, hBd⟩ : ∃ B, B = bestD key at_ act (ds.take k) := ⟨_, rfl⟩
    rw [← hBd] at hbx HBX
    by_cases hm : k < ds.length
    · have HNX := Lib.hid (best_take hm key at_ act)
      rw [← hBd] at HNX
      obtain ⟨b, o, rfl, hbb, hdl⟩ := SeqAt.at_ HD.out (getD_some (d := default) hm)
      obtain ⟨d, hdd⟩ : ∃ d, d = ds.getD k default := ⟨_, rfl⟩
      rw [← hdd] at hdl HNX
      have hdl := hdl.upto hb hbb
      obtain ⟨bm, nm, m3, hmap⟩ := hdl.m
      have m0 := hdl.s
      have m1 := hdl.c
      have m2 := hdl.a
      have HMAP := Lib.hid hmap
      have x0 := hbx.s
      have x1 := hbx.c
      have x2 := hbx.a
      have xf := hbx.f
      have f0 := xf 0
      have f1 := xf 1
      have f2 := xf 2
      have f3 := xf 3
      have hgl : w.heap.size < wr.heap.size := World.block_lt_of_cell? wr _ x0
      have hne : wr.heap.size ≠ w.heap.size := by omega
      have hne' : w.heap.size ≠ wr.heap.size := by omega
      obtain ⟨v3, x3⟩ : ∃ v3, wr.cell? ⟨w.heap.size, 3, none⟩ = some v3 := by
        rcases hbx.m with ⟨h, _⟩ | ⟨_, _, h, _⟩
        · exact ⟨_, h⟩
        · exact ⟨_, h⟩
      have hbw : b < wr.heap.size := Nat.lt_of_lt_of_le hbb hb.size
      have hlk : ∀ W, Below wr.heap.size wr W → (Instr.lookup 79 (.map (some bm)) (.string key) true).run Tryd.prog W = .ok (.tuple #[.string ((lookW d.ws key).getD emptyS), .bool (lookW d.ws key).isSome]) W := fun W hW => (hmap.upto hW).look_ok HKS.out
      obtain ⟨W5, hW5⟩ : ∃ W5, W5 = wr.alloc (.cells #[.int .i64 d.st, .int .i64 d.cm, .int .i64 d.act, .map (some bm)] 85) := ⟨_, rfl⟩
      have hlk5 := hlk (wr.alloc (.cells #[.int .i64 d.st, .int .i64 d.cm, .int .i64 d.act, .map (some bm)] 85)) (below_alloc (Below.refl _ _) _)
      have j0 : (0 : Int) ≤ (k : Int) := by omega
      have j1 : (k : Int) < (ds.length : Int) := by omega
      have HF := Lib.hid (show bestF key at_ act B d = if ((lookW d.ws key).isSome && decide ((d.act : Int) < (act : Int)) && decide (d.cm ≤ at_) && decide (B.cm < d.cm)) = true then d else B by
        unfold bestF tellsOf
        have : decide (d.act < act) = decide ((d.act : Int) < (act : Int)) := by simp
        rw [this])
      obtain ⟨th, hth⟩ : ∃ th, th = (lookW d.ws key).isSome := ⟨_, rfl⟩
      obtain ⟨uv, huv⟩ : ∃ uv, uv = (lookW d.ws key).getD emptyS := ⟨_, rfl⟩
      rw [← hth, ← huv] at hlk5
      rw [← hth] at HF
      clear hdl hmap hdd hbx hb hlk hBd hth huv hW5 xf
      cases th with
      | false =>
        have HC := Lib.hid (show bestF key at_ act B d = B by rw [HF.out]; rfl)
        go_wp2
        go_roundw
        case rel => exact ⟨k + 1, by omega, by go_num, by rw [HNX.out, HC.out]; exact HBX.out.upto (below_alloc (Below.refl _ _) _), below_alloc HB.out _⟩
        case measure => simp [intOf]; omega
      | true =>
        by_cases t1 : (d.act : Int) < (act : Int)
        · by_cases t2 : d.cm ≤ at_
          · by_cases t3 : B.cm < d.cm
            · have e1 : decide ((d.act : Int) < (act : Int)) = true := decide_eq_true t1
              have e2 : decide (d.cm ≤ at_) = true := decide_eq_true t2
              have e3 : decide (B.cm < d.cm) = true := decide_eq_true t3
              have HC := Lib.hid (show bestF key at_ act B d = d by rw [HF.out, e1, e2, e3]; rfl)
              go_wp2
              go_roundw
              case rel => exact ⟨k + 1, by omega, by go_num, by rw [HNX.out, HC.out]; exact (best_set HBX.out HMAP.out).upto (below_alloc (Below.refl _ _) _), below_alloc (below_set4' HB.out (Nat.le_refl _) _ _ _ _) _⟩
              case measure => simp [intOf]; omega
            · have e1 : decide ((d.act : Int) < (act : Int)) = true := decide_eq_true t1
              have e2 : decide (d.cm ≤ at_) = true := decide_eq_true t2
              have e3 : decide (B.cm < d.cm) = false := decide_eq_false t3
              have HC := Lib.hid (show bestF key at_ act B d = B by rw [HF.out, e1, e2, e3]; rfl)
              go_wp2
              go_roundw
              case rel => exact ⟨k + 1, by omega, by go_num, by rw [HNX.out, HC.out]; exact HBX.out.upto (below_alloc (Below.refl _ _) _), below_alloc HB.out _⟩
              case measure => simp [intOf]; omega
          · have e1 : decide ((d.act : Int) < (act : Int)) = true := decide_eq_true t1
            have e2 : decide (d.cm ≤ at_) = false := decide_eq_false t2
            have HC := Lib.hid (show bestF key at_ act B d = B by rw [HF.out, e1, e2]; rfl)
            go_wp2
            go_roundw
            case rel => exact ⟨k + 1, by omega, by go_num, by rw [HNX.out, HC.out]; exact HBX.out.upto (below_alloc (Below.refl _ _) _), below_alloc HB.out _⟩
            case measure => simp [intOf]; omega
        · have e1 : decide ((d.act : Int) < (act : Int)) = false := decide_eq_false t1
          have HC := Lib.hid (show bestF key at_ act B d = B by rw [HF.out, e1]; rfl)
          go_wp2
          go_roundw
          case rel => exact ⟨k + 1, by omega, by go_num, by rw [HNX.out, HC.out]; exact HBX.out.upto (below_alloc (Below.refl _ _) _), below_alloc HB.out _⟩
          case measure => simp [intOf]; omega
    · have hke : k = ds.length := by omega
      subst hke
      rw [List.take_length] at hBd
      have x1 := hbx.c
      have HBD := Lib.hid hBd
      have hgt : (0 < B.cm) = (0 < B.cm) := rfl
      rcases hbx.m with ⟨h3, h4⟩ | ⟨bm, n, h3, hmap⟩
      · have hlk := fun W => nil_look W HKS.out
        have HWS := Lib.hid h4
        clear hbx hb hBd h4
        go_wp2
        go_quiet (fail)
        go_wp2
        go_ret2
        exact ⟨by rw [← HBD.out, HWS.out]; rfl, below_drewN HB.out _⟩
      · have hlk := fun q => MapAt.look (w := wr.drewN q) (hmap.blk rfl) HKS.out
        have hlk1 := MapAt.look (w := wr.drew) (hmap.blk rfl) HKS.out
        have hlk2 := hmap.look HKS.out
        clear hbx hb hBd hmap
        go_wp2
        go_quiet (fail)
        go_wp2
        go_ret2
        exact ⟨by rw [← HBD.out]; rfl, below_drewN HB.out _⟩
end Go.Proofs.YtambkjnhfejfaabDoor

namespace Go.Proofs.YtambkjnhfejfaabDoor
open Go.RowKit Go.Maps

section
variable {α : Type} {C : Cells α}
/-- append(v, a): what it leaves, and what it turns: the slice's own block alone. -/
theorem app_one {t e ty : TypeId} {i0 : TypeInfo} {z : Value} {bytes : Nat} (hu : Tryd.prog.underlying t = some (.slice e)) (hi0 : Tryd.prog.info? e = some i0) (hz0 : i0.zero = some z) (hz1 : i0.size = C.sz) (hz2 : i0.bytes = bytes) (hz3 : z.cells.size = C.sz)
    (W : World) (base : Nat) (v : Value) (l0 : List α) (a : α) (hown : C.Owns W base e v l0) (hbd : l0.length ≤ 1000) (hby : bytes ≤ 1000) (hbase : base ≤ W.heap.size) :
    ∃ v' w', (Builtin.append_ #[t, t] ty #[v, .slice (some ⟨W.heap.size, 0, none⟩) 1 1]).run Tryd.prog (W.alloc (.cells (C.cs a).toArray e)) = .ok v' w' ∧ C.Owns w' base e v' (l0 ++ [a]) ∧ (W.alloc (.cells (C.cs a).toArray e)).grownBy w' v.ownBlock := by
  have hown' : C.Owns (W.alloc (.cells (C.cs a).toArray e)) base e v l0 := hown.kept (below_alloc (Below.refl _ _) _)
  have hsrc : ∀ j u, (C.all [a])[j]? = some u → (W.alloc (.cells (C.cs a).toArray e)).cell? ((⟨W.heap.size, 0, none⟩ : Addr).add j) = some u := fun j u hj => Cells.src (one_seq (C := C) W a) j u hj
  have hnb : (l0.length + 1) * bytes ≤ 1001 * 1000 := Nat.mul_le_mul (by omega) hby
  obtain ⟨v', w', h1, h2, h3, _, h5⟩ := run_append_own_at (P := Tryd.prog) (W.alloc (.cells (C.cs a).toArray e)) base t ty e i0 _ C.sz bytes hu hi0 hz0 hz1 hz2 hz3 C.pos v l0.length (C.all l0) hown' ⟨W.heap.size, 0, none⟩ 1 1 (C.all [a])
    (by rw [C.all_length]; rfl) hsrc (C.all_one [a]) (by simp only [maxLen]; omega) (by omega) (by simp; omega)
  refine ⟨v', w', h1, ?_, h3⟩
  unfold Cells.Owns
  rw [List.length_append, C.all_append]
  exact h2
end
/-- The cells of a deal, its map in a block. -/
def dealCells : Cells (DealM × Nat) := ⟨fun d => [.int .i64 d.1.st, .int .i64 d.1.cm, .int .i64 d.1.act, .map (some d.2)], 4, fun _ => rfl, fun a v hv => by
  simp only [List.mem_cons, List.not_mem_nil, or_false] at hv
  rcases hv with rfl | rfl | rfl | rfl <;> rfl, by decide⟩
def trackCells : Cells (TrackM × Nat) := ⟨fun t => [.int .i64 t.1.ph, .int .i64 t.1.st, .int .i64 t.1.cm, .map (some t.2)], 4, fun _ => rfl, fun a v hv => by
  simp only [List.mem_cons, List.not_mem_nil, or_false] at hv
  rcases hv with rfl | rfl | rfl | rfl <;> rfl, by decide⟩
theorem deal_info : (Tryd.prog.info? 85).map (fun i => (i.zero, i.size, i.bytes)) = some (some (.agg #[.int .i64 0, .int .i64 0, .int .i64 0, .map none]), 4, 32) := by kernel_rfl
theorem track_info : (Tryd.prog.info? 81).map (fun i => (i.zero, i.size, i.bytes)) = some (some (.agg #[.int .i64 0, .int .i64 0, .int .i64 0, .map none]), 4, 32) := by kernel_rfl
/-- The tracks of the clients, and the maps of their writes. -/
structure Live (w : World) (gA k : Nat) (ts : List TrackM) (mb : Nat → Option Nat) : Prop where
  p : ∀ C, C < 4 → w.cell? ⟨gA, C * 4, none⟩ = some (.int .i64 (ts.getD C default).ph)
  s : ∀ C, C < 4 → w.cell? ⟨gA, C * 4 + 1, none⟩ = some (.int .i64 (ts.getD C default).st)
  c : ∀ C, C < 4 → w.cell? ⟨gA, C * 4 + 2, none⟩ = some (.int .i64 (ts.getD C default).cm)
  m : ∀ C, C < 4 → w.cell? ⟨gA, C * 4 + 3, none⟩ = some (.map (mb C))
  f : ∀ o, w.frozen? ⟨gA, o, none⟩ = false
  no : ∀ C, C < 4 → mb C = none → (ts.getD C default).ws = [] ∧ (ts.getD C default).ph = 0
  yes : ∀ C b, C < 4 → mb C = some b → MapAt w b k (ts.getD C default).ws
  ne : ∀ C C' b, C < 4 → C' < 4 → C ≠ C' → mb C = some b → mb C' ≠ some b
/-- Maps that no longer turn. -/
structure Cold (w : World) (mb : Nat → Option Nat) (ds : List (DealM × Nat)) (sn : List (TrackM × Nat)) : Prop where
  d : ∀ x ∈ ds, (∃ n, MapAt w x.2 n x.1.ws) ∧ ∀ C, C < 4 → mb C ≠ some x.2
  s : ∀ x ∈ sn, (∃ n, MapAt w x.2 n x.1.ws) ∧ ∀ C, C < 4 → mb C ≠ some x.2
/-- Neither a map nor the tracks have turned. -/
def Still (w w' : World) (gA : Nat) : Prop := ∀ b, b < w.heap.size → (b = gA ∨ ∃ es clock, w.heap[b]? = some (.map es clock)) → w'.heap[b]? = w.heap[b]?
section
variable {w w' w'' : World} {gA k : Nat} {ts : List TrackM} {mb : Nat → Option Nat} {ds : List (DealM × Nat)} {sn : List (TrackM × Nat)}
theorem Still.below (hb : Below w.heap.size w w') : Still w w' gA := fun b hlt _ => hb.block b hlt
theorem Still.grown {row : Option Nat} (h : w.grownBy w' row) (hr : ∀ g, row = some g → g ≠ gA ∧ ∃ cur e fr, w.heap[g]? = some (.cells cur e fr)) : Still w w' gA := by
  intro b hlt hb
  refine h.block b hlt fun e => ?_
  obtain ⟨h1, cur, e', fr, h2⟩ := hr b e.symm
  rcases hb with rfl | ⟨es, clock, hb⟩
  · exact h1 rfl
  · rw [h2] at hb; cases hb
theorem Live.still (h : Live w gA k ts mb) (hs : Still w w' gA) : Live w' gA k ts mb := by
  have hlt : gA < w.heap.size := World.block_lt_of_cell? w _ (h.p 0 (by omega))
  have hblk : w'.heap[gA]? = w.heap[gA]? := hs gA hlt (.inl rfl)
  have e : ∀ o, w'.cell? ⟨gA, o, none⟩ = w.cell? ⟨gA, o, none⟩ := fun o => World.cell?_of_block (w := w) (a := ⟨gA, o, none⟩) hblk
  refine ⟨fun C hC => (e _).trans (h.p C hC), fun C hC => (e _).trans (h.s C hC), fun C hC => (e _).trans (h.c C hC), fun C hC => (e _).trans (h.m C hC), fun o => ?_, h.no, fun C b hC hb => ?_, h.ne⟩
  · have := h.f o
    unfold World.frozen? at this ⊢
    rw [show w'.heap[(⟨gA, o, none⟩ : Addr).block]? = w.heap[(⟨gA, o, none⟩ : Addr).block]? from hblk]
    exact this
  · have hm := h.yes C b hC hb
    exact hm.blk (hs b hm.lt (.inr hm.obj))
theorem Cold.still (h : Cold w mb ds sn) (hs : Still w w' gA) : Cold w' mb ds sn := by
  refine ⟨fun x hx => ?_, fun x hx => ?_⟩
  · obtain ⟨⟨n, hm⟩, h2⟩ := h.d x hx
    exact ⟨⟨n, hm.blk (hs _ hm.lt (.inr hm.obj))⟩, h2⟩
  · obtain ⟨⟨n, hm⟩, h2⟩ := h.s x hx
    exact ⟨⟨n, hm.blk (hs _ hm.lt (.inr hm.obj))⟩, h2⟩
theorem Live.mono (h : Live w gA k ts mb) {k' : Nat} (hk : k ≤ k') : Live w gA k' ts mb := ⟨h.p, h.s, h.c, h.m, h.f, h.no, fun C b hC hb => (h.yes C b hC hb).mono hk, h.ne⟩
theorem Live.lt (h : Live w gA k ts mb) : gA < w.heap.size := World.block_lt_of_cell? w _ (h.p 0 (by omega))
/-- A slice's own block is none of those. -/
theorem own_block {α : Type} {C : Cells α} {base : Nat} {e : TypeId} {v : Value} {l : List α} (h : C.Owns w base e v l) (hb : gA < base) : ∀ g, v.ownBlock = some g → g ≠ gA ∧ ∃ cur e fr, w.heap[g]? = some (.cells cur e fr) := by
  intro g hg
  rcases h.2 with ⟨hv, _⟩ | ⟨g', cap, cur, hv, hb', hh, _⟩
  · rw [hv] at hg; cases hg
  · rw [hv] at hg
    have : g' = g := by simpa [Value.ownBlock] using hg
    subst this
    exact ⟨by omega, cur, e, (0, 0), hh⟩
end
end Go.Proofs.YtambkjnhfejfaabDoor

namespace Go.Proofs.YtambkjnhfejfaabDoor
open Go.RowKit Go.Maps

section
variable {w w' : World} {gA k C : Nat} {ts : List TrackM} {mb mb' : Nat → Option Nat} {T t' : TrackM} {ds : List (DealM × Nat)} {sn : List (TrackM × Nat)}
theorem Live.set4 (h : Live w gA k ts mb) (hC : C < 4) (hl : ts.length = 4) {k' : Nat} (hk : k ≤ k') (hcells : ∀ C' j, C' < 4 → j < 4 → C' ≠ C → w'.cell? ⟨gA, C' * 4 + j, none⟩ = w.cell? ⟨gA, C' * 4 + j, none⟩)
    (h0 : w'.cell? ⟨gA, C * 4, none⟩ = some (.int .i64 t'.ph)) (h1 : w'.cell? ⟨gA, C * 4 + 1, none⟩ = some (.int .i64 t'.st)) (h2 : w'.cell? ⟨gA, C * 4 + 2, none⟩ = some (.int .i64 t'.cm)) (h3 : w'.cell? ⟨gA, C * 4 + 3, none⟩ = some (.map (mb' C)))
    (hf : ∀ o, w'.frozen? ⟨gA, o, none⟩ = false) (hmb : ∀ j, j ≠ C → mb' j = mb j) (hmaps : ∀ C' b, C' < 4 → C' ≠ C → mb C' = some b → w'.heap[b]? = w.heap[b]?) (hno : mb' C = none → t'.ws = [] ∧ t'.ph = 0) (hyes : ∀ b, mb' C = some b → MapAt w' b k' t'.ws)
    (hne : ∀ C' b, C' < 4 → C' ≠ C → mb' C = some b → mb C' ≠ some b) : Live w' gA k' (ts.set C t') mb' := by
  have hgs : (ts.set C t').getD C default = t' := by simp [List.getD, hl, hC]
  have hgo : ∀ j, j ≠ C → (ts.set C t').getD j default = ts.getD j default := fun j hj => by simp [List.getD, Ne.symm hj]
  refine ⟨fun j hj => ?_, fun j hj => ?_, fun j hj => ?_, fun j hj => ?_, hf, fun j hj hn => ?_, fun j b hj hb => ?_, fun j j' b hj hj' hjj hb => ?_⟩
  · by_cases e : j = C
    · subst e; rw [hgs]; exact h0
    · rw [hgo j e]; exact (hcells j 0 hj (by omega) e).trans (h.p j hj)
  · by_cases e : j = C
    · subst e; rw [hgs]; exact h1
    · rw [hgo j e]; exact (hcells j 1 hj (by omega) e).trans (h.s j hj)
  · by_cases e : j = C
    · subst e; rw [hgs]; exact h2
    · rw [hgo j e]; exact (hcells j 2 hj (by omega) e).trans (h.c j hj)
  · by_cases e : j = C
    · subst e; exact h3
    · rw [hmb j e]; exact (hcells j 3 hj (by omega) e).trans (h.m j hj)
  · by_cases e : j = C
    · subst e; rw [hgs]; exact hno hn
    · rw [hgo j e]; rw [hmb j e] at hn; exact h.no j hj hn
  · by_cases e : j = C
    · subst e; rw [hgs]; exact hyes b hb
    · rw [hgo j e]
      rw [hmb j e] at hb
      exact ((h.yes j b hj hb).blk (hmaps j b hj e hb)).mono hk
  · by_cases e : j = C
    · subst e
      rw [hmb j' (Ne.symm hjj)]
      exact hne j' b hj' (Ne.symm hjj) hb
    · rw [hmb j e] at hb
      by_cases e' : j' = C
      · subst e'
        intro hb'
        exact hne j b hj e hb' hb
      · rw [hmb j' e']; exact h.ne j j' b hj hj' hjj hb
/-- A store into the tracks. -/
theorem store_heap (gA o : Nat) (u : Value) (b : Nat) (h : b ≠ gA) : (w.setCell ⟨gA, o, none⟩ u).heap[b]? = w.heap[b]? := Below.heap_setCell _ _ _ _ h
theorem Live.ne_map (h : Live w gA k ts mb) {b n : Nat} {ws : List WrM} (hm : MapAt w b n ws) : b ≠ gA := by
  intro e
  subst e
  obtain ⟨es, clock, hobj⟩ := hm.obj
  have := h.p 0 (by omega)
  simp [World.cell?, hobj] at this
theorem map_ne_cell {b n g o : Nat} {ws : List WrM} {v : Value} (h : MapAt w b n ws) (hc : w.cell? ⟨g, o, none⟩ = some v) : b ≠ g := by
  intro e
  subst e
  obtain ⟨es, clock, hobj⟩ := h.obj
  simp [World.cell?, hobj] at hc
theorem fr_block {b : Nat} (h : w'.heap[b]? = w.heap[b]?) (o : Nat) : w'.frozen? ⟨b, o, none⟩ = w.frozen? ⟨b, o, none⟩ := by
  unfold World.frozen?
  rw [show w'.heap[(⟨b, o, none⟩ : Addr).block]? = w.heap[(⟨b, o, none⟩ : Addr).block]? from h]
theorem cell_but {b bk : Nat} (hg : w.grownBy w' (some b)) (o : Nat) (hne : b ≠ bk) (hlt : bk < w.heap.size) : w'.cell? ⟨bk, o, none⟩ = w.cell? ⟨bk, o, none⟩ :=
  World.cell?_of_block (w := w) (a := ⟨bk, o, none⟩) (hg.block bk hlt (fun e => hne (by injection e with e; exact e.symm)))
/-- The phase alone is another. -/
theorem Live.phase (h : Live w gA k ts mb) (hC : C < 4) (hl : ts.length = 4) (hT : T = ts.getD C default) (p : Int) (hz : mb C = none → p = 0) : Live (w.setCell ⟨gA, C * 4, none⟩ (.int .i64 p)) gA (k + 1) (ts.set C { T with ph := p }) mb := by
  have ne : ∀ a b, a ≠ b → (⟨gA, a, none⟩ : Addr) ≠ ⟨gA, b, none⟩ := fun a b hab e => hab (by injection e)
  subst hT
  refine h.set4 hC hl (Nat.le_succ k) (fun C' j hC' hj hne => World.cell?_setCell_other _ _ _ _ (ne _ _ (by omega))) (World.cell?_setCell_same _ _ _ (h.p C hC)) ((World.cell?_setCell_other _ _ _ _ (ne _ _ (by omega))).trans (h.s C hC)) ((World.cell?_setCell_other _ _ _ _ (ne _ _ (by omega))).trans (h.c C hC)) ((World.cell?_setCell_other _ _ _ _ (ne _ _ (by omega))).trans (h.m C hC))
    (fun o => by rw [World.frozen?_setCell]; exact h.f o) (fun _ _ => rfl) (fun C' b hC' _ hb => store_heap gA _ _ b (h.ne_map (h.yes C' b hC' hb))) (fun hn => ⟨(h.no C hC hn).1, hz hn⟩) (fun b hb => ?_) (fun C' b hC' hne hb => h.ne C C' b hC hC' (Ne.symm hne) hb)
  exact ((h.yes C b hC hb).blk (store_heap gA _ _ b (h.ne_map (h.yes C b hC hb)))).mono (Nat.le_succ k)
/-- The Commit, too. -/
theorem Live.commit (h : Live w gA k ts mb) (hC : C < 4) (hl : ts.length = 4) (hT : T = ts.getD C default) (m : Int) : Live (w.setCell ⟨gA, C * 4 + 2, none⟩ (.int .i64 m)) gA k (ts.set C { T with cm := m }) mb := by
  have ne : ∀ a b, a ≠ b → (⟨gA, a, none⟩ : Addr) ≠ ⟨gA, b, none⟩ := fun a b hab e => hab (by injection e)
  subst hT
  refine h.set4 hC hl (Nat.le_refl k) (fun C' j hC' hj hne => World.cell?_setCell_other _ _ _ _ (ne _ _ (by omega))) ((World.cell?_setCell_other _ _ _ _ (ne _ _ (by omega))).trans (h.p C hC)) ((World.cell?_setCell_other _ _ _ _ (ne _ _ (by omega))).trans (h.s C hC)) (World.cell?_setCell_same _ _ _ (h.c C hC)) ((World.cell?_setCell_other _ _ _ _ (ne _ _ (by omega))).trans (h.m C hC))
    (fun o => by rw [World.frozen?_setCell]; exact h.f o) (fun _ _ => rfl) (fun C' b hC' _ hb => store_heap gA _ _ b (h.ne_map (h.yes C' b hC' hb))) (fun hn => h.no C hC hn) (fun b hb => ?_) (fun C' b hC' hne hb => h.ne C C' b hC hC' (Ne.symm hne) hb)
  exact (h.yes C b hC hb).blk (store_heap gA _ _ b (h.ne_map (h.yes C b hC hb)))
theorem Cold.store (h : Cold w mb ds sn) (hl : Live w gA k ts mb) (o : Nat) (u : Value) : Cold (w.setCell ⟨gA, o, none⟩ u) mb ds sn := by
  refine ⟨fun x hx => ?_, fun x hx => ?_⟩
  · obtain ⟨⟨n, hm⟩, h2⟩ := h.d x hx
    exact ⟨⟨n, hm.blk (store_heap gA _ _ _ (hl.ne_map hm))⟩, h2⟩
  · obtain ⟨⟨n, hm⟩, h2⟩ := h.s x hx
    exact ⟨⟨n, hm.blk (store_heap gA _ _ _ (hl.ne_map hm))⟩, h2⟩
theorem owns_store {α : Type} {K : Cells α} {e : TypeId} {v : Value} {l : List α} (h : K.Owns w (gA + 1) e v l) (o : Nat) (u : Value) : K.Owns (w.setCell ⟨gA, o, none⟩ u) (gA + 1) e v l := by
  rcases h.2 with h0 | ⟨g, cap, cur, hv, hb, hh, r⟩
  · exact ⟨h.1, .inl h0⟩
  · exact ⟨h.1, .inr ⟨g, cap, cur, hv, hb, (store_heap gA o u g (by omega)).trans hh, r⟩⟩
/-- A track begins anew: a map of its own. -/
theorem Live.begin (h : Live w gA k ts mb) (hC : C < 4) (hl : ts.length = 4) (p st : Int) : Live (((((((w.setCell ⟨gA, C * 4, none⟩ (.int .i64 0)).setCell ⟨gA, C * 4 + 1, none⟩ (.int .i64 st)).setCell ⟨gA, C * 4 + 2, none⟩ (.int .i64 0)).setCell ⟨gA, C * 4 + 3, none⟩ (.map (some w.heap.size)))).setCell ⟨gA, C * 4, none⟩ (.int .i64 p)).alloc (.map #[] 0)) gA (k + 1) (ts.set C ⟨p, st, 0, []⟩) (fun j => if j = C then some w.heap.size else mb j) := by
  have ne : ∀ a b, a ≠ b → (⟨gA, a, none⟩ : Addr) ≠ ⟨gA, b, none⟩ := fun a b hab e => hab (by injection e)
  have hgl := h.lt
  obtain ⟨V, hV⟩ : ∃ V, V = ((((w.setCell ⟨gA, C * 4, none⟩ (.int .i64 0)).setCell ⟨gA, C * 4 + 1, none⟩ (.int .i64 st)).setCell ⟨gA, C * 4 + 2, none⟩ (.int .i64 0)).setCell ⟨gA, C * 4 + 3, none⟩ (.map (some w.heap.size))).setCell ⟨gA, C * 4, none⟩ (.int .i64 p) := ⟨_, rfl⟩
  have hsz : V.heap.size = w.heap.size := by rw [hV]; simp [World.setCell]
  rw [← hV]
  have hb : Below V.heap.size V (V.alloc (.map #[] 0)) := below_alloc (Below.refl _ _) _
  have hcell : ∀ o, (V.alloc (.map #[] 0)).cell? ⟨gA, o, none⟩ = V.cell? ⟨gA, o, none⟩ := fun o => hb.cell (p := ⟨gA, o, none⟩) (by show gA < _; omega)
  have hother : ∀ b, b ≠ gA → b < w.heap.size → (V.alloc (.map #[] 0)).heap[b]? = w.heap[b]? := by
    intro b hbg hlt
    rw [hb.block b (by omega), hV, store_heap gA _ _ b hbg, store_heap gA _ _ b hbg, store_heap gA _ _ b hbg, store_heap gA _ _ b hbg, store_heap gA _ _ b hbg]
  refine h.set4 hC hl (Nat.le_succ k) (fun C' j hC' hj hne => ?_) ?_ ?_ ?_ ?_ (fun o => ?_) (fun j hj => if_neg hj) (fun C' b hC' _ hb' => hother b (h.ne_map (h.yes C' b hC' hb')) (h.yes C' b hC' hb').lt) (fun hn => ?_) (fun b hb' => ?_) (fun C' b hC' hne hb' => ?_)
  · rw [hcell, hV, World.cell?_setCell_other _ _ _ _ (ne _ _ (by omega)), World.cell?_setCell_other _ _ _ _ (ne _ _ (by omega)), World.cell?_setCell_other _ _ _ _ (ne _ _ (by omega)), World.cell?_setCell_other _ _ _ _ (ne _ _ (by omega)), World.cell?_setCell_other _ _ _ _ (ne _ _ (by omega))]
  · rw [hcell, hV]
    exact World.cell?_setCell_same _ _ _ (((World.cell?_setCell_other _ _ _ _ (ne _ _ (by omega))).trans (World.cell?_setCell_other _ _ _ _ (ne _ _ (by omega)))).trans ((World.cell?_setCell_other _ _ _ _ (ne _ _ (by omega))).trans (World.cell?_setCell_same _ _ _ (h.p C hC))))
  · rw [hcell, hV, World.cell?_setCell_other _ _ _ _ (ne _ _ (by omega)), World.cell?_setCell_other _ _ _ _ (ne _ _ (by omega)), World.cell?_setCell_other _ _ _ _ (ne _ _ (by omega))]
    exact World.cell?_setCell_same _ _ _ ((World.cell?_setCell_other _ _ _ _ (ne _ _ (by omega))).trans (h.s C hC))
  · rw [hcell, hV, World.cell?_setCell_other _ _ _ _ (ne _ _ (by omega)), World.cell?_setCell_other _ _ _ _ (ne _ _ (by omega))]
    exact World.cell?_setCell_same _ _ _ ((World.cell?_setCell_other _ _ _ _ (ne _ _ (by omega))).trans ((World.cell?_setCell_other _ _ _ _ (ne _ _ (by omega))).trans (h.c C hC)))
  · rw [hcell, hV, World.cell?_setCell_other _ _ _ _ (ne _ _ (by omega)), if_pos rfl]
    exact World.cell?_setCell_same _ _ _ ((World.cell?_setCell_other _ _ _ _ (ne _ _ (by omega))).trans ((World.cell?_setCell_other _ _ _ _ (ne _ _ (by omega))).trans ((World.cell?_setCell_other _ _ _ _ (ne _ _ (by omega))).trans (h.m C hC))))
  · rw [hb.frozen (p := ⟨gA, o, none⟩) (by show gA < _; omega), hV]
    simp only [World.frozen?_setCell]
    exact h.f o
  · rw [if_pos rfl] at hn; cases hn
  · rw [if_pos rfl] at hb'
    injection hb' with hb'
    subst hb'
    have hm := World.ownsMap_made (H := Unit) V Tryd.prog 9 (plainElem Tryd.prog 9)
    rw [hsz] at hm
    exact ⟨_, hm.mono (Nat.zero_le _), mapIs_nil⟩
  · rw [if_pos rfl] at hb'
    injection hb' with hb'
    subst hb'
    intro e
    have := (h.yes C' _ hC' e).lt
    omega
/-- The Commit and the phase. -/
theorem Live.commitPhase (h : Live w gA k ts mb) (hC : C < 4) (hl : ts.length = 4) (hT : T = ts.getD C default) (m p : Int) (hz : mb C = none → p = 0) : Live ((w.setCell ⟨gA, C * 4 + 2, none⟩ (.int .i64 m)).setCell ⟨gA, C * 4, none⟩ (.int .i64 p)) gA (k + 1) (ts.set C { T with cm := m, ph := p }) mb := by
  have h1 := h.commit hC hl hT m
  have h2 := h1.phase (T := { T with cm := m }) hC (by simpa using hl) (by simp [List.getD, hl, hC]) p hz
  rw [List.set_set] at h2
  exact h2
theorem Cold.begin (h : Cold w mb ds sn) (hl : Live w gA k ts mb) (p st : Int) : Cold (((((((w.setCell ⟨gA, C * 4, none⟩ (.int .i64 0)).setCell ⟨gA, C * 4 + 1, none⟩ (.int .i64 st)).setCell ⟨gA, C * 4 + 2, none⟩ (.int .i64 0)).setCell ⟨gA, C * 4 + 3, none⟩ (.map (some w.heap.size)))).setCell ⟨gA, C * 4, none⟩ (.int .i64 p)).alloc (.map #[] 0)) (fun j => if j = C then some w.heap.size else mb j) ds sn := by
  obtain ⟨V, hV⟩ : ∃ V, V = ((((w.setCell ⟨gA, C * 4, none⟩ (.int .i64 0)).setCell ⟨gA, C * 4 + 1, none⟩ (.int .i64 st)).setCell ⟨gA, C * 4 + 2, none⟩ (.int .i64 0)).setCell ⟨gA, C * 4 + 3, none⟩ (.map (some w.heap.size))).setCell ⟨gA, C * 4, none⟩ (.int .i64 p) := ⟨_, rfl⟩
  have hsz : V.heap.size = w.heap.size := by rw [hV]; simp [World.setCell]
  rw [← hV]
  have hb : Below V.heap.size V (V.alloc (.map #[] 0)) := below_alloc (Below.refl _ _) _
  have hother : ∀ b, b ≠ gA → b < w.heap.size → (V.alloc (.map #[] 0)).heap[b]? = w.heap[b]? := by
    intro b hbg hlt
    rw [hb.block b (by omega), hV, store_heap gA _ _ b hbg, store_heap gA _ _ b hbg, store_heap gA _ _ b hbg, store_heap gA _ _ b hbg, store_heap gA _ _ b hbg]
  have key : ∀ {b : Nat} {ws : List WrM}, ((∃ n, MapAt w b n ws) ∧ ∀ C, C < 4 → mb C ≠ some b) → ((∃ n, MapAt (V.alloc (.map #[] 0)) b n ws) ∧ ∀ j, j < 4 → (if j = C then some w.heap.size else mb j) ≠ some b) := by
    rintro b ws ⟨⟨n, hm⟩, h2⟩
    refine ⟨⟨n, hm.blk (hother b (hl.ne_map hm) hm.lt)⟩, fun j hj => ?_⟩
    split
    · intro e
      injection e with e
      have := hm.lt
      omega
    · exact h2 j hj
  exact ⟨fun x hx => key (h.d x hx), fun x hx => key (h.s x hx)⟩
theorem owns_begin {α : Type} {K : Cells α} {e : TypeId} {v : Value} {l : List α} (h : K.Owns w (gA + 1) e v l) (p st : Int) : K.Owns (((((((w.setCell ⟨gA, C * 4, none⟩ (.int .i64 0)).setCell ⟨gA, C * 4 + 1, none⟩ (.int .i64 st)).setCell ⟨gA, C * 4 + 2, none⟩ (.int .i64 0)).setCell ⟨gA, C * 4 + 3, none⟩ (.map (some w.heap.size)))).setCell ⟨gA, C * 4, none⟩ (.int .i64 p)).alloc (.map #[] 0)) (gA + 1) e v l :=
  (owns_store (owns_store (owns_store (owns_store (owns_store h _ _) _ _) _ _) _ _) _ _).kept (below_alloc (Below.refl _ _) _)
/-- A write is laid into the track's map. -/
theorem Live.put {bt : Nat} {key val : ByteArray} {D : DataW Unit} (h : Live w gA k ts mb) (hC : C < 4) (hl : ts.length = 4) (hT : T = ts.getD C default) (hmb : mb C = some bt) (hg : w.grownBy w' (some bt)) (hown : w'.ownsMap Tryd.prog 9 (plainElem Tryd.prog 9) bt (k + 1) (D.put (sk key) (.lit (.string val.data.toList)))) (hD : MapIs D T.ws) (hm : IsMap D) (hi : Inc (wrKeys T.ws)) (p : Int) :
    Live (w'.setCell ⟨gA, C * 4, none⟩ (.int .i64 p)) gA (k + 1) (ts.set C { T with ws := putWs T.ws key val, ph := p }) mb := by
  have ne : ∀ a b, a ≠ b → (⟨gA, a, none⟩ : Addr) ≠ ⟨gA, b, none⟩ := fun a b hab e => hab (by injection e)
  have hbg : bt ≠ gA := h.ne_map (h.yes C bt hC hmb)
  have hcell : ∀ o, w'.cell? ⟨gA, o, none⟩ = w.cell? ⟨gA, o, none⟩ := fun o => World.cell?_of_block (w := w) (a := ⟨gA, o, none⟩) (hg.block gA h.lt (fun e => hbg (by injection e with e; exact e.symm)))
  have hfr : ∀ o, w'.frozen? ⟨gA, o, none⟩ = w.frozen? ⟨gA, o, none⟩ := fun o => by
    unfold World.frozen?
    rw [show w'.heap[(⟨gA, o, none⟩ : Addr).block]? = w.heap[(⟨gA, o, none⟩ : Addr).block]? from hg.block gA h.lt (fun e => hbg (by injection e with e; exact e.symm))]
  subst hT
  refine h.set4 hC hl (Nat.le_succ k) (fun C' j hC' hj hne => (World.cell?_setCell_other _ _ _ _ (ne _ _ (by omega))).trans (hcell _)) (World.cell?_setCell_same _ _ _ ((hcell _).trans (h.p C hC))) ((World.cell?_setCell_other _ _ _ _ (ne _ _ (by omega))).trans ((hcell _).trans (h.s C hC))) ((World.cell?_setCell_other _ _ _ _ (ne _ _ (by omega))).trans ((hcell _).trans (h.c C hC))) ((World.cell?_setCell_other _ _ _ _ (ne _ _ (by omega))).trans ((hcell _).trans (h.m C hC)))
    (fun o => by rw [World.frozen?_setCell, hfr]; exact h.f o) (fun _ _ => rfl) (fun C' b hC' hne hb => ?_) (fun hn => by rw [hmb] at hn; cases hn) (fun b hb => ?_) (fun C' b hC' hne hb => h.ne C C' b hC hC' (Ne.symm hne) hb)
  · have hm' := h.yes C' b hC' hb
    rw [store_heap gA _ _ b (h.ne_map hm')]
    exact hg.block b hm'.lt (fun e => h.ne C C' bt hC hC' (Ne.symm hne) hmb (by rw [hb]; exact e))
  · rw [hmb] at hb
    injection hb with hb
    subst hb
    obtain ⟨es, clock, hb', r⟩ := hown
    exact ⟨_, ⟨es, clock, (store_heap gA _ _ bt hbg).trans hb', r⟩, hD.put hm hi key val⟩
theorem Cold.put {bt : Nat} (h : Cold w mb ds sn) (hl : Live w gA k ts mb) (hC : C < 4) (hmb : mb C = some bt) (hg : w.grownBy w' (some bt)) (o : Nat) (u : Value) : Cold (w'.setCell ⟨gA, o, none⟩ u) mb ds sn := by
  have key : ∀ {b : Nat} {ws : List WrM}, ((∃ n, MapAt w b n ws) ∧ ∀ C, C < 4 → mb C ≠ some b) → ((∃ n, MapAt (w'.setCell ⟨gA, o, none⟩ u) b n ws) ∧ ∀ j, j < 4 → mb j ≠ some b) := by
    rintro b ws ⟨⟨n, hm⟩, h2⟩
    refine ⟨⟨n, hm.blk ?_⟩, h2⟩
    rw [store_heap gA _ _ b (hl.ne_map hm)]
    exact hg.block b hm.lt (fun e => h2 C hC (by rw [hmb]; exact e.symm))
  exact ⟨fun x hx => key (h.d x hx), fun x hx => key (h.s x hx)⟩
theorem owns_map {α : Type} {K : Cells α} {base bt : Nat} {e : TypeId} {v : Value} {l : List α} (h : K.Owns w base e v l) (hm : ∃ es clock, w.heap[bt]? = some (.map es clock)) (hg : w.grownBy w' (some bt)) : K.Owns w' base e v l := by
  rcases h.2 with h0 | ⟨g, cap, cur, hv, hb, hh, r⟩
  · exact ⟨h.1, .inl h0⟩
  · refine ⟨h.1, .inr ⟨g, cap, cur, hv, hb, (hg.block g (Array.getElem?_eq_some_iff.1 hh).1 fun e' => ?_).trans hh, r⟩⟩
    injection e' with e'
    obtain ⟨es, clock, hm⟩ := hm
    rw [← e', hh] at hm
    cases hm
end
end Go.Proofs.YtambkjnhfejfaabDoor

namespace Go.Proofs.YtambkjnhfejfaabDoor
open Go.RowKit Go.Maps

/-- The track of the act's client, ahead of the act. -/
def seenT (l : List ActM) (x : List AnsM) (k : Nat) : TrackM := (ghostL l x k).ts.getD (l.getD k default).c.toNat default
def seenL (l : List ActM) (x : List AnsM) (k : Nat) : List TrackM := (List.range k).map (seenT l x)
theorem seenL_succ (l : List ActM) (x : List AnsM) (k : Nat) : seenL l x (k + 1) = seenL l x k ++ [seenT l x k] := by rw [seenL, seenL, List.range_succ, List.map_append]; rfl
/-- What is asked of a script. -/
structure CommIn (l : List ActM) (x : List AnsM) : Prop where
  len : l.length ≤ 400
  same : x.length = l.length
  c : ∀ k, k < l.length → 0 ≤ (l.getD k default).c ∧ (l.getD k default).c < 4
  ok : ∀ a ∈ l, ActOk a
  put : ∀ k, k < l.length → (l.getD k default).kind = 3 → (x.getD k default).code = 0 → (seenT l x k).ph ≠ 0 ∧ Inc (wrKeys (seenT l x k).ws)
  zero : ∀ k, k < l.length → (seenT l x k).ph = 0 → ¬ ((l.getD k default).kind = 1 ∧ (x.getD k default).code = 0) → (x.getD k default).ph = 0
structure TrackAt (w : World) (b o : Nat) (t : TrackM) : Prop where
  p : w.cell? ⟨b, o, none⟩ = some (.int .i64 t.ph)
  s : w.cell? ⟨b, o + 1, none⟩ = some (.int .i64 t.st)
  c : w.cell? ⟨b, o + 2, none⟩ = some (.int .i64 t.cm)
  m : ∃ bm n, w.cell? ⟨b, o + 3, none⟩ = some (.map (some bm)) ∧ MapAt w bm n t.ws
abbrev TracksAt (w : World) (A : Option Addr) (ts : List TrackM) : Prop := SeqAt (· < w.heap.size) 4 1000 (TrackAt w) A ts
def CommOut (l : List ActM) (x : List AnsM) (w : World) (e : Ending) (w' : World) : Prop :=
  ∃ A1 c1 A2 c2, e = .returned (.tuple #[.slice A1 (ghostL l x l.length).ds.length c1, .slice A2 l.length c2]) ∧ DealsAt w' A1 (ghostL l x l.length).ds ∧ TracksAt w' A2 (seenL l x l.length) ∧ Below w.heap.size w w' ∧ (ghostL l x l.length).ds.length ≤ c1
/-- Where the loop stands. -/
def CommInv (l : List ActM) (x : List AnsM) (gA k : Nat) (ov sv : Value) (w wr : World) : Prop :=
  ∃ mb ds sn, dealCells.Owns wr (gA + 1) 85 ov ds ∧ trackCells.Owns wr (gA + 1) 81 sv sn ∧ ds.map Prod.fst = (ghostL l x k).ds ∧ sn.map Prod.fst = seenL l x k ∧ Live wr gA k (ghostL l x k).ts mb ∧ Cold wr mb ds sn ∧ Below w.heap.size w wr ∧ ∀ C b, C < 4 → mb C = some b → gA ≤ b
theorem live_start (w : World) (Z : Array Value) (hZ : Z = madeCells (Value.agg #[.int .i64 0, .int .i64 0, .int .i64 0, .map none]).cells (4 * 4)) : Live (w.alloc (.cells Z 81)) w.heap.size 0 (List.replicate 4 default) (fun _ => none) := by
  have hcell : ∀ C j, C < 4 → j < 4 → (w.alloc (.cells Z 81)).cell? ⟨w.heap.size, C * 4 + j, none⟩ = ([.int .i64 0, .int .i64 0, .int .i64 0, .map none] : List Value)[j]? := by
    intro C j hC hj
    have e : (C * 4 + j) % 4 = j := by omega
    rw [World.cell?_alloc_new, hZ, made_at _ _ _ (by omega), show (Value.agg #[.int .i64 0, .int .i64 0, .int .i64 0, .map none]).cells.size = 4 from rfl, e]
    match j, hj with
    | 0, _ => rfl
    | 1, _ => rfl
    | 2, _ => rfl
    | 3, _ => rfl
  have hd : ∀ C, C < 4 → (List.replicate 4 (default : TrackM)).getD C default = default := fun C hC => by rw [List.getD, List.getElem?_replicate, if_pos hC]; rfl
  refine ⟨fun C hC => ?_, fun C hC => ?_, fun C hC => ?_, fun C hC => ?_, fun o => by simp, fun C hC _ => ?_, fun C b _ h => (by cases h), fun C C' b _ _ _ h => (by cases h)⟩
  · rw [hd C hC]; exact hcell C 0 hC (by omega)
  · rw [hd C hC]; exact hcell C 1 hC (by omega)
  · rw [hd C hC]; exact hcell C 2 hC (by omega)
  · exact hcell C 3 hC (by omega)
  · rw [hd C hC]; exact ⟨rfl, rfl⟩
theorem owns_other {α : Type} {C : Cells α} {w w' : World} {base : Nat} {e : TypeId} {v : Value} {l : List α} {row : Option Nat} (h : C.Owns w base e v l) (hg : w.grownBy w' row) (hr : ∀ g, row = some g → ∃ cur e' fr, w.heap[g]? = some (.cells cur e' fr) ∧ e' ≠ e) : C.Owns w' base e v l := by
  rcases h.2 with h0 | ⟨g, cap, cur, hv, hb, hh, r⟩
  · exact ⟨h.1, .inl h0⟩
  · refine ⟨h.1, .inr ⟨g, cap, cur, hv, hb, (hg.block g (Array.getElem?_eq_some_iff.1 hh).1 fun e' => ?_).trans hh, r⟩⟩
    obtain ⟨cur', e'', fr, h1, h2⟩ := hr g e'.symm
    rw [hh] at h1
    injection h1 with h1
    injection h1 with _ h1 _
    exact h2 h1.symm
theorem owns_tag {α : Type} {C : Cells α} {w : World} {base : Nat} {e : TypeId} {v : Value} {l : List α} (h : C.Owns w base e v l) : ∀ g, v.ownBlock = some g → base ≤ g ∧ g < w.heap.size ∧ ∃ cur fr, w.heap[g]? = some (.cells cur e fr) := by
  intro g hg
  rcases h.2 with ⟨hv, _⟩ | ⟨g', cap, cur, hv, hb, hh, _⟩
  · rw [hv] at hg; cases hg
  · rw [hv] at hg
    have : g' = g := by simpa [Value.ownBlock] using hg
    subst this
    exact ⟨hb, (Array.getElem?_eq_some_iff.1 hh).1, cur, (0, 0), hh⟩
/-- What stands when the track's copy is laid onto the list. -/
structure CommMid (w wq w8 : World) (k C : Nat) (ts : List TrackM) (mb : Nat → Option Nat) (ds : List (DealM × Nat)) (sn : List (TrackM × Nat)) (ov : Value) (ak : Int) (ay av : ByteArray) (bq : Nat) (T : TrackM) : Prop where
  live : Live w8 w.heap.size k ts mb
  cold : Cold w8 mb ds sn
  own : dealCells.Owns w8 (w.heap.size + 1) 85 ov ds
  bel : Below w.heap.size w w8
  z0 : w8.cell? ⟨wq.heap.size, 0, none⟩ = some (.int .i64 ak)
  z1 : w8.cell? ⟨wq.heap.size, 1, none⟩ = some (.int .i64 C)
  z2 : w8.cell? ⟨wq.heap.size, 2, none⟩ = some (.string ay)
  z3 : w8.cell? ⟨wq.heap.size, 3, none⟩ = some (.string av)
  p3 : w8.cell? ⟨wq.heap.size + 1, 3, none⟩ = some (.map (some bq))
  map : ∃ n, MapAt w8 bq n T.ws
  fresh : ∀ C, C < 4 → mb C ≠ some bq
theorem comm_next {w wq wr w8 : World} {k C : Nat} {ts : List TrackM} {mb : Nat → Option Nat} {ds : List (DealM × Nat)} {sn : List (TrackM × Nat)} {ov sv : Value} {ak : Int} {ay av : ByteArray} {bq nn : Nat} {T : TrackM} {o : Obj} (hq : Live wq w.heap.size k ts mb) (hot : trackCells.Owns wq (w.heap.size + 1) 81 sv sn)
    (hbq : wq.heap.size ≤ bq) (hlt : wq.heap.size + 1 < wr.heap.size) (hcold : Cold wr mb ds sn) (hlive : Live wr w.heap.size k ts mb) (hod : dealCells.Owns wr (w.heap.size + 1) 85 ov ds) (hot1 : trackCells.Owns wr (w.heap.size + 1) 81 sv sn) (hb : Below w.heap.size w wr)
    (z0 : wr.cell? ⟨wq.heap.size, 0, none⟩ = some (.int .i64 ak)) (z1 : wr.cell? ⟨wq.heap.size, 1, none⟩ = some (.int .i64 C)) (z2 : wr.cell? ⟨wq.heap.size, 2, none⟩ = some (.string ay)) (z3 : wr.cell? ⟨wq.heap.size, 3, none⟩ = some (.string av)) (p3 : wr.cell? ⟨wq.heap.size + 1, 3, none⟩ = some (.map (some bq))) (hmap : MapAt wr bq nn T.ws)
    (hg8 : (wr.alloc o).grownBy w8 sv.ownBlock) : CommMid w wq w8 k C ts mb ds (sn ++ [(T, bq)]) ov ak ay av bq T := by
  have hba : Below wr.heap.size wr (wr.alloc o) := below_alloc (Below.refl _ _) _
  have hot2 := hot1.kept hba
  have hst : Still (wr.alloc o) w8 w.heap.size := Still.grown hg8 (own_block hot2 (Nat.lt_succ_self _))
  have hfresh : ∀ C, C < 4 → mb C ≠ some bq := fun C hC e => by have := (hq.yes C bq hC e).lt; omega
  have hcell : ∀ bk o', bk = wq.heap.size ∨ bk = wq.heap.size + 1 → w8.cell? ⟨bk, o', none⟩ = wr.cell? ⟨bk, o', none⟩ := by
    intro bk o' hbk
    have hl : bk < wr.heap.size := by omega
    have e1 : w8.heap[bk]? = (wr.alloc o).heap[bk]? := hg8.block bk (Nat.lt_of_lt_of_le hl hba.size) fun e => by
      have := (owns_tag hot bk e.symm).2.1
      omega
    exact (World.cell?_of_block (w := wr.alloc o) (a := ⟨bk, o', none⟩) e1).trans (hba.cell (p := ⟨bk, o', none⟩) hl)
  have hc8 := (hcold.still (Still.below (gA := w.heap.size) hba)).still hst
  have hm8 : MapAt w8 bq nn T.ws := (hmap.upto hba).blk (hst bq (hmap.upto hba).lt (.inr (hmap.upto hba).obj))
  refine ⟨(hlive.still (Still.below hba)).still hst, ⟨hc8.d, fun x hx => ?_⟩, owns_other (hod.kept hba) hg8 (fun g hg => ?_), (below_next hb hba).grown hg8 (below_next hb hba).size (fun g hg => ?_), (hcell _ 0 (.inl rfl)).trans z0, (hcell _ 1 (.inl rfl)).trans z1, (hcell _ 2 (.inl rfl)).trans z2, (hcell _ 3 (.inl rfl)).trans z3, (hcell _ 3 (.inr rfl)).trans p3, ⟨nn, hm8⟩, hfresh⟩
  · rcases List.mem_append.1 hx with hx | hx
    · exact hc8.s x hx
    · rw [List.mem_singleton.1 hx]; exact ⟨⟨nn, hm8⟩, hfresh⟩
  · obtain ⟨_, _, cur, fr, h⟩ := owns_tag hot2 g hg
    exact ⟨cur, _, fr, h, by decide⟩
  · have := (owns_tag hot2 g hg).1
    omega
/-- What stands when a deal is laid onto the list. -/
theorem comm_deal {w V w10 : World} {k : Nat} {ts : List TrackM} {mb : Nat → Option Nat} {ds : List (DealM × Nat)} {sn : List (TrackM × Nat)} {ov sv : Value} {d : DealM} {bq n : Nat} {o : Obj} (hl : Live V w.heap.size k ts mb) (hc : Cold V mb ds sn) (hod : dealCells.Owns V (w.heap.size + 1) 85 ov ds) (hot : trackCells.Owns V (w.heap.size + 1) 81 sv sn)
    (hb : Below w.heap.size w V) (hm : MapAt V bq n d.ws) (hfresh : ∀ C, C < 4 → mb C ≠ some bq) (hg : (V.alloc o).grownBy w10 ov.ownBlock) :
    Live w10 w.heap.size k ts mb ∧ Cold w10 mb (ds ++ [(d, bq)]) sn ∧ trackCells.Owns w10 (w.heap.size + 1) 81 sv sn ∧ Below w.heap.size w w10 ∧ ∀ bk o', bk < V.heap.size → ov.ownBlock ≠ some bk → w10.cell? ⟨bk, o', none⟩ = V.cell? ⟨bk, o', none⟩ := by
  have hba : Below V.heap.size V (V.alloc o) := below_alloc (Below.refl _ _) _
  have hod2 := hod.kept hba
  have hst : Still (V.alloc o) w10 w.heap.size := Still.grown hg (own_block hod2 (Nat.lt_succ_self _))
  have hc10 := (hc.still (Still.below (gA := w.heap.size) hba)).still hst
  have hm10 : MapAt w10 bq n d.ws := (hm.upto hba).blk (hst bq (hm.upto hba).lt (.inr (hm.upto hba).obj))
  refine ⟨(hl.still (Still.below hba)).still hst, ⟨fun x hx => ?_, hc10.s⟩, owns_other (hot.kept hba) hg (fun g hg' => ?_), (below_next hb hba).grown hg (below_next hb hba).size (fun g hg' => ?_), fun bk o' hlt hne => ?_⟩
  · rcases List.mem_append.1 hx with hx | hx
    · exact hc10.d x hx
    · rw [List.mem_singleton.1 hx]; exact ⟨⟨n, hm10⟩, hfresh⟩
  · obtain ⟨_, _, cur, fr, h⟩ := owns_tag hod2 g hg'
    exact ⟨cur, _, fr, h, by decide⟩
  · have := (owns_tag hod2 g hg').1
    omega
  · have e1 : w10.heap[bk]? = (V.alloc o).heap[bk]? := hg.block bk (Nat.lt_of_lt_of_le hlt hba.size) (fun e => hne e.symm)
    exact (World.cell?_of_block (w := V.alloc o) (a := ⟨bk, o', none⟩) e1).trans (hba.cell (p := ⟨bk, o', none⟩) hlt)
/-- The lists, when all is gathered. -/
theorem comm_end {w : World} {base : Nat} {e e' : TypeId} {ov sv : Value} {mb : Nat → Option Nat} {ds : List (DealM × Nat)} {sn : List (TrackM × Nat)} {DS : List DealM} {SN : List TrackM} (hod : dealCells.Owns w base e ov ds) (hot : trackCells.Owns w base e' sv sn) (hc : Cold w mb ds sn) (hds : ds.map Prod.fst = DS) (hsn : sn.map Prod.fst = SN) (hl : DS.length ≤ 1000) (hs : SN.length ≤ 1000) :
    ∃ A1 c1 A2 c2, ov = .slice A1 DS.length c1 ∧ sv = .slice A2 SN.length c2 ∧ DealsAt w A1 DS ∧ TracksAt w A2 SN ∧ DS.length ≤ c1 := by
  have e1 : DS.length = ds.length := by rw [← hds, List.length_map]
  have e2 : SN.length = sn.length := by rw [← hsn, List.length_map]
  obtain ⟨A1, c1, h1, h1c, h2⟩ := hod.at_ (mx := 1000) (by omega)
  obtain ⟨A2, c2, h3, _, h4⟩ := hot.at_ (mx := 1000) (by omega)
  refine ⟨A1, c1, A2, c2, by rw [e1]; exact h1, by rw [e2]; exact h3, ⟨hl, fun h0 => ?_⟩, ⟨hs, fun h0 => ?_⟩, by omega⟩
  · obtain ⟨b, o, hA, hb, hx⟩ := h2.2 (by omega)
    refine ⟨b, o, hA, hb.2, fun i d hd => ?_⟩
    rw [← hds, List.getElem?_map] at hd
    obtain ⟨p, hp, rfl⟩ := Option.map_eq_some_iff.1 hd
    have hcs := hx i p hp
    obtain ⟨n, hm⟩ := (hc.d p (List.mem_of_getElem? hp)).1
    exact ⟨hcs 0 _ rfl, hcs 1 _ rfl, hcs 2 _ rfl, ⟨p.2, n, hcs 3 _ rfl, hm⟩⟩
  · obtain ⟨b, o, hA, hb, hx⟩ := h4.2 (by omega)
    refine ⟨b, o, hA, hb.2, fun i d hd => ?_⟩
    rw [← hsn, List.getElem?_map] at hd
    obtain ⟨p, hp, rfl⟩ := Option.map_eq_some_iff.1 hd
    have hcs := hx i p hp
    obtain ⟨n, hm⟩ := (hc.s p (List.mem_of_getElem? hp)).1
    exact ⟨hcs 0 _ rfl, hcs 1 _ rfl, hcs 2 _ rfl, ⟨p.2, n, hcs 3 _ rfl, hm⟩⟩
theorem ghost_few (l : List ActM) (x : List AnsM) : ∀ k, (ghostL l x k).ds.length ≤ k
  | 0 => Nat.le_refl _
  | k + 1 => by
    have ih := ghost_few l x k
    show (ghostOf k (ghostL l x k) _ _).ds.length ≤ k + 1
    simp only [ghostOf]
    split
    · simp; exact ih
    · omega
theorem ghost_len (l : List ActM) (x : List AnsM) : ∀ k, (ghostL l x k).ts.length = 4
  | 0 => by simp [ghostL]
  | k + 1 => by
    show (ghostOf k (ghostL l x k) _ _).ts.length = 4
    simp only [ghostOf, List.length_set]
    exact ghost_len l x k
/-- The boxes of a round: the act, the track's copy, its map. -/
theorem comm_boxes (wr : World) (ak : Int) (C : Nat) (ay av : ByteArray) (p s c : Int) : ∃ W3, W3 = ((wr.alloc (.cells #[.int .i64 ak, .int .i64 C, .string ay, .string av] 52)).alloc (.cells #[.int .i64 p, .int .i64 s, .int .i64 c, .map (some (wr.heap.size + 1 + 1))] 81)).alloc (.map #[] 0) ∧ Below wr.heap.size wr W3 ∧ W3.heap.size = wr.heap.size + 1 + 1 + 1 ∧
    W3.cell? ⟨wr.heap.size + 1, 0, none⟩ = some (.int .i64 p) ∧ W3.cell? ⟨wr.heap.size + 1, 1, none⟩ = some (.int .i64 s) ∧ W3.cell? ⟨wr.heap.size + 1, 2, none⟩ = some (.int .i64 c) ∧ W3.cell? ⟨wr.heap.size + 1, 3, none⟩ = some (.map (some (wr.heap.size + 1 + 1))) ∧
    W3.cell? ⟨wr.heap.size, 0, none⟩ = some (.int .i64 ak) ∧ W3.cell? ⟨wr.heap.size, 1, none⟩ = some (.int .i64 C) ∧ W3.cell? ⟨wr.heap.size, 2, none⟩ = some (.string ay) ∧ W3.cell? ⟨wr.heap.size, 3, none⟩ = some (.string av) ∧ W3.frozen? ⟨wr.heap.size + 1, 3, none⟩ = false ∧
    W3.ownsMap (H := Unit) Tryd.prog 9 (plainElem Tryd.prog 9) (wr.heap.size + 1 + 1) 0 (.map []) := by
  refine ⟨_, rfl, ?_⟩
  have s1 : (wr.alloc (.cells #[.int .i64 ak, .int .i64 C, .string ay, .string av] 52)).heap.size = wr.heap.size + 1 := by simp
  have s2 : ((wr.alloc (.cells #[.int .i64 ak, .int .i64 C, .string ay, .string av] 52)).alloc (.cells #[.int .i64 p, .int .i64 s, .int .i64 c, .map (some (wr.heap.size + 1 + 1))] 81)).heap.size = wr.heap.size + 1 + 1 := by simp
  have h1 := (Below.heap_alloc ((wr.alloc (.cells #[.int .i64 ak, .int .i64 C, .string ay, .string av] 52)).alloc (.cells #[.int .i64 p, .int .i64 s, .int .i64 c, .map (some (wr.heap.size + 1 + 1))] 81)) (.map #[] 0) wr.heap.size (by omega)).trans ((Below.heap_alloc (wr.alloc (.cells #[.int .i64 ak, .int .i64 C, .string ay, .string av] 52)) (.cells #[.int .i64 p, .int .i64 s, .int .i64 c, .map (some (wr.heap.size + 1 + 1))] 81) wr.heap.size (by omega)).trans (heap_alloc_new wr _))
  have h2 := heap_alloc_new (wr.alloc (.cells #[.int .i64 ak, .int .i64 C, .string ay, .string av] 52)) (.cells #[.int .i64 p, .int .i64 s, .int .i64 c, .map (some (wr.heap.size + 1 + 1))] 81)
  rw [s1] at h2
  have h2 := (Below.heap_alloc ((wr.alloc (.cells #[.int .i64 ak, .int .i64 C, .string ay, .string av] 52)).alloc (.cells #[.int .i64 p, .int .i64 s, .int .i64 c, .map (some (wr.heap.size + 1 + 1))] 81)) (.map #[] 0) (wr.heap.size + 1) (by omega)).trans h2
  refine ⟨below_alloc (below_alloc (below_alloc (Below.refl _ _) _) _) _, by simp, by rw [Joins.cell_of_block h2]; rfl, by rw [Joins.cell_of_block h2]; rfl, by rw [Joins.cell_of_block h2]; rfl, by rw [Joins.cell_of_block h2]; rfl, by rw [Joins.cell_of_block h1]; rfl, by rw [Joins.cell_of_block h1]; rfl, by rw [Joins.cell_of_block h1]; rfl, by rw [Joins.cell_of_block h1]; rfl, Joins.unfrozen_of_block h2 _, ?_⟩
  have h := World.ownsMap_made (H := Unit) ((wr.alloc (.cells #[.int .i64 ak, .int .i64 C, .string ay, .string av] 52)).alloc (.cells #[.int .i64 p, .int .i64 s, .int .i64 c, .map (some (wr.heap.size + 1 + 1))] 81)) Tryd.prog 9 (plainElem Tryd.prog 9)
  have e : ((wr.alloc (.cells #[.int .i64 ak, .int .i64 C, .string ay, .string av] 52)).alloc (.cells #[.int .i64 p, .int .i64 s, .int .i64 c, .map (some (wr.heap.size + 1 + 1))] 81)).heap.size = wr.heap.size + 1 + 1 := by simp
  rw [e] at h
  exact h
set_option maxRecDepth 100000 in
set_option maxHeartbeats 4000000 in
theorem committed_any (A : Option Addr) (q : Nat) (l : List ActM) (g cx : Nat) (x : List AnsM) (w : World) (hin : CommIn l x) (hact : ActsAt w (· < w.heap.size) A l) (hg : g < w.heap.size) (hans : ∀ i y, x[i]? = some y → AnsAt w g (i * 5) y) :
    Calls Tryd.prog 39 #[.slice A l.length q, .slice (some ⟨g, 0, none⟩) x.length cx] w (CommOut l x w) := by
  have hlen := hin.len
  have hsame := hin.same
  have t0 : ((x.length : Int) != (l.length : Int)) = false := by rw [hsame]; simp
  have HIN := Lib.hid hin
  have HACT := Lib.hid hact
  have HANS := Lib.hid hans
  obtain ⟨Z, hZ, hmk⟩ : ∃ Z : Array Value, Z = madeCells (Value.agg #[.int .i64 0, .int .i64 0, .int .i64 0, .map none]).cells (4 * 4) ∧ ∀ W : World, (Instr.makeSlice 76 (.int .i64 4) (.int .i64 4)).run Tryd.prog W = .ok (.slice (some ⟨W.heap.size, 0, none⟩) 4 4) (W.alloc (.cells Z 81)) := by
    obtain ⟨i0, hi0, hz0, hz1, hz2⟩ := info_parts track_info
    refine ⟨_, rfl, fun W => ?_⟩
    have h := run_make (P := Tryd.prog) W 76 81 i0 _ Tryd.underlying76 hi0 hz0 .i64 .i64 4 4 (by omega) (by omega) (by rw [hz2]; omega) (by omega)
    rw [hz1] at h
    exact h
  have HZ := Lib.hid hZ
  clear hin hact hans hsame hZ
  go_enter Tryd.func39, Tryd.ntmps39
  go_wp2
  go_loopw [6, 7, 23] (fun ov sv i wr => ∃ k : Nat, k ≤ l.length ∧ i = .int .i64 k ∧ CommInv l x w.heap.size k ov sv w wr) (fun _ _ i _ => l.length - (intOf i).toNat)
  case atStart =>
    refine ⟨0, Nat.zero_le _, rfl, fun _ => none, [], [], Cells.Owns.nil _ _ _, Cells.Owns.nil _ _ _, rfl, rfl, ?_, ⟨fun _ h => (by cases h), fun _ h => (by cases h)⟩, below_alloc (Below.refl _ _) _, fun _ _ _ h => (by cases h)⟩
    exact live_start w Z HZ.out
  case round =>
    obtain ⟨k, hk, rfl, mb, ds, sn, hod, hot, hds, hsn, hlive, hcold, hb, hlo⟩ := hrel
    by_cases hm : k < l.length
    · obtain ⟨b, o, rfl, hbb, hax⟩ := SeqAt.at_ (SeqAt.acts HACT.out (P' := (· < w.heap.size)) (fun _ h => h) (fun b j hb' => hb.cell (p := ⟨b, j, none⟩) hb')) (getD_some (d := default) hm)
      obtain ⟨a, had⟩ : ∃ a, a = l.getD k default := ⟨_, rfl⟩
      rw [← had] at hax
      obtain ⟨hc0, hc4⟩ := HIN.out.c k hm
      rw [← had] at hc0 hc4
      obtain ⟨C, hC⟩ : ∃ C : Nat, a.c = C := ⟨a.c.toNat, by omega⟩
      have hC4 : C < 4 := by omega
      have x0 := hax.k
      have x1 := hax.c
      have x2 := hax.y
      have x3 := hax.v
      rw [hC] at x1
      have HAOK := Lib.hid hax.ok
      have hbw : b < wr.heap.size := Nat.lt_of_lt_of_le hbb hb.size
      have j0 : (0 : Int) ≤ (k : Int) := by omega
      have j1 : (k : Int) < (l.length : Int) := by omega
      have i0 : (0 : Int) ≤ (C : Int) := by omega
      have i1 : (C : Int) < 4 := by omega
      have c0 := hlive.p C hC4
      have c1 := hlive.s C hC4
      have c2 := hlive.c C hC4
      have c3 := hlive.m C hC4
      have hgl : w.heap.size < wr.heap.size := hlive.lt
      have hgl1 : w.heap.size < wr.heap.size + 1 := by omega
      have hgl2 : w.heap.size < wr.heap.size + 1 + 1 := by omega
      have hmm := @run_makeMap Tryd.prog
      obtain ⟨T, hTd⟩ : ∃ T, T = (ghostL l x k).ts.getD C default := ⟨_, rfl⟩
      rw [← hTd] at c0 c1 c2
      have HOD := Lib.hid hod
      have HOT := Lib.hid hot
      have HDS := Lib.hid hds
      have HSN := Lib.hid hsn
      have HLV := Lib.hid hlive
      have HCD := Lib.hid hcold
      have HB := Lib.hid hb
      have HLO := Lib.hid hlo
      have HA := Lib.hid had
      have HT := Lib.hid hTd
      have HCC := Lib.hid hC
      clear hod hot hds hsn hlive hcold hb hlo had hTd hax hC hc0 hc4
      obtain ⟨ak, ac, ay, av⟩ := a
      dsimp only at x0 x1 x2 x3
      have hkx : k < x.length := by rw [HIN.out.same]; exact hm
      obtain ⟨y, hyd⟩ : ∃ y, y = x.getD k default := ⟨_, rfl⟩
      have HY := Lib.hid (show AnsAt w g (k * 5) y from HANS.out k y (by rw [hyd]; exact getD_some hkx))
      have HTS := Lib.hid (show T = seenT l x k by rw [HT.out, seenT, ← HA.out]; show _ = (ghostL l x k).ts.getD ac.toNat default; rw [show ac = (C : Int) from HCC.out, Int.toNat_natCast])
      have HG1 := Lib.hid (show ghostL l x (k + 1) = ⟨if y.code = 0 ∧ ak = 4 ∧ T.ph = 3 then (ghostL l x k).ds ++ [⟨T.st, (trackOf T ⟨ak, ac, ay, av⟩ y).cm, k, T.ws⟩] else (ghostL l x k).ds, (ghostL l x k).ts.set C { trackOf T ⟨ak, ac, ay, av⟩ y with ph := y.ph }⟩ by
        show ghostOf k (ghostL l x k) (l.getD k default) (x.getD k default) = _
        rw [← HA.out, ← hyd, ghostOf]
        dsimp only
        rw [show ac = (C : Int) from HCC.out, Int.toNat_natCast, ← HT.out])
      have HZ0 := Lib.hid (show mb C = none → ¬ (ak = 1 ∧ y.code = 0) → y.ph = 0 from fun hn h1 => by
        rw [hyd]
        refine HIN.out.zero k hm ?_ ?_
        · rw [← HTS.out, HT.out]; exact (HLV.out.no C hC4 hn).2
        · rw [← HA.out, ← hyd]; exact h1)
      have HPT := Lib.hid (show ak = 3 → y.code = 0 → T.ph ≠ 0 ∧ Inc (wrKeys T.ws) from fun h1 h2 => by
        rw [HTS.out]
        exact HIN.out.put k hm (by rw [← HA.out]; exact h1) (by rw [← hyd]; exact h2))
      have HTL := Lib.hid (show (ghostL l x k).ts.length = 4 from ghost_len l x k)
      have j2 : (k : Int) < (x.length : Int) := by omega
      clear hyd hkx
      obtain ⟨yc, yi, yv, yp, yt⟩ := y
      dsimp only at HG1 HZ0 HPT
      cases hmb : mb C with
      | none =>
        rw [hmb] at c3
        have hTws : T.ws = [] := by rw [HT.out]; exact (HLV.out.no C hC4 hmb).1
        obtain ⟨W3, hW3, hb3, hs3, o0, o1, o2, o3, y0, y1, y2, y3, of3, hmade⟩ := comm_boxes wr ak C ay av T.ph T.st T.cm
        have HW3 := Lib.hid hW3
        have HB3 := Lib.hid hb3
        have hrg := run_range_nilMap (P := Tryd.prog) W3 79 9 9 Tryd.underlying79
        have hnx0 : ∀ ty, (Instr.next (.pointer (some ⟨W3.heap.size, 0, none⟩)) false ty).run Tryd.prog (W3.alloc (.mapIter none 0 #[] 0)) = _ := fun ty => run_next_nilMap _ ty 0 0 #[]
        rw [hs3] at hrg hnx0
        have c3' := (hb3.cell (p := ⟨w.heap.size, C * 4 + 3, none⟩) hgl).trans c3
        clear hb3 hW3
        go_wp2_with (rw [show ((wr.alloc (.cells #[.int .i64 ak, .int .i64 C, .string ay, .string av] 52)).alloc (.cells #[.int .i64 T.ph, .int .i64 T.st, .int .i64 T.cm, .map (some (wr.heap.size + 1 + 1))] 81)).alloc (.map #[] 0) = W3 from HW3.out.symm])
        obtain ⟨wq, rfl⟩ : ∃ wq, wq = wr := ⟨_, rfl⟩
        have hnx : Below (wq.heap.size + 1 + 1) W3 (W3.alloc (.mapIter none 0 #[] 0)) := (below_alloc (Below.refl _ _) _).mono (by omega)
        have hmap : MapAt (W3.alloc (.mapIter none 0 #[] 0)) (wq.heap.size + 1 + 1) 0 T.ws := ⟨.map [], hmade.alloc _, by rw [hTws]; exact mapIs_nil⟩
        obtain ⟨wr, hwr⟩ : ∃ wr, wr = W3.alloc (.mapIter none 0 #[] 0) := ⟨_, rfl⟩
        rw [← hwr] at hnx0 hnx hmap ⊢
        clear hwr hrg hmade hTws
        refine wp_loop_rounds 1 ?_
        rw [rounds_succ]
        have hgA : g ≠ w.heap.size := by omega
        have hgA' : w.heap.size ≠ g := by omega
        have hnx1 : Below wq.heap.size wq wr := HB3.out.trans (hnx.mono (by omega))
        have hsz1 := hnx.size
        have hsq : wq.heap.size + 1 + 1 < wr.heap.size := hmap.lt
        have p0 := (hnx.cell (p := ⟨wq.heap.size + 1, 0, none⟩) (by show wq.heap.size + 1 < _; omega)).trans o0
        have p1 := (hnx.cell (p := ⟨wq.heap.size + 1, 1, none⟩) (by show wq.heap.size + 1 < _; omega)).trans o1
        have p2 := (hnx.cell (p := ⟨wq.heap.size + 1, 2, none⟩) (by show wq.heap.size + 1 < _; omega)).trans o2
        have p3 := (hnx.cell (p := ⟨wq.heap.size + 1, 3, none⟩) (by show wq.heap.size + 1 < _; omega)).trans o3
        have z0 := (hnx.cell (p := ⟨wq.heap.size, 0, none⟩) (by show wq.heap.size < _; omega)).trans y0
        have z1 := (hnx.cell (p := ⟨wq.heap.size, 1, none⟩) (by show wq.heap.size < _; omega)).trans y1
        have z2 := (hnx.cell (p := ⟨wq.heap.size, 2, none⟩) (by show wq.heap.size < _; omega)).trans y2
        have z3 := (hnx.cell (p := ⟨wq.heap.size, 3, none⟩) (by show wq.heap.size < _; omega)).trans y3
        have HMAP := Lib.hid hmap
        have HLV1 := Lib.hid (HLV.out.still (Still.below hnx1))
        have HCD1 := Lib.hid (HCD.out.still (Still.below (gA := w.heap.size) hnx1))
        have HOD1 := Lib.hid (HOD.out.kept hnx1)
        have HOT1 := Lib.hid (HOT.out.kept hnx1)
        have HB1 := Lib.hid (below_next HB.out hnx1)
        have hsnl : sn.length = k := by rw [← List.length_map (f := Prod.fst), HSN.out]; simp [seenL]
        have HAP := Lib.hid (show ∀ ty : TypeId, ∃ v' w', (Builtin.append_ #[76, 76] ty #[u7, .slice (some ⟨wr.heap.size, 0, none⟩) 1 1]).run Tryd.prog (wr.alloc (.cells #[.int .i64 T.ph, .int .i64 T.st, .int .i64 T.cm, .map (some (wq.heap.size + 1 + 1))] 81)) = .ok v' w' ∧ trackCells.Owns w' (w.heap.size + 1) 81 v' (sn ++ [(T, wq.heap.size + 1 + 1)]) ∧ CommMid w wq w' k C (ghostL l x k).ts mb ds (sn ++ [(T, wq.heap.size + 1 + 1)]) u6 ak ay av (wq.heap.size + 1 + 1) T from fun ty => by
          obtain ⟨i0, hi0, hz0, hz1, hz2⟩ := info_parts track_info
          obtain ⟨v', w', h1, h2, h3⟩ := app_one (C := trackCells) (ty := ty) (bytes := 32) Tryd.underlying76 hi0 hz0 hz1 hz2 rfl wr (w.heap.size + 1) u7 sn (T, wq.heap.size + 1 + 1) HOT1.out (by omega) (by omega) (by omega)
          exact ⟨v', w', h1, h2, comm_next HLV.out HOT.out (by omega) (by omega) HCD1.out HLV1.out HOD1.out HOT1.out HB1.out z0 z1 z2 z3 p3 HMAP.out h3⟩)
        have HSN' := Lib.hid (show (sn ++ [(T, wq.heap.size + 1 + 1)]).map Prod.fst = seenL l x (k + 1) by rw [List.map_append, HSN.out, seenL_succ]; exact congrArg (fun z => seenL l x k ++ [z]) HTS.out)
        clear hnx hnx1 hmap z0 z1 z2 z3 o0 o1 o2 o3 y0 y1 y2 y3 HLV1 HCD1 HOD1 HOT1 HMAP HB3
        by_cases hyc : yc = 0
        · subst hyc
          by_cases h1 : ak = 1
          · subst h1
            go_wp2_with (at_builtin; refine (wpList_append_run _ rfl (.tmp 51) (.tmp 53) 76 rfl u7 (.slice (some ⟨wr.heap.size, 0, none⟩) 1 1) rfl rfl (HAP.out _) ?_); rintro v8 w8 ⟨hown8, hmid⟩; have HO8 := Lib.hid hown8; have HM := Lib.hid hmid; have r0 := hmid.z0; have r1 := hmid.z1; have r2 := hmid.z2; have r3 := hmid.z3; have rp := hmid.p3; have l0 := hmid.live.p C hC4; have l1 := hmid.live.s C hC4; have l2 := hmid.live.c C hC4; have l3 := hmid.live.m C hC4; have lf := hmid.live.f; try rw [hmb] at l3; have q0 := (hmid.bel.cell (p := ⟨g, k * 5, none⟩) hg).trans HY.out.c; have q3 := (hmid.bel.cell (p := ⟨g, k * 5 + 3, none⟩) hg).trans HY.out.p; have q4 := (hmid.bel.cell (p := ⟨g, k * 5 + 4, none⟩) hg).trans HY.out.t; have hgw8 := hmid.live.lt; have hgx : g < w8.heap.size := Nat.lt_of_lt_of_le hg hmid.bel.size; rw [← HT.out] at l0 l1 l2; clear hown8 hmid)
            go_roundw
            case rel => exact ⟨k + 1, by omega, by go_num, (fun j => if j = C then some w8.heap.size else mb j), ds, _, owns_begin HM.out.own _ _, owns_begin HO8.out _ _, by rw [HDS.out, HG1.out]; dsimp only; rw [if_neg (by omega)], HSN'.out, by rw [HG1.out, show trackOf T ⟨1, ac, ay, av⟩ ⟨0, yi, yv, yp, yt⟩ = ⟨0, yt, 0, []⟩ from rfl]; exact HM.out.live.begin hC4 HTL.out yp yt, HM.out.cold.begin HM.out.live _ _, below_alloc (((((HM.out.bel.setCell (Nat.le_refl _) _).setCell (Nat.le_refl _) _).setCell (Nat.le_refl _) _).setCell (Nat.le_refl _) _).setCell (Nat.le_refl _) _) _, fun j b hj hb => by
                dsimp only at hb
                split at hb
                · injection hb with hb; rw [← hb]; exact HM.out.bel.size
                · exact HLO.out j b hj hb⟩
            case measure => simp [intOf]; omega
          · have e1 : (ak == 1) = false := by simpa using h1
            by_cases h3 : ak = 3
            · exfalso
              subst h3
              exact (HPT.out rfl rfl).1 (by rw [HT.out]; exact (HLV.out.no C hC4 hmb).2)
            · have e3 : (ak == 3) = false := by simpa using h3
              have HZR := Lib.hid (show mb C = none → yp = 0 from fun hn => HZ0.out hn (fun hh => h1 hh.1))
              by_cases h4 : ak = 4
              · subst h4
                by_cases ht0 : yt = 0
                · subst ht0
                  by_cases hp3 : T.ph = 3
                  ·
                    exfalso
                    have hno := (HLV.out.no C hC4 hmb).2
                    rw [← HT.out] at hno
                    omega
                  · have g3 : (T.ph == 3) = false := by simpa using hp3
                    go_wp2_with (at_builtin; refine (wpList_append_run _ rfl (.tmp 51) (.tmp 53) 76 rfl u7 (.slice (some ⟨wr.heap.size, 0, none⟩) 1 1) rfl rfl (HAP.out _) ?_); rintro v8 w8 ⟨hown8, hmid⟩; have HO8 := Lib.hid hown8; have HM := Lib.hid hmid; have r0 := hmid.z0; have r1 := hmid.z1; have r2 := hmid.z2; have r3 := hmid.z3; have rp := hmid.p3; have l0 := hmid.live.p C hC4; have l1 := hmid.live.s C hC4; have l2 := hmid.live.c C hC4; have l3 := hmid.live.m C hC4; have lf := hmid.live.f; try rw [hmb] at l3; have q0 := (hmid.bel.cell (p := ⟨g, k * 5, none⟩) hg).trans HY.out.c; have q3 := (hmid.bel.cell (p := ⟨g, k * 5 + 3, none⟩) hg).trans HY.out.p; have q4 := (hmid.bel.cell (p := ⟨g, k * 5 + 4, none⟩) hg).trans HY.out.t; have hgw8 := hmid.live.lt; have hgx : g < w8.heap.size := Nat.lt_of_lt_of_le hg hmid.bel.size; rw [← HT.out] at l0 l1 l2; clear hown8 hmid)
                    go_roundw
                    case rel => exact ⟨k + 1, by omega, by go_num, mb, ds, _, owns_store HM.out.own _ _, owns_store HO8.out _ _, by rw [HDS.out, HG1.out]; dsimp only; rw [if_neg (fun hh => hp3 hh.2.2)], HSN'.out, by rw [HG1.out]; rw [show trackOf T ⟨4, ac, ay, av⟩ ⟨0, yi, yv, yp, 0⟩ = T from rfl]; exact HM.out.live.phase hC4 HTL.out HT.out yp HZR.out, HM.out.cold.store HM.out.live _ _, HM.out.bel.setCell (Nat.le_refl _) _, HLO.out⟩
                    case measure => simp [intOf]; omega
                · have gt : (yt != 0) = true := by simpa using ht0
                  by_cases hp3 : T.ph = 3
                  ·
                    exfalso
                    have hno := (HLV.out.no C hC4 hmb).2
                    rw [← HT.out] at hno
                    omega
                  · have g3 : (T.ph == 3) = false := by simpa using hp3
                    go_wp2_with (at_builtin; refine (wpList_append_run _ rfl (.tmp 51) (.tmp 53) 76 rfl u7 (.slice (some ⟨wr.heap.size, 0, none⟩) 1 1) rfl rfl (HAP.out _) ?_); rintro v8 w8 ⟨hown8, hmid⟩; have HO8 := Lib.hid hown8; have HM := Lib.hid hmid; have r0 := hmid.z0; have r1 := hmid.z1; have r2 := hmid.z2; have r3 := hmid.z3; have rp := hmid.p3; have l0 := hmid.live.p C hC4; have l1 := hmid.live.s C hC4; have l2 := hmid.live.c C hC4; have l3 := hmid.live.m C hC4; have lf := hmid.live.f; try rw [hmb] at l3; have q0 := (hmid.bel.cell (p := ⟨g, k * 5, none⟩) hg).trans HY.out.c; have q3 := (hmid.bel.cell (p := ⟨g, k * 5 + 3, none⟩) hg).trans HY.out.p; have q4 := (hmid.bel.cell (p := ⟨g, k * 5 + 4, none⟩) hg).trans HY.out.t; have hgw8 := hmid.live.lt; have hgx : g < w8.heap.size := Nat.lt_of_lt_of_le hg hmid.bel.size; rw [← HT.out] at l0 l1 l2; clear hown8 hmid)
                    go_roundw
                    case rel => exact ⟨k + 1, by omega, by go_num, mb, ds, _, owns_store (owns_store HM.out.own _ _) _ _, owns_store (owns_store HO8.out _ _) _ _, by rw [HDS.out, HG1.out]; dsimp only; rw [if_neg (fun hh => hp3 hh.2.2)], HSN'.out, by rw [HG1.out, show trackOf T ⟨4, ac, ay, av⟩ ⟨0, yi, yv, yp, yt⟩ = { T with cm := yt } by unfold trackOf; simp [ht0]]; exact HM.out.live.commitPhase hC4 HTL.out HT.out yt yp HZR.out, (HM.out.cold.store HM.out.live _ _).store (HM.out.live.commit hC4 HTL.out HT.out yt) _ _, (HM.out.bel.setCell (Nat.le_refl _) _).setCell (Nat.le_refl _) _, HLO.out⟩
                    case measure => simp [intOf]; omega
              · have e4 : (ak == 4) = false := by simpa using h4
                go_wp2_with (at_builtin; refine (wpList_append_run _ rfl (.tmp 51) (.tmp 53) 76 rfl u7 (.slice (some ⟨wr.heap.size, 0, none⟩) 1 1) rfl rfl (HAP.out _) ?_); rintro v8 w8 ⟨hown8, hmid⟩; have HO8 := Lib.hid hown8; have HM := Lib.hid hmid; have r0 := hmid.z0; have r1 := hmid.z1; have r2 := hmid.z2; have r3 := hmid.z3; have rp := hmid.p3; have l0 := hmid.live.p C hC4; have l1 := hmid.live.s C hC4; have l2 := hmid.live.c C hC4; have l3 := hmid.live.m C hC4; have lf := hmid.live.f; try rw [hmb] at l3; have q0 := (hmid.bel.cell (p := ⟨g, k * 5, none⟩) hg).trans HY.out.c; have q3 := (hmid.bel.cell (p := ⟨g, k * 5 + 3, none⟩) hg).trans HY.out.p; have q4 := (hmid.bel.cell (p := ⟨g, k * 5 + 4, none⟩) hg).trans HY.out.t; have hgw8 := hmid.live.lt; have hgx : g < w8.heap.size := Nat.lt_of_lt_of_le hg hmid.bel.size; rw [← HT.out] at l0 l1 l2; clear hown8 hmid)
                go_roundw
                case rel => exact ⟨k + 1, by omega, by go_num, mb, ds, _, owns_store HM.out.own _ _, owns_store HO8.out _ _, by rw [HDS.out, HG1.out]; exact (if_neg (fun hh => h4 hh.2.1)).symm, HSN'.out, by rw [HG1.out]; rw [show trackOf T ⟨ak, ac, ay, av⟩ ⟨0, yi, yv, yp, yt⟩ = T by unfold trackOf; rw [if_neg (fun h' => h' rfl), if_neg h1, if_neg h3, if_neg h4]]; exact HM.out.live.phase hC4 HTL.out HT.out yp HZR.out, HM.out.cold.store HM.out.live _ _, HM.out.bel.setCell (Nat.le_refl _) _, HLO.out⟩
                case measure => simp [intOf]; omega
        · have d0 : (yc == 0) = false := by simpa using hyc
          have HZR := Lib.hid (show mb C = none → yp = 0 from fun hn => HZ0.out hn (fun hh => hyc hh.2))
          go_wp2_with (at_builtin; refine (wpList_append_run _ rfl (.tmp 51) (.tmp 53) 76 rfl u7 (.slice (some ⟨wr.heap.size, 0, none⟩) 1 1) rfl rfl (HAP.out _) ?_); rintro v8 w8 ⟨hown8, hmid⟩; have HO8 := Lib.hid hown8; have HM := Lib.hid hmid; have r0 := hmid.z0; have r1 := hmid.z1; have r2 := hmid.z2; have r3 := hmid.z3; have rp := hmid.p3; have l0 := hmid.live.p C hC4; have l1 := hmid.live.s C hC4; have l2 := hmid.live.c C hC4; have l3 := hmid.live.m C hC4; have lf := hmid.live.f; try rw [hmb] at l3; have q0 := (hmid.bel.cell (p := ⟨g, k * 5, none⟩) hg).trans HY.out.c; have q3 := (hmid.bel.cell (p := ⟨g, k * 5 + 3, none⟩) hg).trans HY.out.p; have q4 := (hmid.bel.cell (p := ⟨g, k * 5 + 4, none⟩) hg).trans HY.out.t; have hgw8 := hmid.live.lt; have hgx : g < w8.heap.size := Nat.lt_of_lt_of_le hg hmid.bel.size; rw [← HT.out] at l0 l1 l2; clear hown8 hmid)
          go_roundw
          case rel => exact ⟨k + 1, by omega, by go_num, mb, ds, _, owns_store HM.out.own _ _, owns_store HO8.out _ _, by rw [HDS.out, HG1.out]; exact (if_neg (fun hh => hyc hh.1)).symm, HSN'.out, by rw [HG1.out]; rw [show trackOf T ⟨ak, ac, ay, av⟩ ⟨yc, yi, yv, yp, yt⟩ = T by unfold trackOf; rw [if_pos hyc]]; exact HM.out.live.phase hC4 HTL.out HT.out yp HZR.out, HM.out.cold.store HM.out.live _ _, HM.out.bel.setCell (Nat.le_refl _) _, HLO.out⟩
          case measure => simp [intOf]; omega
      | some bt =>
        rw [hmb] at c3
        obtain ⟨D, hown, hmi⟩ := HLV.out.yes C bt hC4 hmb
        have HMI := Lib.hid hmi
        have hbtl : bt < wr.heap.size := hown.lt
        obtain ⟨W3, hW3, hb3, hs3, o0, o1, o2, o3, y0, y1, y2, y3, of3, hmade⟩ := comm_boxes wr ak C ay av T.ph T.st T.cm
        have hown3 : W3.ownsMap Tryd.prog 9 (plainElem Tryd.prog 9) bt k D := by rw [hW3]; exact ((hown.alloc _).alloc _).alloc _
        have HOWN3 := Lib.hid hown3
        have HW3 := Lib.hid hW3
        have HCANON := Lib.hid (hown.canon law_str)
        have hszD := hown.size_le
        have HB3 := Lib.hid hb3
        clear hown hmi hown3 hb3 hW3
        go_wp2_with (rw [show ((wr.alloc (.cells #[.int .i64 ak, .int .i64 C, .string ay, .string av] 52)).alloc (.cells #[.int .i64 T.ph, .int .i64 T.st, .int .i64 T.cm, .map (some (wr.heap.size + 1 + 1))] 81)).alloc (.map #[] 0) = W3 from HW3.out.symm]; at_range; refine wpList_range_own _ rfl _ 79 rfl 9 9 law_str Tryd.underlying79 _ bt k D rfl HOWN3.out ?_; intro w0 hrg0 hg0 hs0)
        try go_frame
        rw [hs3] at hrg0
        try rw [hs3]
        obtain ⟨wq, rfl⟩ : ∃ wq, wq = wr := ⟨_, rfl⟩
        go_loopw [13] (fun _ wr => ∃ (left : Lit → Bool) (cnt : Nat) (Dout : DataW Unit), wr.ranges Tryd.prog 9 (plainElem Tryd.prog 9) bt (wq.heap.size + 1 + 1 + 1) k D left cnt ∧ cnt ≤ Maps.size D ∧
            wr.ownsMap Tryd.prog 9 (plainElem Tryd.prog 9) (wq.heap.size + 1 + 1) (Maps.size D - cnt) Dout ∧ Agree Dout D left ∧ Below (wq.heap.size + 1 + 1) W3 wr)
          (fun _ wr => wr.rangeLeft bt (wq.heap.size + 1 + 1 + 1))
        case atStart =>
          exact ⟨_, _, .map [], hrg0, Nat.le_refl _, (hmade.kept hg0 (by simp)).mono (Nat.zero_le _), agree_start D, ((Below.refl _ _).grown hg0 (by omega) (fun j hj => by cases hj))⟩
        case round =>
          obtain ⟨left, cnt, Dout, hrg, hcs, hout, hA, hnx⟩ := hrel
          have o3' : wr.cell? ⟨wq.heap.size + 1, 3, none⟩ = some (.map (some (wq.heap.size + 1 + 1))) := (hnx.cell (p := ⟨wq.heap.size + 1, 3, none⟩) (by show wq.heap.size + 1 < _; omega)).trans o3
          go_wp2_with (first
            | (at_next; refine wpList_next_ss _ rfl _ rfl bt (wq.heap.size + 1 + 1 + 1) k _ _ _ rfl hrg ?_ ?_)
            | go_in)
          · intro hc0 hl0
            have e := agree_end hA hl0 (hout.canon law_str) HCANON.out
            subst hc0
            subst e
            have hmap : MapAt wr (wq.heap.size + 1 + 1) (Maps.size Dout - 0) T.ws := ⟨_, hout, by rw [HT.out]; exact HMI.out⟩
            clear hrg hcs hA hl0 o3' hg0 hs0 hrg0 hmade
            have hgA : g ≠ w.heap.size := by omega
            have hgA' : w.heap.size ≠ g := by omega
            have hnx1 : Below wq.heap.size wq wr := HB3.out.trans (hnx.mono (by omega))
            have hsz1 := hnx.size
            have hsq : wq.heap.size + 1 + 1 < wr.heap.size := hmap.lt
            have p0 := (hnx.cell (p := ⟨wq.heap.size + 1, 0, none⟩) (by show wq.heap.size + 1 < _; omega)).trans o0
            have p1 := (hnx.cell (p := ⟨wq.heap.size + 1, 1, none⟩) (by show wq.heap.size + 1 < _; omega)).trans o1
            have p2 := (hnx.cell (p := ⟨wq.heap.size + 1, 2, none⟩) (by show wq.heap.size + 1 < _; omega)).trans o2
            have p3 := (hnx.cell (p := ⟨wq.heap.size + 1, 3, none⟩) (by show wq.heap.size + 1 < _; omega)).trans o3
            have z0 := (hnx.cell (p := ⟨wq.heap.size, 0, none⟩) (by show wq.heap.size < _; omega)).trans y0
            have z1 := (hnx.cell (p := ⟨wq.heap.size, 1, none⟩) (by show wq.heap.size < _; omega)).trans y1
            have z2 := (hnx.cell (p := ⟨wq.heap.size, 2, none⟩) (by show wq.heap.size < _; omega)).trans y2
            have z3 := (hnx.cell (p := ⟨wq.heap.size, 3, none⟩) (by show wq.heap.size < _; omega)).trans y3
            have HMAP := Lib.hid hmap
            have HLV1 := Lib.hid (HLV.out.still (Still.below hnx1))
            have HCD1 := Lib.hid (HCD.out.still (Still.below (gA := w.heap.size) hnx1))
            have HOD1 := Lib.hid (HOD.out.kept hnx1)
            have HOT1 := Lib.hid (HOT.out.kept hnx1)
            have HB1 := Lib.hid (below_next HB.out hnx1)
            have hsnl : sn.length = k := by rw [← List.length_map (f := Prod.fst), HSN.out]; simp [seenL]
            have HAP := Lib.hid (show ∀ ty : TypeId, ∃ v' w', (Builtin.append_ #[76, 76] ty #[u7, .slice (some ⟨wr.heap.size, 0, none⟩) 1 1]).run Tryd.prog (wr.alloc (.cells #[.int .i64 T.ph, .int .i64 T.st, .int .i64 T.cm, .map (some (wq.heap.size + 1 + 1))] 81)) = .ok v' w' ∧ trackCells.Owns w' (w.heap.size + 1) 81 v' (sn ++ [(T, wq.heap.size + 1 + 1)]) ∧ CommMid w wq w' k C (ghostL l x k).ts mb ds (sn ++ [(T, wq.heap.size + 1 + 1)]) u6 ak ay av (wq.heap.size + 1 + 1) T from fun ty => by
              obtain ⟨i0, hi0, hz0, hz1, hz2⟩ := info_parts track_info
              obtain ⟨v', w', h1, h2, h3⟩ := app_one (C := trackCells) (ty := ty) (bytes := 32) Tryd.underlying76 hi0 hz0 hz1 hz2 rfl wr (w.heap.size + 1) u7 sn (T, wq.heap.size + 1 + 1) HOT1.out (by omega) (by omega) (by omega)
              exact ⟨v', w', h1, h2, comm_next HLV.out HOT.out (by omega) (by omega) HCD1.out HLV1.out HOD1.out HOT1.out HB1.out z0 z1 z2 z3 p3 HMAP.out h3⟩)
            have HSN' := Lib.hid (show (sn ++ [(T, wq.heap.size + 1 + 1)]).map Prod.fst = seenL l x (k + 1) by rw [List.map_append, HSN.out, seenL_succ]; exact congrArg (fun z => seenL l x k ++ [z]) HTS.out)
            clear hnx hnx1 hmap z0 z1 z2 z3 o0 o1 o2 o3 y0 y1 y2 y3 HLV1 HCD1 HOD1 HOT1 HMAP HB3
            by_cases hyc : yc = 0
            · subst hyc
              by_cases h1 : ak = 1
              · subst h1
                go_wp2_with (at_builtin; refine (wpList_append_run _ rfl (.tmp 51) (.tmp 53) 76 rfl u7 (.slice (some ⟨wr.heap.size, 0, none⟩) 1 1) rfl rfl (HAP.out _) ?_); rintro v8 w8 ⟨hown8, hmid⟩; have HO8 := Lib.hid hown8; have HM := Lib.hid hmid; have r0 := hmid.z0; have r1 := hmid.z1; have r2 := hmid.z2; have r3 := hmid.z3; have rp := hmid.p3; have l0 := hmid.live.p C hC4; have l1 := hmid.live.s C hC4; have l2 := hmid.live.c C hC4; have l3 := hmid.live.m C hC4; have lf := hmid.live.f; try rw [hmb] at l3; have q0 := (hmid.bel.cell (p := ⟨g, k * 5, none⟩) hg).trans HY.out.c; have q3 := (hmid.bel.cell (p := ⟨g, k * 5 + 3, none⟩) hg).trans HY.out.p; have q4 := (hmid.bel.cell (p := ⟨g, k * 5 + 4, none⟩) hg).trans HY.out.t; have hgw8 := hmid.live.lt; have hgx : g < w8.heap.size := Nat.lt_of_lt_of_le hg hmid.bel.size; rw [← HT.out] at l0 l1 l2; clear hown8 hmid)
                go_roundw
                case rel => exact ⟨k + 1, by omega, by go_num, (fun j => if j = C then some w8.heap.size else mb j), ds, _, owns_begin HM.out.own _ _, owns_begin HO8.out _ _, by rw [HDS.out, HG1.out]; dsimp only; rw [if_neg (by omega)], HSN'.out, by rw [HG1.out, show trackOf T ⟨1, ac, ay, av⟩ ⟨0, yi, yv, yp, yt⟩ = ⟨0, yt, 0, []⟩ from rfl]; exact HM.out.live.begin hC4 HTL.out yp yt, HM.out.cold.begin HM.out.live _ _, below_alloc (((((HM.out.bel.setCell (Nat.le_refl _) _).setCell (Nat.le_refl _) _).setCell (Nat.le_refl _) _).setCell (Nat.le_refl _) _).setCell (Nat.le_refl _) _) _, fun j b hj hb => by
                    dsimp only at hb
                    split at hb
                    · injection hb with hb; rw [← hb]; exact HM.out.bel.size
                    · exact HLO.out j b hj hb⟩
                case measure => simp [intOf]; omega
              · have e1 : (ak == 1) = false := by simpa using h1
                by_cases h3 : ak = 3
                · subst h3
                  have HINC := Lib.hid (HPT.out rfl rfl).2
                  go_wp2_with (at_builtin; refine (wpList_append_run _ rfl (.tmp 51) (.tmp 53) 76 rfl u7 (.slice (some ⟨wr.heap.size, 0, none⟩) 1 1) rfl rfl (HAP.out _) ?_); rintro v8 w8 ⟨hown8, hmid⟩; have HO8 := Lib.hid hown8; have HM := Lib.hid hmid; have r0 := hmid.z0; have r1 := hmid.z1; have r2 := hmid.z2; have r3 := hmid.z3; have rp := hmid.p3; have l0 := hmid.live.p C hC4; have l1 := hmid.live.s C hC4; have l2 := hmid.live.c C hC4; have l3 := hmid.live.m C hC4; have lf := hmid.live.f; try rw [hmb] at l3; have q0 := (hmid.bel.cell (p := ⟨g, k * 5, none⟩) hg).trans HY.out.c; have q3 := (hmid.bel.cell (p := ⟨g, k * 5 + 3, none⟩) hg).trans HY.out.p; have q4 := (hmid.bel.cell (p := ⟨g, k * 5 + 4, none⟩) hg).trans HY.out.t; have hgw8 := hmid.live.lt; have hgx : g < w8.heap.size := Nat.lt_of_lt_of_le hg hmid.bel.size; rw [← HT.out] at l0 l1 l2; clear hown8 hmid)
                  obtain ⟨D8, hD8, hI8⟩ := HM.out.live.yes C bt hC4 hmb
                  have nbA := HM.out.live.ne_map (HM.out.live.yes C bt hC4 hmb)
                  have nbx := map_ne_cell (HM.out.live.yes C bt hC4 hmb) q0
                  have nbq := map_ne_cell (HM.out.live.yes C bt hC4 hmb) r2
                  have hqx : wq.heap.size < w8.heap.size := World.block_lt_of_cell? w8 _ r2
                  have hI8' : MapIs D8 T.ws := by rw [HT.out]; exact hI8
                  have HI8 := Lib.hid hI8'
                  have HISM := Lib.hid hD8.isMap
                  obtain ⟨w9, hrun9, hown9, hg9⟩ := hD8.drew.update law_str Tryd.underlying79 (show k < maxLen by unfold maxLen; omega) (key_str HAOK.out.1) (plainElem_string (H := Unit) Tryd.underlying9 HAOK.out.2)
                  have q3' := (cell_but hg9 (k * 5 + 3) nbx hgx).trans (show w8.drew.cell? ⟨g, k * 5 + 3, none⟩ = _ from q3)
                  have l0' := (cell_but hg9 (C * 4) nbA hgw8).trans (show w8.drew.cell? ⟨w.heap.size, C * 4, none⟩ = _ from l0)
                  have l3' := (cell_but hg9 (C * 4 + 3) nbA hgw8).trans (show w8.drew.cell? ⟨w.heap.size, C * 4 + 3, none⟩ = _ from l3)
                  have r2' := (cell_but hg9 2 nbq hqx).trans (show w8.drew.cell? ⟨wq.heap.size, 2, none⟩ = _ from r2)
                  have r3' := (cell_but hg9 3 nbq hqx).trans (show w8.drew.cell? ⟨wq.heap.size, 3, none⟩ = _ from r3)
                  have lf' : ∀ o, w9.frozen? ⟨w.heap.size, o, none⟩ = false := fun o => (fr_block (hg9.block w.heap.size hgw8 (fun e => nbA (by injection e with e; exact e.symm))) o).trans (lf o)
                  have HG9 := Lib.hid hg9
                  have HO9 := Lib.hid hown9
                  have HLD := Lib.hid (HM.out.live.still (w' := w8.drew) (fun _ _ _ => rfl))
                  have HCDD := Lib.hid (HM.out.cold.still (w' := w8.drew) (gA := w.heap.size) (fun _ _ _ => rfl))
                  clear hD8 hI8 hI8' hg9 hown9
                  refine wp_region_held_drew (S := fun W => W.cell? ⟨w.heap.size, C * 4 + 3, none⟩ = some (.map (some bt)) ∧ W.cell? ⟨wq.heap.size, 2, none⟩ = some (.string ay) ∧ W.cell? ⟨wq.heap.size, 3, none⟩ = some (.string av)) (by kernel_rfl) ?_ (fun hHeld => ?_)
                  · exact ⟨l3, r2, r3⟩
                  (refine wpAnyH_take (i := 0) (oi := ?_) (v := ?_) ?_ (by kernel_rfl) ?_ ?_ ?_ ?_ (by assumption) ?_; rotate_left 2; (simp only [List.getElem?_toArray, List.getElem?_cons_zero]; rfl); kernel_rfl; kernel_rfl; exact fun _ _ _ h => h; (refine Or.inl ⟨by rfl, ?_⟩; intro w hSw; (try dsimp only at hSw); go_simp; (first | done | with_reducible rfl)); (try simp only [Act.put, List.setIfInBounds_toArray, List.set_cons_zero, List.set_cons_succ]))
                  (first | (refine wpAnyH_take (i := 1) (oi := ?_) (v := ?_) ?_ (by kernel_rfl) ?_ ?_ ?_ ?_ (by assumption) ?_; rotate_left 2; (simp only [List.getElem?_toArray, List.getElem?_cons_zero, List.getElem?_cons_succ]; rfl); kernel_rfl; kernel_rfl; exact fun _ _ _ h => h; (refine Or.inl ⟨by rfl, ?_⟩; intro w hSw; (try dsimp only at hSw); go_simp; (first | done | with_reducible rfl)); (try simp only [Act.put, List.setIfInBounds_toArray, List.set_cons_zero, List.set_cons_succ])) | (refine wpAnyH_take (i := 1) (oi := ?_) (v := undef) ?_ (by kernel_rfl) ?_ ?_ ?_ ?_ (by assumption) ?_; rotate_left 1; (simp only [List.getElem?_toArray, List.getElem?_cons_zero, List.getElem?_cons_succ]; rfl); kernel_rfl; kernel_rfl; exact fun _ _ _ h => h; exact Or.inr ⟨by rfl, rfl⟩; (try simp only [Act.put, List.setIfInBounds_toArray, List.set_cons_zero, List.set_cons_succ])))
                  (first | (refine wpAnyH_take (i := 2) (oi := ?_) (v := ?_) ?_ (by kernel_rfl) ?_ ?_ ?_ ?_ (by assumption) ?_; rotate_left 2; (simp only [List.getElem?_toArray, List.getElem?_cons_zero, List.getElem?_cons_succ]; rfl); kernel_rfl; kernel_rfl; exact fun _ _ _ h => h; (refine Or.inl ⟨by rfl, ?_⟩; intro w hSw; (try dsimp only at hSw); go_simp; (first | done | with_reducible rfl)); (try simp only [Act.put, List.setIfInBounds_toArray, List.set_cons_zero, List.set_cons_succ])) | (refine wpAnyH_take (i := 2) (oi := ?_) (v := undef) ?_ (by kernel_rfl) ?_ ?_ ?_ ?_ (by assumption) ?_; rotate_left 1; (simp only [List.getElem?_toArray, List.getElem?_cons_zero, List.getElem?_cons_succ]; rfl); kernel_rfl; kernel_rfl; exact fun _ _ _ h => h; exact Or.inr ⟨by rfl, rfl⟩; (try simp only [Act.put, List.setIfInBounds_toArray, List.set_cons_zero, List.set_cons_succ])))
                  (first | (refine wpAnyH_take (i := 3) (oi := ?_) (v := ?_) ?_ (by kernel_rfl) ?_ ?_ ?_ ?_ (by assumption) ?_; rotate_left 2; (simp only [List.getElem?_toArray, List.getElem?_cons_zero, List.getElem?_cons_succ]; rfl); kernel_rfl; kernel_rfl; exact fun _ _ _ h => h; (refine Or.inl ⟨by rfl, ?_⟩; intro w hSw; (try dsimp only at hSw); go_simp; (first | done | with_reducible rfl)); (try simp only [Act.put, List.setIfInBounds_toArray, List.set_cons_zero, List.set_cons_succ])) | (refine wpAnyH_take (i := 3) (oi := ?_) (v := undef) ?_ (by kernel_rfl) ?_ ?_ ?_ ?_ (by assumption) ?_; rotate_left 1; (simp only [List.getElem?_toArray, List.getElem?_cons_zero, List.getElem?_cons_succ]; rfl); kernel_rfl; kernel_rfl; exact fun _ _ _ h => h; exact Or.inr ⟨by rfl, rfl⟩; (try simp only [Act.put, List.setIfInBounds_toArray, List.set_cons_zero, List.set_cons_succ])))
                  (first | (refine wpAnyH_take (i := 4) (oi := ?_) (v := ?_) ?_ (by kernel_rfl) ?_ ?_ ?_ ?_ (by assumption) ?_; rotate_left 2; (simp only [List.getElem?_toArray, List.getElem?_cons_zero, List.getElem?_cons_succ]; rfl); kernel_rfl; kernel_rfl; exact fun _ _ _ h => h; (refine Or.inl ⟨by rfl, ?_⟩; intro w hSw; (try dsimp only at hSw); go_simp; (first | done | with_reducible rfl)); (try simp only [Act.put, List.setIfInBounds_toArray, List.set_cons_zero, List.set_cons_succ])) | (refine wpAnyH_take (i := 4) (oi := ?_) (v := undef) ?_ (by kernel_rfl) ?_ ?_ ?_ ?_ (by assumption) ?_; rotate_left 1; (simp only [List.getElem?_toArray, List.getElem?_cons_zero, List.getElem?_cons_succ]; rfl); kernel_rfl; kernel_rfl; exact fun _ _ _ h => h; exact Or.inr ⟨by rfl, rfl⟩; (try simp only [Act.put, List.setIfInBounds_toArray, List.set_cons_zero, List.set_cons_succ])))
                  (first | (refine wpAnyH_take (i := 5) (oi := ?_) (v := ?_) ?_ (by kernel_rfl) ?_ ?_ ?_ ?_ (by assumption) ?_; rotate_left 2; (simp only [List.getElem?_toArray, List.getElem?_cons_zero, List.getElem?_cons_succ]; rfl); kernel_rfl; kernel_rfl; exact fun _ _ _ h => h; (refine Or.inl ⟨by rfl, ?_⟩; intro w hSw; (try dsimp only at hSw); go_simp; (first | done | with_reducible rfl)); (try simp only [Act.put, List.setIfInBounds_toArray, List.set_cons_zero, List.set_cons_succ])) | (refine wpAnyH_take (i := 5) (oi := ?_) (v := undef) ?_ (by kernel_rfl) ?_ ?_ ?_ ?_ (by assumption) ?_; rotate_left 1; (simp only [List.getElem?_toArray, List.getElem?_cons_zero, List.getElem?_cons_succ]; rfl); kernel_rfl; kernel_rfl; exact fun _ _ _ h => h; exact Or.inr ⟨by rfl, rfl⟩; (try simp only [Act.put, List.setIfInBounds_toArray, List.set_cons_zero, List.set_cons_succ])))
                  (first | (refine wpAnyH_take (i := 6) (oi := ?_) (v := ?_) ?_ (by kernel_rfl) ?_ ?_ ?_ ?_ (by assumption) ?_; rotate_left 2; (simp only [List.getElem?_toArray, List.getElem?_cons_zero, List.getElem?_cons_succ]; rfl); kernel_rfl; kernel_rfl; exact fun _ _ _ h => h; (refine Or.inl ⟨by rfl, ?_⟩; intro w hSw; (try dsimp only at hSw); go_simp; (first | done | with_reducible rfl)); (try simp only [Act.put, List.setIfInBounds_toArray, List.set_cons_zero, List.set_cons_succ])) | (refine wpAnyH_take (i := 6) (oi := ?_) (v := undef) ?_ (by kernel_rfl) ?_ ?_ ?_ ?_ (by assumption) ?_; rotate_left 1; (simp only [List.getElem?_toArray, List.getElem?_cons_zero, List.getElem?_cons_succ]; rfl); kernel_rfl; kernel_rfl; exact fun _ _ _ h => h; exact Or.inr ⟨by rfl, rfl⟩; (try simp only [Act.put, List.setIfInBounds_toArray, List.set_cons_zero, List.set_cons_succ])))
                  (first | (refine wpAnyH_take (i := 7) (oi := ?_) (v := ?_) ?_ (by kernel_rfl) ?_ ?_ ?_ ?_ (by assumption) ?_; rotate_left 2; (simp only [List.getElem?_toArray, List.getElem?_cons_zero, List.getElem?_cons_succ]; rfl); kernel_rfl; kernel_rfl; exact fun _ _ _ h => h; (refine Or.inl ⟨by rfl, ?_⟩; intro w hSw; (try dsimp only at hSw); go_simp; (first | done | with_reducible rfl)); (try simp only [Act.put, List.setIfInBounds_toArray, List.set_cons_zero, List.set_cons_succ])) | (refine wpAnyH_take (i := 7) (oi := ?_) (v := undef) ?_ (by kernel_rfl) ?_ ?_ ?_ ?_ (by assumption) ?_; rotate_left 1; (simp only [List.getElem?_toArray, List.getElem?_cons_zero, List.getElem?_cons_succ]; rfl); kernel_rfl; kernel_rfl; exact fun _ _ _ h => h; exact Or.inr ⟨by rfl, rfl⟩; (try simp only [Act.put, List.setIfInBounds_toArray, List.set_cons_zero, List.set_cons_succ])))
                  (refine wpAnyH_ready (rs := [8]) (by kernel_rfl) (by simp) ?_; refine AllReadyH.cons (o := ?_) ?_ (fun K hK => ?_) AllReadyH.nil; rotate_left 1; (simp only [List.getElem?_toArray, List.getElem?_cons_zero, List.getElem?_cons_succ]; rfl); go_simp)
                  clear hHeld
                  (refine hK.out _ _ ?_ (fun hHeld => ?_); exact ⟨l3', r2', r3'⟩; clear hK K)
                  refine wpAnyH_done (by kernel_rfl) ?_ _
                  clear hHeld
                  go_wp2
                  go_roundw
                  case rel => exact ⟨k + 1, by omega, by go_num, mb, ds, _, owns_store (owns_map (HM.out.own.blk (w' := w8.drew) (fun _ _ _ => rfl)) (HLD.out.yes C bt hC4 hmb).obj HG9.out) _ _, owns_store (owns_map (HO8.out.blk (w' := w8.drew) (fun _ _ _ => rfl)) (HLD.out.yes C bt hC4 hmb).obj HG9.out) _ _, by rw [HDS.out, HG1.out]; dsimp only; rw [if_neg (by omega)], HSN'.out, by rw [HG1.out, show trackOf T ⟨3, ac, ay, av⟩ ⟨0, yi, yv, yp, yt⟩ = { T with ws := putWs T.ws ay av } from rfl]; exact HLD.out.put hC4 HTL.out HT.out hmb HG9.out HO9.out HI8.out HISM.out HINC.out yp, HCDD.out.put HLD.out hC4 hmb HG9.out _ _, ((below_drew HM.out.bel).grown HG9.out (below_drew HM.out.bel).size (fun j hj => by cases hj; exact HLO.out C bt hC4 hmb)).setCell (Nat.le_refl _) _, HLO.out⟩
                  case measure => simp [intOf]; omega
                · have e3 : (ak == 3) = false := by simpa using h3
                  have HZR := Lib.hid (show mb C = none → yp = 0 from fun hn => HZ0.out hn (fun hh => h1 hh.1))
                  by_cases h4 : ak = 4
                  · subst h4
                    by_cases ht0 : yt = 0
                    · subst ht0
                      by_cases hp3 : T.ph = 3
                      ·
                        have HAP3 := Lib.hid HAP.out
                        rw [hp3] at HAP3
                        go_wp2_with (at_builtin; refine (wpList_append_run _ rfl (.tmp 51) (.tmp 53) 76 rfl u7 (.slice (some ⟨wr.heap.size, 0, none⟩) 1 1) rfl rfl (HAP3.out _) ?_); rintro v8 w8 ⟨hown8, hmid⟩; have HO8 := Lib.hid hown8; have HM := Lib.hid hmid; have r0 := hmid.z0; have r1 := hmid.z1; have r2 := hmid.z2; have r3 := hmid.z3; have rp := hmid.p3; have l0 := hmid.live.p C hC4; have l1 := hmid.live.s C hC4; have l2 := hmid.live.c C hC4; have l3 := hmid.live.m C hC4; have lf := hmid.live.f; try rw [hmb] at l3; have q0 := (hmid.bel.cell (p := ⟨g, k * 5, none⟩) hg).trans HY.out.c; have q3 := (hmid.bel.cell (p := ⟨g, k * 5 + 3, none⟩) hg).trans HY.out.p; have q4 := (hmid.bel.cell (p := ⟨g, k * 5 + 4, none⟩) hg).trans HY.out.t; have hgw8 := hmid.live.lt; have hgx : g < w8.heap.size := Nat.lt_of_lt_of_le hg hmid.bel.size; rw [← HT.out] at l0 l1 l2; clear hown8 hmid)
                        have HVL := Lib.hid HM.out.live
                        have HVC := Lib.hid HM.out.cold
                        have HVD := Lib.hid HM.out.own
                        have HVT := Lib.hid HO8.out
                        have HVB := Lib.hid HM.out.bel
                        have HVM := Lib.hid HM.out.map
                        have vc := l2
                        have v0 := l0
                        have v1 := l1
                        have vm := rp
                        have v3 := q3
                        have vf := lf
                        have hVs := hgw8
                        have HTV := Lib.hid HT.out
                        have HTLV := Lib.hid HTL.out
                        obtain ⟨V, hV⟩ : ∃ V, V = w8 := ⟨_, rfl⟩
                        rw [← hV] at HVL HVC HVD HVT HVB HVM vc v0 v1 vm v3 vf hVs hgx ⊢
                        have hq8 : wq.heap.size + 1 < V.heap.size := World.block_lt_of_cell? V _ vm
                        clear hV
                        have hdl : ds.length ≤ 400 := by
                          rw [← List.length_map (f := Prod.fst), HDS.out]
                          exact Nat.le_trans (ghost_few l x k) (by omega)
                        have HAPD := Lib.hid (show ∀ ty : TypeId, ∃ v' w', (Builtin.append_ #[75, 75] ty #[u6, .slice (some ⟨V.heap.size, 0, none⟩) 1 1]).run Tryd.prog (V.drew.alloc (.cells #[.int .i64 T.st, .int .i64 T.cm, .int .i64 k, .map (some (wq.heap.size + 1 + 1))] 85)) = .ok v' w' ∧ dealCells.Owns w' (w.heap.size + 1) 85 v' (ds ++ [(⟨T.st, T.cm, k, T.ws⟩, wq.heap.size + 1 + 1)]) ∧ (V.drew.alloc (.cells #[.int .i64 T.st, .int .i64 T.cm, .int .i64 k, .map (some (wq.heap.size + 1 + 1))] 85)).grownBy w' u6.ownBlock from fun ty => by
                          obtain ⟨i0, hi0, hz0, hz1, hz2⟩ := info_parts deal_info
                          exact app_one (C := dealCells) (ty := ty) (bytes := 32) Tryd.underlying75 hi0 hz0 hz1 hz2 rfl V.drew (w.heap.size + 1) u6 ds (⟨T.st, T.cm, k, T.ws⟩, wq.heap.size + 1 + 1) (HVD.out.blk (w' := V.drew) (fun _ _ _ => rfl)) (by omega) (by omega) (show w.heap.size + 1 ≤ V.heap.size by omega))
                        have HNB := Lib.hid (show ∀ bk, u6.ownBlock = some bk → w.heap.size + 1 ≤ bk ∧ bk < wq.heap.size from fun bk hbk => ⟨(owns_tag HOD.out bk hbk).1, (owns_tag HOD.out bk hbk).2.1⟩)
                        have HFR := Lib.hid HM.out.fresh
                        clear l0 l1 l2 l3 lf r0 r1 r2 r3 rp q0 q3 q4 hgw8
                        refine wp_region_held_drew (S := fun W => W.cell? ⟨w.heap.size, C * 4 + 1, none⟩ = some (.int .i64 T.st) ∧ W.cell? ⟨w.heap.size, C * 4 + 2, none⟩ = some (.int .i64 T.cm) ∧ W.cell? ⟨wq.heap.size + 1, 3, none⟩ = some (.map (some (wq.heap.size + 1 + 1)))) (by kernel_rfl) ?_ (fun hHeld => ?_)
                        · exact ⟨v1, vc, vm⟩
                        (refine wpAnyH_take (i := 0) (oi := ?_) (v := ?_) ?_ (by kernel_rfl) ?_ ?_ ?_ ?_ (by assumption) ?_; rotate_left 2; (simp only [List.getElem?_toArray, List.getElem?_cons_zero]; rfl); kernel_rfl; kernel_rfl; exact fun _ _ _ h => h; (refine Or.inl ⟨by rfl, ?_⟩; intro w hSw; (try dsimp only at hSw); go_simp; (first | done | with_reducible rfl)); (try simp only [Act.put, List.setIfInBounds_toArray, List.set_cons_zero, List.set_cons_succ]))
                        (first | (refine wpAnyH_take (i := 1) (oi := ?_) (v := ?_) ?_ (by kernel_rfl) ?_ ?_ ?_ ?_ (by assumption) ?_; rotate_left 2; (simp only [List.getElem?_toArray, List.getElem?_cons_zero, List.getElem?_cons_succ]; rfl); kernel_rfl; kernel_rfl; exact fun _ _ _ h => h; (refine Or.inl ⟨by rfl, ?_⟩; intro w hSw; (try dsimp only at hSw); go_simp; (first | done | with_reducible rfl)); (try simp only [Act.put, List.setIfInBounds_toArray, List.set_cons_zero, List.set_cons_succ])) | (refine wpAnyH_take (i := 1) (oi := ?_) (v := undef) ?_ (by kernel_rfl) ?_ ?_ ?_ ?_ (by assumption) ?_; rotate_left 1; (simp only [List.getElem?_toArray, List.getElem?_cons_zero, List.getElem?_cons_succ]; rfl); kernel_rfl; kernel_rfl; exact fun _ _ _ h => h; exact Or.inr ⟨by rfl, rfl⟩; (try simp only [Act.put, List.setIfInBounds_toArray, List.set_cons_zero, List.set_cons_succ])))
                        (first | (refine wpAnyH_take (i := 2) (oi := ?_) (v := ?_) ?_ (by kernel_rfl) ?_ ?_ ?_ ?_ (by assumption) ?_; rotate_left 2; (simp only [List.getElem?_toArray, List.getElem?_cons_zero, List.getElem?_cons_succ]; rfl); kernel_rfl; kernel_rfl; exact fun _ _ _ h => h; (refine Or.inl ⟨by rfl, ?_⟩; intro w hSw; (try dsimp only at hSw); go_simp; (first | done | with_reducible rfl)); (try simp only [Act.put, List.setIfInBounds_toArray, List.set_cons_zero, List.set_cons_succ])) | (refine wpAnyH_take (i := 2) (oi := ?_) (v := undef) ?_ (by kernel_rfl) ?_ ?_ ?_ ?_ (by assumption) ?_; rotate_left 1; (simp only [List.getElem?_toArray, List.getElem?_cons_zero, List.getElem?_cons_succ]; rfl); kernel_rfl; kernel_rfl; exact fun _ _ _ h => h; exact Or.inr ⟨by rfl, rfl⟩; (try simp only [Act.put, List.setIfInBounds_toArray, List.set_cons_zero, List.set_cons_succ])))
                        (first | (refine wpAnyH_take (i := 3) (oi := ?_) (v := ?_) ?_ (by kernel_rfl) ?_ ?_ ?_ ?_ (by assumption) ?_; rotate_left 2; (simp only [List.getElem?_toArray, List.getElem?_cons_zero, List.getElem?_cons_succ]; rfl); kernel_rfl; kernel_rfl; exact fun _ _ _ h => h; (refine Or.inl ⟨by rfl, ?_⟩; intro w hSw; (try dsimp only at hSw); go_simp; (first | done | with_reducible rfl)); (try simp only [Act.put, List.setIfInBounds_toArray, List.set_cons_zero, List.set_cons_succ])) | (refine wpAnyH_take (i := 3) (oi := ?_) (v := undef) ?_ (by kernel_rfl) ?_ ?_ ?_ ?_ (by assumption) ?_; rotate_left 1; (simp only [List.getElem?_toArray, List.getElem?_cons_zero, List.getElem?_cons_succ]; rfl); kernel_rfl; kernel_rfl; exact fun _ _ _ h => h; exact Or.inr ⟨by rfl, rfl⟩; (try simp only [Act.put, List.setIfInBounds_toArray, List.set_cons_zero, List.set_cons_succ])))
                        (first | (refine wpAnyH_take (i := 4) (oi := ?_) (v := ?_) ?_ (by kernel_rfl) ?_ ?_ ?_ ?_ (by assumption) ?_; rotate_left 2; (simp only [List.getElem?_toArray, List.getElem?_cons_zero, List.getElem?_cons_succ]; rfl); kernel_rfl; kernel_rfl; exact fun _ _ _ h => h; (refine Or.inl ⟨by rfl, ?_⟩; intro w hSw; (try dsimp only at hSw); go_simp; (first | done | with_reducible rfl)); (try simp only [Act.put, List.setIfInBounds_toArray, List.set_cons_zero, List.set_cons_succ])) | (refine wpAnyH_take (i := 4) (oi := ?_) (v := undef) ?_ (by kernel_rfl) ?_ ?_ ?_ ?_ (by assumption) ?_; rotate_left 1; (simp only [List.getElem?_toArray, List.getElem?_cons_zero, List.getElem?_cons_succ]; rfl); kernel_rfl; kernel_rfl; exact fun _ _ _ h => h; exact Or.inr ⟨by rfl, rfl⟩; (try simp only [Act.put, List.setIfInBounds_toArray, List.set_cons_zero, List.set_cons_succ])))
                        (first | (refine wpAnyH_take (i := 5) (oi := ?_) (v := ?_) ?_ (by kernel_rfl) ?_ ?_ ?_ ?_ (by assumption) ?_; rotate_left 2; (simp only [List.getElem?_toArray, List.getElem?_cons_zero, List.getElem?_cons_succ]; rfl); kernel_rfl; kernel_rfl; exact fun _ _ _ h => h; (refine Or.inl ⟨by rfl, ?_⟩; intro w hSw; (try dsimp only at hSw); go_simp; (first | done | with_reducible rfl)); (try simp only [Act.put, List.setIfInBounds_toArray, List.set_cons_zero, List.set_cons_succ])) | (refine wpAnyH_take (i := 5) (oi := ?_) (v := undef) ?_ (by kernel_rfl) ?_ ?_ ?_ ?_ (by assumption) ?_; rotate_left 1; (simp only [List.getElem?_toArray, List.getElem?_cons_zero, List.getElem?_cons_succ]; rfl); kernel_rfl; kernel_rfl; exact fun _ _ _ h => h; exact Or.inr ⟨by rfl, rfl⟩; (try simp only [Act.put, List.setIfInBounds_toArray, List.set_cons_zero, List.set_cons_succ])))
                        (first | (refine wpAnyH_take (i := 6) (oi := ?_) (v := ?_) ?_ (by kernel_rfl) ?_ ?_ ?_ ?_ (by assumption) ?_; rotate_left 2; (simp only [List.getElem?_toArray, List.getElem?_cons_zero, List.getElem?_cons_succ]; rfl); kernel_rfl; kernel_rfl; exact fun _ _ _ h => h; (refine Or.inl ⟨by rfl, ?_⟩; intro w hSw; (try dsimp only at hSw); go_simp; (first | done | with_reducible rfl)); (try simp only [Act.put, List.setIfInBounds_toArray, List.set_cons_zero, List.set_cons_succ])) | (refine wpAnyH_take (i := 6) (oi := ?_) (v := undef) ?_ (by kernel_rfl) ?_ ?_ ?_ ?_ (by assumption) ?_; rotate_left 1; (simp only [List.getElem?_toArray, List.getElem?_cons_zero, List.getElem?_cons_succ]; rfl); kernel_rfl; kernel_rfl; exact fun _ _ _ h => h; exact Or.inr ⟨by rfl, rfl⟩; (try simp only [Act.put, List.setIfInBounds_toArray, List.set_cons_zero, List.set_cons_succ])))
                        (first | (refine wpAnyH_take (i := 7) (oi := ?_) (v := ?_) ?_ (by kernel_rfl) ?_ ?_ ?_ ?_ (by assumption) ?_; rotate_left 2; (simp only [List.getElem?_toArray, List.getElem?_cons_zero, List.getElem?_cons_succ]; rfl); kernel_rfl; kernel_rfl; exact fun _ _ _ h => h; (refine Or.inl ⟨by rfl, ?_⟩; intro w hSw; (try dsimp only at hSw); go_simp; (first | done | with_reducible rfl)); (try simp only [Act.put, List.setIfInBounds_toArray, List.set_cons_zero, List.set_cons_succ])) | (refine wpAnyH_take (i := 7) (oi := ?_) (v := undef) ?_ (by kernel_rfl) ?_ ?_ ?_ ?_ (by assumption) ?_; rotate_left 1; (simp only [List.getElem?_toArray, List.getElem?_cons_zero, List.getElem?_cons_succ]; rfl); kernel_rfl; kernel_rfl; exact fun _ _ _ h => h; exact Or.inr ⟨by rfl, rfl⟩; (try simp only [Act.put, List.setIfInBounds_toArray, List.set_cons_zero, List.set_cons_succ])))
                        (first | (refine wpAnyH_take (i := 8) (oi := ?_) (v := ?_) ?_ (by kernel_rfl) ?_ ?_ ?_ ?_ (by assumption) ?_; rotate_left 2; (simp only [List.getElem?_toArray, List.getElem?_cons_zero, List.getElem?_cons_succ]; rfl); kernel_rfl; kernel_rfl; exact fun _ _ _ h => h; (refine Or.inl ⟨by rfl, ?_⟩; intro w hSw; (try dsimp only at hSw); go_simp; (first | done | with_reducible rfl)); (try simp only [Act.put, List.setIfInBounds_toArray, List.set_cons_zero, List.set_cons_succ])) | (refine wpAnyH_take (i := 8) (oi := ?_) (v := undef) ?_ (by kernel_rfl) ?_ ?_ ?_ ?_ (by assumption) ?_; rotate_left 1; (simp only [List.getElem?_toArray, List.getElem?_cons_zero, List.getElem?_cons_succ]; rfl); kernel_rfl; kernel_rfl; exact fun _ _ _ h => h; exact Or.inr ⟨by rfl, rfl⟩; (try simp only [Act.put, List.setIfInBounds_toArray, List.set_cons_zero, List.set_cons_succ])))
                        (first | (refine wpAnyH_take (i := 9) (oi := ?_) (v := ?_) ?_ (by kernel_rfl) ?_ ?_ ?_ ?_ (by assumption) ?_; rotate_left 2; (simp only [List.getElem?_toArray, List.getElem?_cons_zero, List.getElem?_cons_succ]; rfl); kernel_rfl; kernel_rfl; exact fun _ _ _ h => h; (refine Or.inl ⟨by rfl, ?_⟩; intro w hSw; (try dsimp only at hSw); go_simp; (first | done | with_reducible rfl)); (try simp only [Act.put, List.setIfInBounds_toArray, List.set_cons_zero, List.set_cons_succ])) | (refine wpAnyH_take (i := 9) (oi := ?_) (v := undef) ?_ (by kernel_rfl) ?_ ?_ ?_ ?_ (by assumption) ?_; rotate_left 1; (simp only [List.getElem?_toArray, List.getElem?_cons_zero, List.getElem?_cons_succ]; rfl); kernel_rfl; kernel_rfl; exact fun _ _ _ h => h; exact Or.inr ⟨by rfl, rfl⟩; (try simp only [Act.put, List.setIfInBounds_toArray, List.set_cons_zero, List.set_cons_succ])))
                        (first | (refine wpAnyH_take (i := 10) (oi := ?_) (v := ?_) ?_ (by kernel_rfl) ?_ ?_ ?_ ?_ (by assumption) ?_; rotate_left 2; (simp only [List.getElem?_toArray, List.getElem?_cons_zero, List.getElem?_cons_succ]; rfl); kernel_rfl; kernel_rfl; exact fun _ _ _ h => h; (refine Or.inl ⟨by rfl, ?_⟩; intro w hSw; (try dsimp only at hSw); go_simp; (first | done | with_reducible rfl)); (try simp only [Act.put, List.setIfInBounds_toArray, List.set_cons_zero, List.set_cons_succ])) | (refine wpAnyH_take (i := 10) (oi := ?_) (v := undef) ?_ (by kernel_rfl) ?_ ?_ ?_ ?_ (by assumption) ?_; rotate_left 1; (simp only [List.getElem?_toArray, List.getElem?_cons_zero, List.getElem?_cons_succ]; rfl); kernel_rfl; kernel_rfl; exact fun _ _ _ h => h; exact Or.inr ⟨by rfl, rfl⟩; (try simp only [Act.put, List.setIfInBounds_toArray, List.set_cons_zero, List.set_cons_succ])))
                        (first | (refine wpAnyH_take (i := 11) (oi := ?_) (v := ?_) ?_ (by kernel_rfl) ?_ ?_ ?_ ?_ (by assumption) ?_; rotate_left 2; (simp only [List.getElem?_toArray, List.getElem?_cons_zero, List.getElem?_cons_succ]; rfl); kernel_rfl; kernel_rfl; exact fun _ _ _ h => h; (refine Or.inl ⟨by rfl, ?_⟩; intro w hSw; (try dsimp only at hSw); go_simp; (first | done | with_reducible rfl)); (try simp only [Act.put, List.setIfInBounds_toArray, List.set_cons_zero, List.set_cons_succ])) | (refine wpAnyH_take (i := 11) (oi := ?_) (v := undef) ?_ (by kernel_rfl) ?_ ?_ ?_ ?_ (by assumption) ?_; rotate_left 1; (simp only [List.getElem?_toArray, List.getElem?_cons_zero, List.getElem?_cons_succ]; rfl); kernel_rfl; kernel_rfl; exact fun _ _ _ h => h; exact Or.inr ⟨by rfl, rfl⟩; (try simp only [Act.put, List.setIfInBounds_toArray, List.set_cons_zero, List.set_cons_succ])))
                        (first | (refine wpAnyH_take (i := 12) (oi := ?_) (v := ?_) ?_ (by kernel_rfl) ?_ ?_ ?_ ?_ (by assumption) ?_; rotate_left 2; (simp only [List.getElem?_toArray, List.getElem?_cons_zero, List.getElem?_cons_succ]; rfl); kernel_rfl; kernel_rfl; exact fun _ _ _ h => h; (refine Or.inl ⟨by rfl, ?_⟩; intro w hSw; (try dsimp only at hSw); go_simp; (first | done | with_reducible rfl)); (try simp only [Act.put, List.setIfInBounds_toArray, List.set_cons_zero, List.set_cons_succ])) | (refine wpAnyH_take (i := 12) (oi := ?_) (v := undef) ?_ (by kernel_rfl) ?_ ?_ ?_ ?_ (by assumption) ?_; rotate_left 1; (simp only [List.getElem?_toArray, List.getElem?_cons_zero, List.getElem?_cons_succ]; rfl); kernel_rfl; kernel_rfl; exact fun _ _ _ h => h; exact Or.inr ⟨by rfl, rfl⟩; (try simp only [Act.put, List.setIfInBounds_toArray, List.set_cons_zero, List.set_cons_succ])))
                        (refine wpAnyH_ready (rs := [13]) (by kernel_rfl) (by simp) ?_; refine AllReadyH.cons (o := ?_) ?_ (fun K hK => ?_) AllReadyH.nil; rotate_left 1; (simp only [List.getElem?_toArray, List.getElem?_cons_zero, List.getElem?_cons_succ]; rfl); go_simp)
                        clear hHeld
                        (refine hK.out _ _ ?_ (fun hHeld => ?_); exact ⟨((below_alloc (Below.refl _ V.drew) _).cell (p := ⟨w.heap.size, C * 4 + 1, none⟩) hVs).trans v1, ((below_alloc (Below.refl _ V.drew) _).cell (p := ⟨w.heap.size, C * 4 + 2, none⟩) hVs).trans vc, ((below_alloc (Below.refl _ V.drew) _).cell (p := ⟨wq.heap.size + 1, 3, none⟩) hq8).trans vm⟩; clear hK K)
                        refine wpAnyH_ready (rs := [14]) (by kernel_rfl) (by simp) ?_
                        refine AllReadyH.cons (o := ?_) ?_ (fun K hK => ?_) AllReadyH.nil
                        rotate_left 1
                        · (simp only [List.getElem?_toArray, List.getElem?_cons_zero, List.getElem?_cons_succ]; rfl)
                        refine step_append_run _ rfl (.tmp 105) (.tmp 118) 75 rfl u6 (.slice (some ⟨V.heap.size, 0, none⟩) 1 1) rfl rfl (HAPD.out _) ?_
                        rintro v10 w10 ⟨hown10, hg10⟩
                        obtain ⟨nq, hnq⟩ := HVM.out
                        obtain ⟨m1, m2, m3, m4, m5⟩ := comm_deal (V := V.drew) (d := ⟨T.st, T.cm, k, T.ws⟩) (HVL.out.still (w' := V.drew) (fun _ _ _ => rfl)) (HVC.out.still (w' := V.drew) (gA := w.heap.size) (fun _ _ _ => rfl)) (HVD.out.blk (w' := V.drew) (fun _ _ _ => rfl)) (HVT.out.blk (w' := V.drew) (fun _ _ _ => rfl)) (below_drew HVB.out) (MapAt.blk (w' := V.drew) hnq rfl) HFR.out hg10
                        have M1 := Lib.hid m1
                        have M2 := Lib.hid m2
                        have M3 := Lib.hid m3
                        have M4 := Lib.hid m4
                        have MO := Lib.hid hown10
                        have s1 := (m5 w.heap.size (C * 4 + 1) hVs (fun e => by have := (HNB.out _ e).1; omega)).trans v1
                        have s2 := (m5 w.heap.size (C * 4 + 2) hVs (fun e => by have := (HNB.out _ e).1; omega)).trans vc
                        have s3 := (m5 (wq.heap.size + 1) 3 hq8 (fun e => by have := (HNB.out _ e).2; omega)).trans vm
                        have s0 := (m5 w.heap.size (C * 4) hVs (fun e => by have := (HNB.out _ e).1; omega)).trans v0
                        have sq := (m5 g (k * 5 + 3) hgx (fun e => by have := (HNB.out _ e).1; omega)).trans v3
                        have sf := m1.f
                        clear m1 m2 m3 m4 m5 hown10 hg10 hnq vc v0 v1 vm v3 vf
                        clear hHeld
                        (refine hK.out _ _ ?_ (fun hHeld => ?_); exact ⟨s1, s2, s3⟩; clear hK K)
                        (first | (refine wpAnyH_take (i := 15) (oi := ?_) (v := ?_) ?_ (by kernel_rfl) ?_ ?_ ?_ ?_ (by assumption) ?_; rotate_left 2; (simp only [List.getElem?_toArray, List.getElem?_cons_zero, List.getElem?_cons_succ]; rfl); kernel_rfl; kernel_rfl; exact fun _ _ _ h => h; (refine Or.inl ⟨by rfl, ?_⟩; intro w hSw; (try dsimp only at hSw); go_simp; (first | done | with_reducible rfl)); (try simp only [Act.put, List.setIfInBounds_toArray, List.set_cons_zero, List.set_cons_succ])) | (refine wpAnyH_take (i := 15) (oi := ?_) (v := undef) ?_ (by kernel_rfl) ?_ ?_ ?_ ?_ (by assumption) ?_; rotate_left 1; (simp only [List.getElem?_toArray, List.getElem?_cons_zero, List.getElem?_cons_succ]; rfl); kernel_rfl; kernel_rfl; exact fun _ _ _ h => h; exact Or.inr ⟨by rfl, rfl⟩; (try simp only [Act.put, List.setIfInBounds_toArray, List.set_cons_zero, List.set_cons_succ])))
                        refine wpAnyH_done (by kernel_rfl) ?_ _
                        clear hHeld
                        go_wp2
                        go_roundw
                        case rel =>
                          have hp := M1.out.phase hC4 HTLV.out HTV.out yp HZR.out
                          exact ⟨k + 1, by omega, by go_num, mb, _, _, owns_store MO.out _ _, owns_store M3.out _ _, by rw [List.map_append, HDS.out, HG1.out]; dsimp only; rw [if_pos (by simp [hp3]), show trackOf T ⟨4, ac, ay, av⟩ ⟨0, yi, yv, yp, 0⟩ = T from rfl]; rfl, HSN'.out, by rw [HG1.out, show trackOf T ⟨4, ac, ay, av⟩ ⟨0, yi, yv, yp, 0⟩ = T from rfl]; exact hp, M2.out.store M1.out _ _, M4.out.setCell (Nat.le_refl _) _, HLO.out⟩
                        case measure => simp [intOf]; omega
                      · have g3 : (T.ph == 3) = false := by simpa using hp3
                        go_wp2_with (at_builtin; refine (wpList_append_run _ rfl (.tmp 51) (.tmp 53) 76 rfl u7 (.slice (some ⟨wr.heap.size, 0, none⟩) 1 1) rfl rfl (HAP.out _) ?_); rintro v8 w8 ⟨hown8, hmid⟩; have HO8 := Lib.hid hown8; have HM := Lib.hid hmid; have r0 := hmid.z0; have r1 := hmid.z1; have r2 := hmid.z2; have r3 := hmid.z3; have rp := hmid.p3; have l0 := hmid.live.p C hC4; have l1 := hmid.live.s C hC4; have l2 := hmid.live.c C hC4; have l3 := hmid.live.m C hC4; have lf := hmid.live.f; try rw [hmb] at l3; have q0 := (hmid.bel.cell (p := ⟨g, k * 5, none⟩) hg).trans HY.out.c; have q3 := (hmid.bel.cell (p := ⟨g, k * 5 + 3, none⟩) hg).trans HY.out.p; have q4 := (hmid.bel.cell (p := ⟨g, k * 5 + 4, none⟩) hg).trans HY.out.t; have hgw8 := hmid.live.lt; have hgx : g < w8.heap.size := Nat.lt_of_lt_of_le hg hmid.bel.size; rw [← HT.out] at l0 l1 l2; clear hown8 hmid)
                        go_roundw
                        case rel => exact ⟨k + 1, by omega, by go_num, mb, ds, _, owns_store HM.out.own _ _, owns_store HO8.out _ _, by rw [HDS.out, HG1.out]; dsimp only; rw [if_neg (fun hh => hp3 hh.2.2)], HSN'.out, by rw [HG1.out]; rw [show trackOf T ⟨4, ac, ay, av⟩ ⟨0, yi, yv, yp, 0⟩ = T from rfl]; exact HM.out.live.phase hC4 HTL.out HT.out yp HZR.out, HM.out.cold.store HM.out.live _ _, HM.out.bel.setCell (Nat.le_refl _) _, HLO.out⟩
                        case measure => simp [intOf]; omega
                    · have gt : (yt != 0) = true := by simpa using ht0
                      by_cases hp3 : T.ph = 3
                      ·
                        have HAP3 := Lib.hid HAP.out
                        rw [hp3] at HAP3
                        go_wp2_with (at_builtin; refine (wpList_append_run _ rfl (.tmp 51) (.tmp 53) 76 rfl u7 (.slice (some ⟨wr.heap.size, 0, none⟩) 1 1) rfl rfl (HAP3.out _) ?_); rintro v8 w8 ⟨hown8, hmid⟩; have HO8 := Lib.hid hown8; have HM := Lib.hid hmid; have r0 := hmid.z0; have r1 := hmid.z1; have r2 := hmid.z2; have r3 := hmid.z3; have rp := hmid.p3; have l0 := hmid.live.p C hC4; have l1 := hmid.live.s C hC4; have l2 := hmid.live.c C hC4; have l3 := hmid.live.m C hC4; have lf := hmid.live.f; try rw [hmb] at l3; have q0 := (hmid.bel.cell (p := ⟨g, k * 5, none⟩) hg).trans HY.out.c; have q3 := (hmid.bel.cell (p := ⟨g, k * 5 + 3, none⟩) hg).trans HY.out.p; have q4 := (hmid.bel.cell (p := ⟨g, k * 5 + 4, none⟩) hg).trans HY.out.t; have hgw8 := hmid.live.lt; have hgx : g < w8.heap.size := Nat.lt_of_lt_of_le hg hmid.bel.size; rw [← HT.out] at l0 l1 l2; clear hown8 hmid)
                        have HVL := Lib.hid (HM.out.live.commit hC4 HTL.out HT.out yt)
                        have HVC := Lib.hid (HM.out.cold.store HM.out.live (C * 4 + 2) (.int .i64 yt))
                        have HVD := Lib.hid (owns_store HM.out.own (C * 4 + 2) (.int .i64 yt))
                        have HVT := Lib.hid (owns_store HO8.out (C * 4 + 2) (.int .i64 yt))
                        have HVB := Lib.hid (HM.out.bel.setCell (p := ⟨w.heap.size, C * 4 + 2, none⟩) (Nat.le_refl _) (.int .i64 yt))
                        have hmap8 := HM.out.map
                        have HVM := Lib.hid (show ∃ n, MapAt (w8.setCell ⟨w.heap.size, C * 4 + 2, none⟩ (.int .i64 yt)) (wq.heap.size + 1 + 1) n T.ws from by
                          obtain ⟨n, hn⟩ := hmap8
                          exact ⟨n, hn.blk (store_heap _ _ _ _ (HM.out.live.ne_map hn))⟩)
                        have nea : ∀ a b : Nat, a ≠ b → (⟨w.heap.size, a, none⟩ : Addr) ≠ ⟨w.heap.size, b, none⟩ := fun a b hab e => hab (by injection e)
                        have neb : ∀ a c b : Nat, b ≠ w.heap.size → (⟨w.heap.size, a, none⟩ : Addr) ≠ ⟨b, c, none⟩ := fun a c b hab e => hab (by injection e with e _; exact e.symm)
                        have vc : (w8.setCell ⟨w.heap.size, C * 4 + 2, none⟩ (.int .i64 yt)).cell? ⟨w.heap.size, C * 4 + 2, none⟩ = some (.int .i64 yt) := World.cell?_setCell_same _ _ _ l2
                        have v0 := (World.cell?_setCell_other w8 ⟨w.heap.size, C * 4 + 2, none⟩ ⟨w.heap.size, C * 4, none⟩ (.int .i64 yt) (nea _ _ (by omega))).trans l0
                        have v1 := (World.cell?_setCell_other w8 ⟨w.heap.size, C * 4 + 2, none⟩ ⟨w.heap.size, C * 4 + 1, none⟩ (.int .i64 yt) (nea _ _ (by omega))).trans l1
                        have vm := (World.cell?_setCell_other w8 ⟨w.heap.size, C * 4 + 2, none⟩ ⟨wq.heap.size + 1, 3, none⟩ (.int .i64 yt) (neb _ _ _ (by omega))).trans rp
                        have v3 := (World.cell?_setCell_other w8 ⟨w.heap.size, C * 4 + 2, none⟩ ⟨g, k * 5 + 3, none⟩ (.int .i64 yt) (neb _ _ _ hgA)).trans q3
                        have vf : ∀ o, (w8.setCell ⟨w.heap.size, C * 4 + 2, none⟩ (.int .i64 yt)).frozen? ⟨w.heap.size, o, none⟩ = false := fun o => by rw [World.frozen?_setCell]; exact lf o
                        have hVs : w.heap.size < (w8.setCell ⟨w.heap.size, C * 4 + 2, none⟩ (.int .i64 yt)).heap.size := by simp only [size_set]; exact hgw8
                        have HTV := Lib.hid (show ({ T with cm := yt } : TrackM) = ((ghostL l x k).ts.set C { T with cm := yt }).getD C default by simp [List.getD, HTL.out, hC4])
                        have HTLV := Lib.hid (show ((ghostL l x k).ts.set C { T with cm := yt }).length = 4 by simpa using HTL.out)
                        have hgx' : g < (w8.setCell ⟨w.heap.size, C * 4 + 2, none⟩ (.int .i64 yt)).heap.size := by simp only [size_set]; exact hgx
                        clear hgx
                        have hgx := hgx'
                        obtain ⟨V, hV⟩ : ∃ V, V = w8.setCell ⟨w.heap.size, C * 4 + 2, none⟩ (.int .i64 yt) := ⟨_, rfl⟩
                        rw [← hV] at HVL HVC HVD HVT HVB HVM vc v0 v1 vm v3 vf hVs hgx ⊢
                        have hq8 : wq.heap.size + 1 < V.heap.size := World.block_lt_of_cell? V _ vm
                        clear hV nea neb hmap8 hgx'
                        have hdl : ds.length ≤ 400 := by
                          rw [← List.length_map (f := Prod.fst), HDS.out]
                          exact Nat.le_trans (ghost_few l x k) (by omega)
                        have HAPD := Lib.hid (show ∀ ty : TypeId, ∃ v' w', (Builtin.append_ #[75, 75] ty #[u6, .slice (some ⟨V.heap.size, 0, none⟩) 1 1]).run Tryd.prog (V.drew.alloc (.cells #[.int .i64 T.st, .int .i64 yt, .int .i64 k, .map (some (wq.heap.size + 1 + 1))] 85)) = .ok v' w' ∧ dealCells.Owns w' (w.heap.size + 1) 85 v' (ds ++ [(⟨T.st, yt, k, T.ws⟩, wq.heap.size + 1 + 1)]) ∧ (V.drew.alloc (.cells #[.int .i64 T.st, .int .i64 yt, .int .i64 k, .map (some (wq.heap.size + 1 + 1))] 85)).grownBy w' u6.ownBlock from fun ty => by
                          obtain ⟨i0, hi0, hz0, hz1, hz2⟩ := info_parts deal_info
                          exact app_one (C := dealCells) (ty := ty) (bytes := 32) Tryd.underlying75 hi0 hz0 hz1 hz2 rfl V.drew (w.heap.size + 1) u6 ds (⟨T.st, yt, k, T.ws⟩, wq.heap.size + 1 + 1) (HVD.out.blk (w' := V.drew) (fun _ _ _ => rfl)) (by omega) (by omega) (show w.heap.size + 1 ≤ V.heap.size by omega))
                        have HNB := Lib.hid (show ∀ bk, u6.ownBlock = some bk → w.heap.size + 1 ≤ bk ∧ bk < wq.heap.size from fun bk hbk => ⟨(owns_tag HOD.out bk hbk).1, (owns_tag HOD.out bk hbk).2.1⟩)
                        have HFR := Lib.hid HM.out.fresh
                        clear l0 l1 l2 l3 lf r0 r1 r2 r3 rp q0 q3 q4 hgw8
                        refine wp_region_held_drew (S := fun W => W.cell? ⟨w.heap.size, C * 4 + 1, none⟩ = some (.int .i64 T.st) ∧ W.cell? ⟨w.heap.size, C * 4 + 2, none⟩ = some (.int .i64 yt) ∧ W.cell? ⟨wq.heap.size + 1, 3, none⟩ = some (.map (some (wq.heap.size + 1 + 1)))) (by kernel_rfl) ?_ (fun hHeld => ?_)
                        · exact ⟨v1, vc, vm⟩
                        (refine wpAnyH_take (i := 0) (oi := ?_) (v := ?_) ?_ (by kernel_rfl) ?_ ?_ ?_ ?_ (by assumption) ?_; rotate_left 2; (simp only [List.getElem?_toArray, List.getElem?_cons_zero]; rfl); kernel_rfl; kernel_rfl; exact fun _ _ _ h => h; (refine Or.inl ⟨by rfl, ?_⟩; intro w hSw; (try dsimp only at hSw); go_simp; (first | done | with_reducible rfl)); (try simp only [Act.put, List.setIfInBounds_toArray, List.set_cons_zero, List.set_cons_succ]))
                        (first | (refine wpAnyH_take (i := 1) (oi := ?_) (v := ?_) ?_ (by kernel_rfl) ?_ ?_ ?_ ?_ (by assumption) ?_; rotate_left 2; (simp only [List.getElem?_toArray, List.getElem?_cons_zero, List.getElem?_cons_succ]; rfl); kernel_rfl; kernel_rfl; exact fun _ _ _ h => h; (refine Or.inl ⟨by rfl, ?_⟩; intro w hSw; (try dsimp only at hSw); go_simp; (first | done | with_reducible rfl)); (try simp only [Act.put, List.setIfInBounds_toArray, List.set_cons_zero, List.set_cons_succ])) | (refine wpAnyH_take (i := 1) (oi := ?_) (v := undef) ?_ (by kernel_rfl) ?_ ?_ ?_ ?_ (by assumption) ?_; rotate_left 1; (simp only [List.getElem?_toArray, List.getElem?_cons_zero, List.getElem?_cons_succ]; rfl); kernel_rfl; kernel_rfl; exact fun _ _ _ h => h; exact Or.inr ⟨by rfl, rfl⟩; (try simp only [Act.put, List.setIfInBounds_toArray, List.set_cons_zero, List.set_cons_succ])))
                        (first | (refine wpAnyH_take (i := 2) (oi := ?_) (v := ?_) ?_ (by kernel_rfl) ?_ ?_ ?_ ?_ (by assumption) ?_; rotate_left 2; (simp only [List.getElem?_toArray, List.getElem?_cons_zero, List.getElem?_cons_succ]; rfl); kernel_rfl; kernel_rfl; exact fun _ _ _ h => h; (refine Or.inl ⟨by rfl, ?_⟩; intro w hSw; (try dsimp only at hSw); go_simp; (first | done | with_reducible rfl)); (try simp only [Act.put, List.setIfInBounds_toArray, List.set_cons_zero, List.set_cons_succ])) | (refine wpAnyH_take (i := 2) (oi := ?_) (v := undef) ?_ (by kernel_rfl) ?_ ?_ ?_ ?_ (by assumption) ?_; rotate_left 1; (simp only [List.getElem?_toArray, List.getElem?_cons_zero, List.getElem?_cons_succ]; rfl); kernel_rfl; kernel_rfl; exact fun _ _ _ h => h; exact Or.inr ⟨by rfl, rfl⟩; (try simp only [Act.put, List.setIfInBounds_toArray, List.set_cons_zero, List.set_cons_succ])))
                        (first | (refine wpAnyH_take (i := 3) (oi := ?_) (v := ?_) ?_ (by kernel_rfl) ?_ ?_ ?_ ?_ (by assumption) ?_; rotate_left 2; (simp only [List.getElem?_toArray, List.getElem?_cons_zero, List.getElem?_cons_succ]; rfl); kernel_rfl; kernel_rfl; exact fun _ _ _ h => h; (refine Or.inl ⟨by rfl, ?_⟩; intro w hSw; (try dsimp only at hSw); go_simp; (first | done | with_reducible rfl)); (try simp only [Act.put, List.setIfInBounds_toArray, List.set_cons_zero, List.set_cons_succ])) | (refine wpAnyH_take (i := 3) (oi := ?_) (v := undef) ?_ (by kernel_rfl) ?_ ?_ ?_ ?_ (by assumption) ?_; rotate_left 1; (simp only [List.getElem?_toArray, List.getElem?_cons_zero, List.getElem?_cons_succ]; rfl); kernel_rfl; kernel_rfl; exact fun _ _ _ h => h; exact Or.inr ⟨by rfl, rfl⟩; (try simp only [Act.put, List.setIfInBounds_toArray, List.set_cons_zero, List.set_cons_succ])))
                        (first | (refine wpAnyH_take (i := 4) (oi := ?_) (v := ?_) ?_ (by kernel_rfl) ?_ ?_ ?_ ?_ (by assumption) ?_; rotate_left 2; (simp only [List.getElem?_toArray, List.getElem?_cons_zero, List.getElem?_cons_succ]; rfl); kernel_rfl; kernel_rfl; exact fun _ _ _ h => h; (refine Or.inl ⟨by rfl, ?_⟩; intro w hSw; (try dsimp only at hSw); go_simp; (first | done | with_reducible rfl)); (try simp only [Act.put, List.setIfInBounds_toArray, List.set_cons_zero, List.set_cons_succ])) | (refine wpAnyH_take (i := 4) (oi := ?_) (v := undef) ?_ (by kernel_rfl) ?_ ?_ ?_ ?_ (by assumption) ?_; rotate_left 1; (simp only [List.getElem?_toArray, List.getElem?_cons_zero, List.getElem?_cons_succ]; rfl); kernel_rfl; kernel_rfl; exact fun _ _ _ h => h; exact Or.inr ⟨by rfl, rfl⟩; (try simp only [Act.put, List.setIfInBounds_toArray, List.set_cons_zero, List.set_cons_succ])))
                        (first | (refine wpAnyH_take (i := 5) (oi := ?_) (v := ?_) ?_ (by kernel_rfl) ?_ ?_ ?_ ?_ (by assumption) ?_; rotate_left 2; (simp only [List.getElem?_toArray, List.getElem?_cons_zero, List.getElem?_cons_succ]; rfl); kernel_rfl; kernel_rfl; exact fun _ _ _ h => h; (refine Or.inl ⟨by rfl, ?_⟩; intro w hSw; (try dsimp only at hSw); go_simp; (first | done | with_reducible rfl)); (try simp only [Act.put, List.setIfInBounds_toArray, List.set_cons_zero, List.set_cons_succ])) | (refine wpAnyH_take (i := 5) (oi := ?_) (v := undef) ?_ (by kernel_rfl) ?_ ?_ ?_ ?_ (by assumption) ?_; rotate_left 1; (simp only [List.getElem?_toArray, List.getElem?_cons_zero, List.getElem?_cons_succ]; rfl); kernel_rfl; kernel_rfl; exact fun _ _ _ h => h; exact Or.inr ⟨by rfl, rfl⟩; (try simp only [Act.put, List.setIfInBounds_toArray, List.set_cons_zero, List.set_cons_succ])))
                        (first | (refine wpAnyH_take (i := 6) (oi := ?_) (v := ?_) ?_ (by kernel_rfl) ?_ ?_ ?_ ?_ (by assumption) ?_; rotate_left 2; (simp only [List.getElem?_toArray, List.getElem?_cons_zero, List.getElem?_cons_succ]; rfl); kernel_rfl; kernel_rfl; exact fun _ _ _ h => h; (refine Or.inl ⟨by rfl, ?_⟩; intro w hSw; (try dsimp only at hSw); go_simp; (first | done | with_reducible rfl)); (try simp only [Act.put, List.setIfInBounds_toArray, List.set_cons_zero, List.set_cons_succ])) | (refine wpAnyH_take (i := 6) (oi := ?_) (v := undef) ?_ (by kernel_rfl) ?_ ?_ ?_ ?_ (by assumption) ?_; rotate_left 1; (simp only [List.getElem?_toArray, List.getElem?_cons_zero, List.getElem?_cons_succ]; rfl); kernel_rfl; kernel_rfl; exact fun _ _ _ h => h; exact Or.inr ⟨by rfl, rfl⟩; (try simp only [Act.put, List.setIfInBounds_toArray, List.set_cons_zero, List.set_cons_succ])))
                        (first | (refine wpAnyH_take (i := 7) (oi := ?_) (v := ?_) ?_ (by kernel_rfl) ?_ ?_ ?_ ?_ (by assumption) ?_; rotate_left 2; (simp only [List.getElem?_toArray, List.getElem?_cons_zero, List.getElem?_cons_succ]; rfl); kernel_rfl; kernel_rfl; exact fun _ _ _ h => h; (refine Or.inl ⟨by rfl, ?_⟩; intro w hSw; (try dsimp only at hSw); go_simp; (first | done | with_reducible rfl)); (try simp only [Act.put, List.setIfInBounds_toArray, List.set_cons_zero, List.set_cons_succ])) | (refine wpAnyH_take (i := 7) (oi := ?_) (v := undef) ?_ (by kernel_rfl) ?_ ?_ ?_ ?_ (by assumption) ?_; rotate_left 1; (simp only [List.getElem?_toArray, List.getElem?_cons_zero, List.getElem?_cons_succ]; rfl); kernel_rfl; kernel_rfl; exact fun _ _ _ h => h; exact Or.inr ⟨by rfl, rfl⟩; (try simp only [Act.put, List.setIfInBounds_toArray, List.set_cons_zero, List.set_cons_succ])))
                        (first | (refine wpAnyH_take (i := 8) (oi := ?_) (v := ?_) ?_ (by kernel_rfl) ?_ ?_ ?_ ?_ (by assumption) ?_; rotate_left 2; (simp only [List.getElem?_toArray, List.getElem?_cons_zero, List.getElem?_cons_succ]; rfl); kernel_rfl; kernel_rfl; exact fun _ _ _ h => h; (refine Or.inl ⟨by rfl, ?_⟩; intro w hSw; (try dsimp only at hSw); go_simp; (first | done | with_reducible rfl)); (try simp only [Act.put, List.setIfInBounds_toArray, List.set_cons_zero, List.set_cons_succ])) | (refine wpAnyH_take (i := 8) (oi := ?_) (v := undef) ?_ (by kernel_rfl) ?_ ?_ ?_ ?_ (by assumption) ?_; rotate_left 1; (simp only [List.getElem?_toArray, List.getElem?_cons_zero, List.getElem?_cons_succ]; rfl); kernel_rfl; kernel_rfl; exact fun _ _ _ h => h; exact Or.inr ⟨by rfl, rfl⟩; (try simp only [Act.put, List.setIfInBounds_toArray, List.set_cons_zero, List.set_cons_succ])))
                        (first | (refine wpAnyH_take (i := 9) (oi := ?_) (v := ?_) ?_ (by kernel_rfl) ?_ ?_ ?_ ?_ (by assumption) ?_; rotate_left 2; (simp only [List.getElem?_toArray, List.getElem?_cons_zero, List.getElem?_cons_succ]; rfl); kernel_rfl; kernel_rfl; exact fun _ _ _ h => h; (refine Or.inl ⟨by rfl, ?_⟩; intro w hSw; (try dsimp only at hSw); go_simp; (first | done | with_reducible rfl)); (try simp only [Act.put, List.setIfInBounds_toArray, List.set_cons_zero, List.set_cons_succ])) | (refine wpAnyH_take (i := 9) (oi := ?_) (v := undef) ?_ (by kernel_rfl) ?_ ?_ ?_ ?_ (by assumption) ?_; rotate_left 1; (simp only [List.getElem?_toArray, List.getElem?_cons_zero, List.getElem?_cons_succ]; rfl); kernel_rfl; kernel_rfl; exact fun _ _ _ h => h; exact Or.inr ⟨by rfl, rfl⟩; (try simp only [Act.put, List.setIfInBounds_toArray, List.set_cons_zero, List.set_cons_succ])))
                        (first | (refine wpAnyH_take (i := 10) (oi := ?_) (v := ?_) ?_ (by kernel_rfl) ?_ ?_ ?_ ?_ (by assumption) ?_; rotate_left 2; (simp only [List.getElem?_toArray, List.getElem?_cons_zero, List.getElem?_cons_succ]; rfl); kernel_rfl; kernel_rfl; exact fun _ _ _ h => h; (refine Or.inl ⟨by rfl, ?_⟩; intro w hSw; (try dsimp only at hSw); go_simp; (first | done | with_reducible rfl)); (try simp only [Act.put, List.setIfInBounds_toArray, List.set_cons_zero, List.set_cons_succ])) | (refine wpAnyH_take (i := 10) (oi := ?_) (v := undef) ?_ (by kernel_rfl) ?_ ?_ ?_ ?_ (by assumption) ?_; rotate_left 1; (simp only [List.getElem?_toArray, List.getElem?_cons_zero, List.getElem?_cons_succ]; rfl); kernel_rfl; kernel_rfl; exact fun _ _ _ h => h; exact Or.inr ⟨by rfl, rfl⟩; (try simp only [Act.put, List.setIfInBounds_toArray, List.set_cons_zero, List.set_cons_succ])))
                        (first | (refine wpAnyH_take (i := 11) (oi := ?_) (v := ?_) ?_ (by kernel_rfl) ?_ ?_ ?_ ?_ (by assumption) ?_; rotate_left 2; (simp only [List.getElem?_toArray, List.getElem?_cons_zero, List.getElem?_cons_succ]; rfl); kernel_rfl; kernel_rfl; exact fun _ _ _ h => h; (refine Or.inl ⟨by rfl, ?_⟩; intro w hSw; (try dsimp only at hSw); go_simp; (first | done | with_reducible rfl)); (try simp only [Act.put, List.setIfInBounds_toArray, List.set_cons_zero, List.set_cons_succ])) | (refine wpAnyH_take (i := 11) (oi := ?_) (v := undef) ?_ (by kernel_rfl) ?_ ?_ ?_ ?_ (by assumption) ?_; rotate_left 1; (simp only [List.getElem?_toArray, List.getElem?_cons_zero, List.getElem?_cons_succ]; rfl); kernel_rfl; kernel_rfl; exact fun _ _ _ h => h; exact Or.inr ⟨by rfl, rfl⟩; (try simp only [Act.put, List.setIfInBounds_toArray, List.set_cons_zero, List.set_cons_succ])))
                        (first | (refine wpAnyH_take (i := 12) (oi := ?_) (v := ?_) ?_ (by kernel_rfl) ?_ ?_ ?_ ?_ (by assumption) ?_; rotate_left 2; (simp only [List.getElem?_toArray, List.getElem?_cons_zero, List.getElem?_cons_succ]; rfl); kernel_rfl; kernel_rfl; exact fun _ _ _ h => h; (refine Or.inl ⟨by rfl, ?_⟩; intro w hSw; (try dsimp only at hSw); go_simp; (first | done | with_reducible rfl)); (try simp only [Act.put, List.setIfInBounds_toArray, List.set_cons_zero, List.set_cons_succ])) | (refine wpAnyH_take (i := 12) (oi := ?_) (v := undef) ?_ (by kernel_rfl) ?_ ?_ ?_ ?_ (by assumption) ?_; rotate_left 1; (simp only [List.getElem?_toArray, List.getElem?_cons_zero, List.getElem?_cons_succ]; rfl); kernel_rfl; kernel_rfl; exact fun _ _ _ h => h; exact Or.inr ⟨by rfl, rfl⟩; (try simp only [Act.put, List.setIfInBounds_toArray, List.set_cons_zero, List.set_cons_succ])))
                        (refine wpAnyH_ready (rs := [13]) (by kernel_rfl) (by simp) ?_; refine AllReadyH.cons (o := ?_) ?_ (fun K hK => ?_) AllReadyH.nil; rotate_left 1; (simp only [List.getElem?_toArray, List.getElem?_cons_zero, List.getElem?_cons_succ]; rfl); go_simp)
                        clear hHeld
                        (refine hK.out _ _ ?_ (fun hHeld => ?_); exact ⟨((below_alloc (Below.refl _ V.drew) _).cell (p := ⟨w.heap.size, C * 4 + 1, none⟩) hVs).trans v1, ((below_alloc (Below.refl _ V.drew) _).cell (p := ⟨w.heap.size, C * 4 + 2, none⟩) hVs).trans vc, ((below_alloc (Below.refl _ V.drew) _).cell (p := ⟨wq.heap.size + 1, 3, none⟩) hq8).trans vm⟩; clear hK K)
                        refine wpAnyH_ready (rs := [14]) (by kernel_rfl) (by simp) ?_
                        refine AllReadyH.cons (o := ?_) ?_ (fun K hK => ?_) AllReadyH.nil
                        rotate_left 1
                        · (simp only [List.getElem?_toArray, List.getElem?_cons_zero, List.getElem?_cons_succ]; rfl)
                        refine step_append_run _ rfl (.tmp 105) (.tmp 118) 75 rfl u6 (.slice (some ⟨V.heap.size, 0, none⟩) 1 1) rfl rfl (HAPD.out _) ?_
                        rintro v10 w10 ⟨hown10, hg10⟩
                        obtain ⟨nq, hnq⟩ := HVM.out
                        obtain ⟨m1, m2, m3, m4, m5⟩ := comm_deal (V := V.drew) (d := ⟨T.st, yt, k, T.ws⟩) (HVL.out.still (w' := V.drew) (fun _ _ _ => rfl)) (HVC.out.still (w' := V.drew) (gA := w.heap.size) (fun _ _ _ => rfl)) (HVD.out.blk (w' := V.drew) (fun _ _ _ => rfl)) (HVT.out.blk (w' := V.drew) (fun _ _ _ => rfl)) (below_drew HVB.out) (MapAt.blk (w' := V.drew) hnq rfl) HFR.out hg10
                        have M1 := Lib.hid m1
                        have M2 := Lib.hid m2
                        have M3 := Lib.hid m3
                        have M4 := Lib.hid m4
                        have MO := Lib.hid hown10
                        have s1 := (m5 w.heap.size (C * 4 + 1) hVs (fun e => by have := (HNB.out _ e).1; omega)).trans v1
                        have s2 := (m5 w.heap.size (C * 4 + 2) hVs (fun e => by have := (HNB.out _ e).1; omega)).trans vc
                        have s3 := (m5 (wq.heap.size + 1) 3 hq8 (fun e => by have := (HNB.out _ e).2; omega)).trans vm
                        have s0 := (m5 w.heap.size (C * 4) hVs (fun e => by have := (HNB.out _ e).1; omega)).trans v0
                        have sq := (m5 g (k * 5 + 3) hgx (fun e => by have := (HNB.out _ e).1; omega)).trans v3
                        have sf := m1.f
                        clear m1 m2 m3 m4 m5 hown10 hg10 hnq vc v0 v1 vm v3 vf
                        clear hHeld
                        (refine hK.out _ _ ?_ (fun hHeld => ?_); exact ⟨s1, s2, s3⟩; clear hK K)
                        (first | (refine wpAnyH_take (i := 15) (oi := ?_) (v := ?_) ?_ (by kernel_rfl) ?_ ?_ ?_ ?_ (by assumption) ?_; rotate_left 2; (simp only [List.getElem?_toArray, List.getElem?_cons_zero, List.getElem?_cons_succ]; rfl); kernel_rfl; kernel_rfl; exact fun _ _ _ h => h; (refine Or.inl ⟨by rfl, ?_⟩; intro w hSw; (try dsimp only at hSw); go_simp; (first | done | with_reducible rfl)); (try simp only [Act.put, List.setIfInBounds_toArray, List.set_cons_zero, List.set_cons_succ])) | (refine wpAnyH_take (i := 15) (oi := ?_) (v := undef) ?_ (by kernel_rfl) ?_ ?_ ?_ ?_ (by assumption) ?_; rotate_left 1; (simp only [List.getElem?_toArray, List.getElem?_cons_zero, List.getElem?_cons_succ]; rfl); kernel_rfl; kernel_rfl; exact fun _ _ _ h => h; exact Or.inr ⟨by rfl, rfl⟩; (try simp only [Act.put, List.setIfInBounds_toArray, List.set_cons_zero, List.set_cons_succ])))
                        refine wpAnyH_done (by kernel_rfl) ?_ _
                        clear hHeld
                        go_wp2
                        go_roundw
                        case rel =>
                          have hp := M1.out.phase hC4 HTLV.out HTV.out yp HZR.out
                          rw [List.set_set] at hp; exact ⟨k + 1, by omega, by go_num, mb, _, _, owns_store MO.out _ _, owns_store M3.out _ _, by rw [List.map_append, HDS.out, HG1.out]; dsimp only; rw [if_pos (by simp [hp3]), show trackOf T ⟨4, ac, ay, av⟩ ⟨0, yi, yv, yp, yt⟩ = { T with cm := yt } by unfold trackOf; simp [ht0]]; rfl, HSN'.out, by rw [HG1.out, show trackOf T ⟨4, ac, ay, av⟩ ⟨0, yi, yv, yp, yt⟩ = { T with cm := yt } by unfold trackOf; simp [ht0]]; exact hp, M2.out.store M1.out _ _, M4.out.setCell (Nat.le_refl _) _, HLO.out⟩
                        case measure => simp [intOf]; omega
                      · have g3 : (T.ph == 3) = false := by simpa using hp3
                        go_wp2_with (at_builtin; refine (wpList_append_run _ rfl (.tmp 51) (.tmp 53) 76 rfl u7 (.slice (some ⟨wr.heap.size, 0, none⟩) 1 1) rfl rfl (HAP.out _) ?_); rintro v8 w8 ⟨hown8, hmid⟩; have HO8 := Lib.hid hown8; have HM := Lib.hid hmid; have r0 := hmid.z0; have r1 := hmid.z1; have r2 := hmid.z2; have r3 := hmid.z3; have rp := hmid.p3; have l0 := hmid.live.p C hC4; have l1 := hmid.live.s C hC4; have l2 := hmid.live.c C hC4; have l3 := hmid.live.m C hC4; have lf := hmid.live.f; try rw [hmb] at l3; have q0 := (hmid.bel.cell (p := ⟨g, k * 5, none⟩) hg).trans HY.out.c; have q3 := (hmid.bel.cell (p := ⟨g, k * 5 + 3, none⟩) hg).trans HY.out.p; have q4 := (hmid.bel.cell (p := ⟨g, k * 5 + 4, none⟩) hg).trans HY.out.t; have hgw8 := hmid.live.lt; have hgx : g < w8.heap.size := Nat.lt_of_lt_of_le hg hmid.bel.size; rw [← HT.out] at l0 l1 l2; clear hown8 hmid)
                        go_roundw
                        case rel => exact ⟨k + 1, by omega, by go_num, mb, ds, _, owns_store (owns_store HM.out.own _ _) _ _, owns_store (owns_store HO8.out _ _) _ _, by rw [HDS.out, HG1.out]; dsimp only; rw [if_neg (fun hh => hp3 hh.2.2)], HSN'.out, by rw [HG1.out, show trackOf T ⟨4, ac, ay, av⟩ ⟨0, yi, yv, yp, yt⟩ = { T with cm := yt } by unfold trackOf; simp [ht0]]; exact HM.out.live.commitPhase hC4 HTL.out HT.out yt yp HZR.out, (HM.out.cold.store HM.out.live _ _).store (HM.out.live.commit hC4 HTL.out HT.out yt) _ _, (HM.out.bel.setCell (Nat.le_refl _) _).setCell (Nat.le_refl _) _, HLO.out⟩
                        case measure => simp [intOf]; omega
                  · have e4 : (ak == 4) = false := by simpa using h4
                    go_wp2_with (at_builtin; refine (wpList_append_run _ rfl (.tmp 51) (.tmp 53) 76 rfl u7 (.slice (some ⟨wr.heap.size, 0, none⟩) 1 1) rfl rfl (HAP.out _) ?_); rintro v8 w8 ⟨hown8, hmid⟩; have HO8 := Lib.hid hown8; have HM := Lib.hid hmid; have r0 := hmid.z0; have r1 := hmid.z1; have r2 := hmid.z2; have r3 := hmid.z3; have rp := hmid.p3; have l0 := hmid.live.p C hC4; have l1 := hmid.live.s C hC4; have l2 := hmid.live.c C hC4; have l3 := hmid.live.m C hC4; have lf := hmid.live.f; try rw [hmb] at l3; have q0 := (hmid.bel.cell (p := ⟨g, k * 5, none⟩) hg).trans HY.out.c; have q3 := (hmid.bel.cell (p := ⟨g, k * 5 + 3, none⟩) hg).trans HY.out.p; have q4 := (hmid.bel.cell (p := ⟨g, k * 5 + 4, none⟩) hg).trans HY.out.t; have hgw8 := hmid.live.lt; have hgx : g < w8.heap.size := Nat.lt_of_lt_of_le hg hmid.bel.size; rw [← HT.out] at l0 l1 l2; clear hown8 hmid)
                    go_roundw
                    case rel => exact ⟨k + 1, by omega, by go_num, mb, ds, _, owns_store HM.out.own _ _, owns_store HO8.out _ _, by rw [HDS.out, HG1.out]; exact (if_neg (fun hh => h4 hh.2.1)).symm, HSN'.out, by rw [HG1.out]; rw [show trackOf T ⟨ak, ac, ay, av⟩ ⟨0, yi, yv, yp, yt⟩ = T by unfold trackOf; rw [if_neg (fun h' => h' rfl), if_neg h1, if_neg h3, if_neg h4]]; exact HM.out.live.phase hC4 HTL.out HT.out yp HZR.out, HM.out.cold.store HM.out.live _ _, HM.out.bel.setCell (Nat.le_refl _) _, HLO.out⟩
                    case measure => simp [intOf]; omega
            · have d0 : (yc == 0) = false := by simpa using hyc
              have HZR := Lib.hid (show mb C = none → yp = 0 from fun hn => HZ0.out hn (fun hh => hyc hh.2))
              go_wp2_with (at_builtin; refine (wpList_append_run _ rfl (.tmp 51) (.tmp 53) 76 rfl u7 (.slice (some ⟨wr.heap.size, 0, none⟩) 1 1) rfl rfl (HAP.out _) ?_); rintro v8 w8 ⟨hown8, hmid⟩; have HO8 := Lib.hid hown8; have HM := Lib.hid hmid; have r0 := hmid.z0; have r1 := hmid.z1; have r2 := hmid.z2; have r3 := hmid.z3; have rp := hmid.p3; have l0 := hmid.live.p C hC4; have l1 := hmid.live.s C hC4; have l2 := hmid.live.c C hC4; have l3 := hmid.live.m C hC4; have lf := hmid.live.f; try rw [hmb] at l3; have q0 := (hmid.bel.cell (p := ⟨g, k * 5, none⟩) hg).trans HY.out.c; have q3 := (hmid.bel.cell (p := ⟨g, k * 5 + 3, none⟩) hg).trans HY.out.p; have q4 := (hmid.bel.cell (p := ⟨g, k * 5 + 4, none⟩) hg).trans HY.out.t; have hgw8 := hmid.live.lt; have hgx : g < w8.heap.size := Nat.lt_of_lt_of_le hg hmid.bel.size; rw [← HT.out] at l0 l1 l2; clear hown8 hmid)
              go_roundw
              case rel => exact ⟨k + 1, by omega, by go_num, mb, ds, _, owns_store HM.out.own _ _, owns_store HO8.out _ _, by rw [HDS.out, HG1.out]; exact (if_neg (fun hh => hyc hh.1)).symm, HSN'.out, by rw [HG1.out]; rw [show trackOf T ⟨ak, ac, ay, av⟩ ⟨yc, yi, yv, yp, yt⟩ = T by unfold trackOf; rw [if_pos hyc]]; exact HM.out.live.phase hC4 HTL.out HT.out yp HZR.out, HM.out.cold.store HM.out.live _ _, HM.out.bel.setCell (Nat.le_refl _) _, HLO.out⟩
              case measure => simp [intOf]; omega
          · intro kx vx w1 cnt1 hwx hwc hlx hat hrg1 hlt hg1 hs1 hen
            have hout1 := hout.kept hg1 (by simp)
            have o3'' : w1.cell? ⟨wq.heap.size + 1, 3, none⟩ = some (.map (some (wq.heap.size + 1 + 1))) := by
              have := World.cell?_of_block (w := wr) (w' := w1) (a := ⟨wq.heap.size + 1, 3, none⟩) (hg1.block (wq.heap.size + 1) (World.block_lt_of_cell? wr _ o3') (by simp))
              exact this.trans o3'
            go_wp2_with (first
              | (at_mapUpdate; refine wpList_mapUpdate_own _ rfl _ _ _ 79 rfl 9 9 law_str Tryd.underlying79 _ (wq.heap.size + 1 + 1) _ _ rfl hout1 (by unfold maxLen; omega) _ _ _ rfl rfl (key_str hwx) _ [] (plainElem_string Tryd.underlying9 hwc) ?_; intro w2 hout2 hg2; go_frame)
              | go_in)
            have hrg2 := hrg1.kept hg2 (fun e => by have := Option.some.inj e; omega) (fun e => by have := Option.some.inj e; omega)
            go_roundw
            case rel =>
              exact ⟨_, cnt1, _, hrg2, by omega, hout2.mono (by omega), agree_step hA hout.isMap (show WideAt.IsKeyLit (sk kx) from trivial) hat,
                (hnx.grown hg1 (by have := hnx.size; omega) (fun j hj => by cases hj; omega)).grown hg2 (by have := hnx.size; omega) (fun j hj => by cases hj; exact Nat.le_refl _)⟩
            case measure => rw [hrg2.left_eq, hrg.left_eq]; exact hlt
    · have hke : k = l.length := by omega
      subst hke
      have HDS := Lib.hid hds
      have HSN := Lib.hid hsn
      clear hds hsn
      obtain ⟨A1, c1, A2, c2, rfl, rfl, hd1, hd2, hcap⟩ := comm_end hod hot hcold HDS.out HSN.out (Nat.le_trans (ghost_few l x l.length) (by omega)) (by rw [seenL, List.length_map, List.length_range]; omega)
      have HD1 := Lib.hid hd1
      have HD2 := Lib.hid hd2
      have HB := Lib.hid hb
      clear hod hot hcold hlive hd1 hd2 hb
      go_wp2
      go_ret2
      exact ⟨A1, c1, A2, c2, by rw [show (seenL l x l.length).length = l.length by rw [seenL, List.length_map, List.length_range]]; first | rfl | simp, HD1.out, HD2.out, HB.out, hcap⟩
end Go.Proofs.YtambkjnhfejfaabDoor
