/-
  Contracts of functions of the program and words for memory, several texts in one: GEnd, GEnd2. Conditions: those stated with each.
-/
import Derived.Test.YtambkjnhfejfaabDoorG36
import Derived.Test.YtambkjnhfejfaabDoorG37
namespace Go.Proofs.YtambkjnhfejfaabDoor
open Go.RowKit

/-- All keys are among these. -/
structure KeysIn (S : List ByteArray) (wo : WoM) : Prop where
  rows : ∀ r ∈ wo.rows, r.key ∈ S
  ws : ∀ c ∈ wo.cls, ∀ y ∈ c.ws, y.k ∈ S
section
variable {S : List ByteArray} {wo : WoM} {C : Nat} {c : ClM} {rows : List RowM}
theorem key_lock {st : Int} {pk pv : ByteArray} (r : RowM) (h : r.key ∈ S) (e : (lockOp st pk pv r).2 = 0) : (lockOp st pk pv r).1.key ∈ S := by rw [(lock_fst e).2]; exact h
theorem key_commit {st cm : Int} (r : RowM) (h : r.key ∈ S) (e : (commitOp st cm r).2 = 0) : (commitOp st cm r).1.key ∈ S := by rw [(commit_fst e).2]; exact h
theorem key_undo {st : Int} (r : RowM) (h : r.key ∈ S) (e : (undoOp st r).2 = 0) : (undoOp st r).1.key ∈ S := by
  rw [(undo_fst e).2]
  unfold undoneR
  split
  · exact h
  · split <;> exact h
theorem key_fail {st : Int} : ∀ {l : List WrM} {rows : List RowM}, (∀ r ∈ rows, r.key ∈ S) → (∀ y ∈ l, y.k ∈ S) → ∀ r ∈ failRows st l rows, r.key ∈ S
  | [], _, h, _ => h
  | x :: l, rows, h, hl => by
    show ∀ r ∈ failRows st l (if (statIn rows x.k st).1 = 1 then (chgRow rows x.k (undoOp st)).1 else rows), r.key ∈ S
    refine key_fail ?_ (fun y hy => hl y (List.mem_cons_of_mem _ hy))
    split
    · exact chg_all h (hl x List.mem_cons_self) key_undo
    · exact h
theorem KeysIn.set (h : KeysIn S wo) {rows : List RowM} {clock : Int} {c : ClM} (hr : ∀ r ∈ rows, r.key ∈ S) (hc : ∀ y ∈ c.ws, y.k ∈ S) : KeysIn S ⟨rows, clock, wo.cls.set C c⟩ :=
  ⟨hr, fun d hd => by
    rcases List.mem_or_eq_of_mem_set hd with hd | rfl
    · exact h.ws d hd
    · exact hc⟩
theorem KeysIn.lock (h : KeysIn S wo) (hc : ∀ y ∈ c.ws, y.k ∈ S) (hat : c.at_.toNat < c.ws.length) : KeysIn S (lockW wo C c).1 := by
  unfold lockW
  dsimp only
  split
  · exact h.set (chg_all h.rows (hc _ (getD_mem hat)) key_lock) hc
  · split
    · exact h.set h.rows hc
    · exact h.set (key_fail h.rows hc) (fun _ hy => by cases hy)
theorem KeysIn.commit (h : KeysIn S wo) (hc : ∀ y ∈ c.ws, y.k ∈ S) (hat : c.at_.toNat < c.ws.length) : KeysIn S (commitW wo C c).1 := by
  have hr := chg_all (op := commitOp c.st c.cm) (key := (c.ws.getD c.at_.toNat default).k) h.rows (hc _ (getD_mem hat)) key_commit
  unfold commitW
  dsimp only
  split
  · exact h.set (key_fail h.rows hc) (fun _ hy => by cases hy)
  · split
    · exact h.set hr (fun _ hy => by cases hy)
    · exact h.set hr hc
theorem KeysIn.do {prim : Int → ByteArray} {ds : List DealM} {a : ActM} (h : KeysIn S wo) (hw : WInv prim ds wo) (hg : Good wo) (hC : a.c.toNat < wo.cls.length) (hk : a.kind = 3 ∨ a.kind = 6 → a.key ∈ S) : KeysIn S (doW wo a).1 := by
  show KeysIn S (performW wo a).1
  have hm : wo.cls.getD a.c.toNat default ∈ wo.cls := getD_mem hC
  obtain ⟨c, hcd⟩ : ∃ c, c = wo.cls.getD a.c.toNat default := ⟨_, rfl⟩
  have hcw : ∀ y ∈ c.ws, y.k ∈ S := by rw [hcd]; exact h.ws _ hm
  have hok : ClGood wo.clock c := by rw [hcd]; exact clB_iff.1 (hg.cls _ hm)
  have hph := hok.ph
  unfold performW
  dsimp only
  rw [← hcd]
  split
  · unfold beginW
    split
    · exact h.set h.rows (fun _ hy => by cases hy)
    · exact h
  · split
    · exact h
    · split
      · rename_i h3
        refine h.set h.rows fun y hy => ?_
        unfold putC at hy
        split at hy
        · exact hcw y hy
        · split at hy
          · exact hcw y hy
          · split at hy
            · rename_i hh
              have hlt : lowIx (wrKeys c.ws) a.key < c.ws.length := by simp only [hasK, Bool.and_eq_true, decide_eq_true_eq, List.length_map] at hh; exact hh.1
              rcases List.mem_or_eq_of_mem_set hy with hy | rfl
              · exact hcw y hy
              · exact hcw (wrAt c.ws a.key) (getD_mem hlt)
            · split at hy
              · exact hcw y hy
              · rcases List.mem_append.1 hy with hy | hy
                · exact hcw y (List.mem_of_mem_take hy)
                · rcases List.mem_cons.1 hy with rfl | hy
                  · exact hk (.inl h3)
                  · exact hcw y (List.mem_of_mem_drop hy)
      · split
        · unfold stepW
          split
          · split
            · exact h.set h.rows (fun _ hy => by cases hy)
            · exact h.lock (c := { c with ph := 2 }) hcw (by show c.at_.toNat < c.ws.length; omega)
          · split
            · split
              · exact h.set h.rows hcw
              · exact h.lock hcw (by omega)
            · split
              · exact h.commit hcw (by omega)
              · exact h
        · split
          · unfold dropW
            split
            · exact h
            · exact h.set h.rows (fun _ hy => by cases hy)
          · rename_i h1 h2 h3 h4 h5
            have hkey : a.key ∈ S ∨ a.kind ≠ 6 := by
              by_cases h6 : a.kind = 6
              · exact .inl (hk (.inr h6))
              · exact .inr h6
            unfold resolveW
            dsimp only
            split
            · exact h
            · split
              · exact h
              rename_i hh
              have hh' : hasK (rowKeys wo.rows) a.key = true := by simpa using hh
              have hkS : a.key ∈ S := by
                have := h.rows _ (rowAt_mem hh')
                rwa [rowAt_key hh'] at this
              split
              · exact h
              rename_i hls
              split
              · exact ⟨chg_all h.rows hkS key_commit, h.ws⟩
              · have hlook : look wo.rows a.key = rowAt wo.rows a.key := by rw [look, if_pos hh']
                obtain ⟨e1, e2⟩ := hw.rows.lk a.key (by rw [hlook]; exact hls)
                rw [hlook] at e1 e2
                have hpk : hasK (rowKeys wo.rows) (rowAt wo.rows a.key).lp = true := by rw [e1]; exact look_has e2 hls
                have hlS : (rowAt wo.rows a.key).lp ∈ S := by
                  have := h.rows _ (rowAt_mem hpk)
                  rwa [rowAt_key hpk] at this
                split
                · exact h
                · exact ⟨chg_all (chg_all h.rows hlS key_undo) hkS key_undo, h.ws⟩
end
/-- The keys of the acts of raw numbers. -/
theorem actOf_key (i : Nat) (r : RawM) : (actOf 4 i r).kind = 3 ∨ (actOf 4 i r).kind = 6 → (actOf 4 i r).key ∈ keys4 := by
  unfold actOf actB
  repeat' split
  all_goals intro h
  all_goals first | exact keyOf_mem r.a | (exfalso; rcases h with h | h <;> exact absurd h (fun h' => by cases h'))
theorem actsM_key (l : List RawM) (k : Nat) : ∀ a ∈ actsM 4 l k, a.kind = 3 ∨ a.kind = 6 → a.key ∈ keys4 := by
  intro a ha
  obtain ⟨i, _, rfl⟩ := List.mem_map.1 ha
  exact actOf_key i _
/-- All that is kept, one act more. -/
structure Kept (wo : WoM) (i : Nat) (ds : List DealM) : Prop where
  whole : ∃ prim g, Whole prim i g wo ∧ g.ds = ds
  keys : KeysIn keys4 wo
  clock : wo.clock ≤ i
  four : wo.cls.length = 4
theorem Kept.fits {wo : WoM} {i : Nat} {ds : List DealM} (h : Kept wo i ds) (hi : i ≤ 400) {a : ActM} (hf : ActFit a) : actE wo a = 0 := by
  obtain ⟨prim, g, hw, _⟩ := h.whole
  have := h.clock
  unfold actE
  rw [if_neg (by rw [good_iff.2 hw.good]; decide), if_neg (by have := hf.k1; have := hf.k6; omega), if_neg (by rw [h.four]; have := hf.c0; have := hf.c4; omega), if_neg (by omega)]
/-- An act that is no step leaves the deals. -/
theorem Kept.do {wo : WoM} {i : Nat} {ds : List DealM} (h : Kept wo i ds) (hi : i ≤ 400) {a : ActM} (hf : ActFit a) (hk : a.kind = 3 ∨ a.kind = 6 → a.key ∈ keys4) (h4 : a.kind ≠ 4) : Kept (doW wo a).1 (i + 1) ds ∧ runA wo a = doW wo a := by
  have he := h.fits hi hf
  obtain ⟨prim, g, hw, hds⟩ := h.whole
  obtain ⟨prim', hw'⟩ := hw.do he
  have hC : a.c.toNat < wo.cls.length := by rw [h.four]; have := hf.c0; have := hf.c4; omega
  refine ⟨⟨⟨prim', _, hw', ?_⟩, h.keys.do hw.inv hw.good hC hk, ?_, ?_⟩, by unfold runA; rw [if_pos he]⟩
  · simp only [ghostOf]
    rw [if_neg (fun hh => h4 hh.2.1), hds]
  · have := do_clock wo a
    have := h.clock
    omega
  · rw [show (doW wo a).1.cls.length = wo.cls.length from perform_len _ _]; exact h.four
theorem kept_at {l : List ActM} (hl : l.length ≤ 400) (hf : ∀ a ∈ l, ActFit a) (hk : ∀ a ∈ l, a.kind = 3 ∨ a.kind = 6 → a.key ∈ keys4) : ∀ k, k ≤ l.length → Kept (woAt l k) k (ghostL l (runAns (startW 4) l) k).ds
  | 0, h => by
    obtain ⟨⟨prim, hw⟩, hc, h4⟩ := whole_at hl hf 0 h
    refine ⟨⟨prim, _, hw, rfl⟩, ⟨fun r hr => (by cases hr), fun c hc y hy => ?_⟩, hc, h4⟩
    have : c = idleC := by simpa [startW, woAt, runWo] using (List.mem_replicate.1 hc).2
    rw [this] at hy; cases hy
  | k + 1, h => by
    have ih := kept_at hl hf hk k (by omega)
    obtain ⟨⟨prim, hw⟩, hc, h4⟩ := whole_at hl hf (k + 1) h
    obtain ⟨⟨prim0, hw0⟩, hc0, h40⟩ := whole_at hl hf k (by omega)
    have hm : l.getD k default ∈ l := getD_mem (by omega)
    have hfit := hf _ hm
    have he := ih.fits (by omega) hfit
    have e1 : woAt l (k + 1) = (doW (woAt l k) (l.getD k default)).1 := by
      rw [woAt, runWo_at l _ k (by omega), runA, if_pos he]
    refine ⟨⟨prim, _, hw, rfl⟩, ?_, hc, h4⟩
    rw [e1]
    exact ih.keys.do hw0.inv hw0.good (by rw [h40]; have := hfit.c0; have := hfit.c4; omega) (hk _ hm)
theorem fold_congr {key : ByteArray} {a a' : Int} {m m' : Nat} : ∀ (ds : List DealM) (b : DealM), (∀ d ∈ ds, tellsOf key a m d = tellsOf key a' m' d) → ds.foldl (bestF key a m) b = ds.foldl (bestF key a' m') b
  | [], _, _ => rfl
  | d :: ds, b, h => by
    rw [List.foldl_cons, List.foldl_cons, show bestF key a m b d = bestF key a' m' b d by unfold bestF; rw [h d List.mem_cons_self]]
    exact fold_congr ds _ fun e he => h e (List.mem_cons_of_mem _ he)
/-- The deals that are there tell the same at every later act and time. -/
theorem best_same {key : ByteArray} {a a' : Int} {m m' : Nat} {ds : List DealM} (h1 : ∀ d ∈ ds, d.act < m ∧ d.act < m') (h2 : ∀ d ∈ ds, d.cm ≤ a ∧ d.cm ≤ a') : bestD key a m ds = bestD key a' m' ds := by
  refine fold_congr ds default fun d hd => ?_
  obtain ⟨p1, p2⟩ := h1 d hd
  obtain ⟨p3, p4⟩ := h2 d hd
  simp [tellsOf, p1, p2, p3, p4]

/-- TopAsking, in these words. -/
theorem asking {l : List ActM} (hl : l.length ≤ 80) (hf : ∀ a ∈ l, ActFit a) (hk : ∀ a ∈ l, a.kind = 3 ∨ a.kind = 6 → a.key ∈ keys4) {key : ByteArray} (hkey : key ∈ keys4) (hkb : keyB key = true) :
    (∀ r ∈ (runWo (startW 4) (l ++ [⟨6, 0, key, emptyS⟩, ⟨6, 0, key, emptyS⟩])).rows, ∀ z ∈ r.recs, z.c ≠ 0 → ∃ d ∈ (ghostL l (runAns (startW 4) l) l.length).ds, d.st = z.s ∧ d.cm = z.c ∧ lookW d.ws r.key = some z.v) ∧
      ((runAns (startW 4) (l ++ [⟨6, 0, key, emptyS⟩, ⟨6, 0, key, emptyS⟩])).getD (l.length + 1) default).code = 5 := by
  obtain ⟨a, had⟩ : ∃ a, a = (⟨6, 0, key, emptyS⟩ : ActM) := ⟨_, rfl⟩
  have hfa : ActFit a := by rw [had]; exact ⟨of_decide_eq_true rfl, of_decide_eq_true rfl, of_decide_eq_true rfl, of_decide_eq_true rfl⟩
  have hka : a.kind = 3 ∨ a.kind = 6 → a.key ∈ keys4 := fun _ => by rw [had]; exact hkey
  have h4 : a.kind ≠ 4 := by rw [had]; show (6 : Int) ≠ 4; decide
  have h0 := kept_at (by omega) hf hk l.length (Nat.le_refl _)
  have e0 : woAt l l.length = runWo (startW 4) l := by rw [woAt, List.take_length]
  rw [e0] at h0
  obtain ⟨wo, hwo⟩ : ∃ wo, wo = runWo (startW 4) l := ⟨_, rfl⟩
  rw [← hwo] at h0
  obtain ⟨h1, r1⟩ := h0.do (by omega) hfa hka h4
  obtain ⟨h2, r2⟩ := h1.do (by omega) hfa hka h4
  have hrun : runWo (startW 4) (l ++ [a, a]) = (doW (doW wo a).1 a).1 := by
    rw [show l ++ [a, a] = (l ++ [a]) ++ [a] by simp, runWo_snoc, runWo_snoc, ← hwo, r1, r2]
  have hans : runAns (startW 4) (l ++ [a, a]) = runAns (startW 4) l ++ [(doW wo a).2, (doW (doW wo a).1 a).2] := by
    rw [show l ++ [a, a] = (l ++ [a]) ++ [a] by simp, runAns_snoc, runAns_snoc, runWo_snoc, ← hwo, r1, r2]
    simp
  rw [← had, hrun, hans]
  refine ⟨fun r hr z hz hc => ?_, ?_⟩
  · obtain ⟨prim, g, hw, hds⟩ := h2.whole
    have hlk := look_mem hw.good.rows hr
    rw [← hlk] at hz
    obtain ⟨d, hd, d1, d2, d3⟩ := hw.inv.rows.co r.key z hz hc
    rw [← hds]
    refine ⟨d, hd, d1, d2, ?_⟩
    obtain ⟨v, hv⟩ := Option.isSome_iff_exists.1 (lookW_some d3)
    have hv : lookW d.ws r.key = some v := hv
    rw [hv]
    rcases hw.inv.rows.dl d hd _ (lookW_mem hv) with h' | ⟨h', _⟩
    · have := rec_one (look_recs hw.good.rows r.key) h' hz d1
      rw [← this]
    · exfalso
      have h' : (look (doW (doW wo a).1 a).1.rows r.key).ls = d.st := h'
      have h1' := hw.inv.rows.d1 d hd
      exact ((look_locked hw.good.rows (k := r.key) (by rw [h']; omega)).2.2 z hz).1 (by rw [h', d1])
  · have hlen : (runAns (startW 4) l).length = l.length := runAns_length l _
    have e : (runAns (startW 4) l ++ [(doW wo a).2, (doW (doW wo a).1 a).2]).getD (l.length + 1) default = (doW (doW wo a).1 a).2 := by
      rw [List.getD, List.getElem?_append_right (by omega), hlen]
      simp
    rw [e]
    obtain ⟨prim, g, hw, _⟩ := h0.whole
    obtain ⟨prim1, g1, hw1, _⟩ := h1.whole
    have hres : ∀ w : WoM, (doW w a).1 = (resolveW w key).1 ∧ (doW w a).2.code = (resolveW w key).2 := by
      intro w
      unfold doW performW
      dsimp only
      rw [had]
      dsimp only
      rw [if_neg (by decide), if_neg (by decide), if_neg (by decide), if_neg (by decide), if_neg (by decide)]
      exact ⟨rfl, rfl⟩
    rw [(hres _).2]
    have hz := (hw.inv.resolve hw.good key).2.1 hkb
    rw [← (hres wo).1] at hz
    rw [(hw1.inv.resolve hw1.good key).2.2.2 hkb hz]
end Go.Proofs.YtambkjnhfejfaabDoor

namespace Go.Proofs.YtambkjnhfejfaabDoor
open Go.RowKit

def dropAct (c : Int) : ActM := ⟨5, c, emptyS, emptyS⟩
def askAct (key : ByteArray) : ActM := ⟨6, 0, key, emptyS⟩
def getAct (key : ByteArray) : ActM := ⟨2, 0, key, emptyS⟩
def beginAct : ActM := ⟨1, 0, emptyS, emptyS⟩
/-- The end of the script. -/
def endActs : List ActM := (List.range 4).map (fun c : Nat => dropAct c) ++ keys4.map askAct ++ [beginAct] ++ keys4.map getAct
theorem keys4_key : ∀ k ∈ keys4, keyB k = true := by decide +kernel
section
variable {wo : WoM} {i : Nat} {ds : List DealM} {c : ClM}
/-- Drop. -/
theorem drop_does (C : Nat) (hc : wo.cls[C]? = some c) : (doW wo (dropAct C)).1.rows = wo.rows ∧ (doW wo (dropAct C)).1.cls = (if c.ph = 0 then wo.cls else wo.cls.set C idleC) := by
  have hcd : wo.cls.getD C default = c := by simp [List.getD, hc]
  have e : (doW wo (dropAct C)).1 = (dropW wo C c).1 := by
    unfold doW performW dropAct
    dsimp only
    rw [if_neg (by decide), if_neg (by decide), if_neg (by decide), if_neg (by decide), if_pos rfl, Int.toNat_natCast, hcd]
  rw [e]
  unfold dropW
  split
  · exact ⟨rfl, rfl⟩
  · exact ⟨rfl, rfl⟩
theorem ask_does (key : ByteArray) : (doW wo (askAct key)).1 = (resolveW wo key).1 := by
  unfold doW performW askAct
  dsimp only
  rw [if_neg (by decide), if_neg (by decide), if_neg (by decide), if_neg (by decide), if_neg (by decide)]
theorem resolve_cls (key : ByteArray) : (resolveW wo key).1.cls = wo.cls := by
  unfold resolveW
  dsimp only
  repeat' split
  all_goals rfl
theorem begin_does (hc : wo.cls[0]? = some c) (h0 : c.ph = 0) : (doW wo beginAct).1 = ⟨wo.rows, wo.clock + 1, wo.cls.set 0 ⟨1, wo.clock + 1, 0, [], 0⟩⟩ := by
  have hcd : wo.cls.getD 0 default = c := by simp [List.getD, hc]
  unfold doW performW beginAct
  dsimp only
  rw [if_pos rfl, show (0 : Int).toNat = 0 from rfl, hcd, beginW, if_pos h0]
theorem get_does (hc : wo.cls[0]? = some c) (key : ByteArray) : doW wo (getAct key) = (wo, { getA wo c key with ph := c.ph }) := by
  have hcd : wo.cls.getD 0 default = c := by simp [List.getD, hc]
  unfold doW performW getAct
  dsimp only
  rw [if_neg (by decide), if_pos rfl, show (0 : Int).toNat = 0 from rfl, hcd]
theorem drop_fit (c : Nat) (h : c < 4) : ActFit (dropAct c) := ⟨by show (1 : Int) ≤ 5; decide, by show (5 : Int) ≤ 6; decide, by show (0 : Int) ≤ (c : Int); omega, by show (c : Int) < 4; omega⟩
theorem ask_fit (key : ByteArray) : ActFit (askAct key) := ⟨by show (1 : Int) ≤ 6; decide, by show (6 : Int) ≤ 6; decide, by show (0 : Int) ≤ 0; decide, by show (0 : Int) < 4; decide⟩
theorem get_fit (key : ByteArray) : ActFit (getAct key) := ⟨by show (1 : Int) ≤ 2; decide, by show (2 : Int) ≤ 6; decide, by show (0 : Int) ≤ 0; decide, by show (0 : Int) < 4; decide⟩
theorem begin_fit : ActFit beginAct := ⟨by show (1 : Int) ≤ 1; decide, by show (1 : Int) ≤ 6; decide, by show (0 : Int) ≤ 0; decide, by show (0 : Int) < 4; decide⟩
/-- The drops of the clients from c on: the first client stays idle. -/
theorem drops_run : ∀ (cs : List Nat) (wo : WoM) (i : Nat), (∀ x ∈ cs, x < 4) → i + cs.length ≤ 400 → Kept wo i ds → ((∃ e, wo.cls[0]? = some e ∧ e.ph = 0) ∨ 0 ∈ cs) →
    Kept (runWo wo (cs.map fun c => dropAct (c : Nat))) (i + cs.length) ds ∧ ∃ e, (runWo wo (cs.map fun c => dropAct (c : Nat))).cls[0]? = some e ∧ e.ph = 0
  | [], wo, i, _, _, h, h0 => ⟨h, by
      rcases h0 with h0 | h0
      · exact h0
      · cases h0⟩
  | C :: cs, wo, i, hcs, hi, h, h0 => by
    have hC := hcs C List.mem_cons_self
    have hl : (C :: cs).length = cs.length + 1 := rfl
    obtain ⟨h1, r1⟩ := h.do (by omega) (drop_fit C hC) (fun hh => by rcases hh with hh | hh <;> exact absurd hh (by show (5 : Int) ≠ _; decide)) (by show (5 : Int) ≠ 4; decide)
    obtain ⟨c, hc⟩ : ∃ c, wo.cls[C]? = some c := ⟨_, List.getElem?_eq_getElem (by rw [h.four]; exact hC)⟩
    have hd := (drop_does C hc).2
    have hstep : runWo wo ((C :: cs).map fun c => dropAct (c : Nat)) = runWo (doW wo (dropAct C)).1 (cs.map fun c => dropAct (c : Nat)) := by
      rw [List.map_cons, runWo, r1]
    rw [hstep, hl, show i + (cs.length + 1) = i + 1 + cs.length by omega]
    refine drops_run cs _ (i + 1) (fun x hx => hcs x (List.mem_cons_of_mem _ hx)) (by omega) h1 ?_
    by_cases e0 : C = 0
    · left
      rw [hd]
      subst e0
      split
      · rename_i hz; exact ⟨c, hc, hz⟩
      · exact ⟨idleC, by rw [List.getElem?_set_self (by rw [h.four]; decide)], rfl⟩
    · rcases h0 with ⟨e, he, hz⟩ | h0
      · left
        refine ⟨e, ?_, hz⟩
        rw [hd]
        split
        · exact he
        · rw [List.getElem?_set_ne (by omega)]; exact he
      · right
        rcases List.mem_cons.1 h0 with h0 | h0
        · exact absurd h0.symm e0
        · exact h0
/-- The locks of these keys are resolved. -/
theorem asks_run : ∀ (ks : List ByteArray) (wo : WoM) (i : Nat), (∀ k ∈ ks, k ∈ keys4) → i + ks.length ≤ 400 → Kept wo i ds →
    Kept (runWo wo (ks.map askAct)) (i + ks.length) ds ∧ (runWo wo (ks.map askAct)).cls = wo.cls ∧ ∀ k, k ∈ ks ∨ (look wo.rows k).ls = 0 → (look (runWo wo (ks.map askAct)).rows k).ls = 0
  | [], wo, i, _, _, h => ⟨h, rfl, fun k hk => by
      rcases hk with hk | hk
      · cases hk
      · exact hk⟩
  | key :: ks, wo, i, hks, hi, h => by
    have hl : (key :: ks).length = ks.length + 1 := rfl
    have hkey := hks key List.mem_cons_self
    obtain ⟨h1, r1⟩ := h.do (by omega) (ask_fit key) (fun _ => hkey) (by show (6 : Int) ≠ 4; decide)
    have hstep : runWo wo ((key :: ks).map askAct) = runWo (doW wo (askAct key)).1 (ks.map askAct) := by
      rw [List.map_cons, runWo, r1]
    rw [hstep, hl, show i + (ks.length + 1) = i + 1 + ks.length by omega]
    obtain ⟨g1, g2, g3⟩ := asks_run ks _ (i + 1) (fun x hx => hks x (List.mem_cons_of_mem _ hx)) (by omega) h1
    obtain ⟨prim, g, hw, _⟩ := h.whole
    obtain ⟨_, q1, q2, _⟩ := hw.inv.resolve hw.good key
    rw [ask_does] at g1 g2 g3 ⊢
    refine ⟨g1, by rw [g2, resolve_cls], fun k hk => g3 k ?_⟩
    rcases hk with hk | hk
    · rcases List.mem_cons.1 hk with rfl | hk
      · exact .inr (q1 (keys4_key _ hkey))
      · exact .inl hk
    · exact .inr (q2 k hk)
theorem gets_run : ∀ (ks : List ByteArray) (wo : WoM) (i : Nat) (c : ClM), i + ks.length ≤ 400 → Kept wo i ds → wo.cls[0]? = some c →
    runWo wo (ks.map getAct) = wo ∧ runAns wo (ks.map getAct) = ks.map fun k => { getA wo c k with ph := c.ph }
  | [], wo, _, _, _, _, _ => ⟨rfl, rfl⟩
  | key :: ks, wo, i, c, hi, h, hc => by
    have hl : (key :: ks).length = ks.length + 1 := rfl
    have he := h.fits (by omega) (get_fit key)
    have r1 : runA wo (getAct key) = (wo, { getA wo c key with ph := c.ph }) := by unfold runA; rw [if_pos he, get_does hc]
    obtain ⟨g1, g2⟩ := gets_run ks wo i c (by omega) h hc
    rw [List.map_cons, runWo, runAns, r1]
    exact ⟨g1, by rw [List.map_cons, ← g2]⟩
end
/-- TopResolved, in these words. -/
theorem resolved {l : List ActM} (hl : l.length ≤ 80) (hf : ∀ a ∈ l, ActFit a) (hk : ∀ a ∈ l, a.kind = 3 ∨ a.kind = 6 → a.key ∈ keys4) :
    (∀ r ∈ (runWo (startW 4) (l ++ endActs)).rows, r.ls = 0) ∧
      ∀ k, k < 4 → (runAns (startW 4) (l ++ endActs)).getD (l.length + 9 + k) default = ⟨0, decide (0 < (bestD (keys4.getD k default) 1099511627776 l.length (ghostL l (runAns (startW 4) l) l.length).ds).cm), (lookW (bestD (keys4.getD k default) 1099511627776 l.length (ghostL l (runAns (startW 4) l) l.length).ds).ws (keys4.getD k default)).getD emptyS, 1, 0⟩ := by
  have h0 := kept_at (by omega) hf hk l.length (Nat.le_refl _)
  have e0 : woAt l l.length = runWo (startW 4) l := by rw [woAt, List.take_length]
  rw [e0] at h0
  obtain ⟨wo, hwo⟩ : ∃ wo, wo = runWo (startW 4) l := ⟨_, rfl⟩
  obtain ⟨ds, hds⟩ : ∃ ds, ds = (ghostL l (runAns (startW 4) l) l.length).ds := ⟨_, rfl⟩
  have hacts := (ghost_acts l (runAns (startW 4) l) l.length).1
  rw [← hds] at h0 hacts ⊢
  rw [← hwo] at h0
  obtain ⟨h1, c1⟩ := drops_run (List.range 4) wo l.length (fun x hx => List.mem_range.1 hx) (by simp; omega) h0 (.inr (by decide))
  obtain ⟨wo1, hwo1⟩ : ∃ wo1, wo1 = runWo wo ((List.range 4).map fun c => dropAct (c : Nat)) := ⟨_, rfl⟩
  rw [← hwo1] at h1 c1
  obtain ⟨h2, c2, z2⟩ := asks_run keys4 wo1 (l.length + (List.range 4).length) (fun _ h => h) (by simp [keys4]; omega) h1
  obtain ⟨wo2, hwo2⟩ : ∃ wo2, wo2 = runWo wo1 (keys4.map askAct) := ⟨_, rfl⟩
  rw [← hwo2] at h2 c2 z2
  obtain ⟨e, he, hz⟩ := c1
  rw [← c2] at he
  have hi2 : l.length + (List.range 4).length + keys4.length = l.length + 8 := by simp [keys4]
  rw [hi2] at h2
  obtain ⟨h3, r3⟩ := h2.do (by omega) begin_fit (fun hh => by rcases hh with hh | hh <;> exact absurd hh (by show (1 : Int) ≠ _; decide)) (by show (1 : Int) ≠ 4; decide)
  have hb := begin_does he hz
  rw [hb] at h3
  obtain ⟨wo3, hwo3⟩ : ∃ wo3, wo3 = (⟨wo2.rows, wo2.clock + 1, wo2.cls.set 0 ⟨1, wo2.clock + 1, 0, [], 0⟩⟩ : WoM) := ⟨_, rfl⟩
  rw [← hwo3] at h3 hb
  have hc3 : wo3.cls[0]? = some ⟨1, wo2.clock + 1, 0, [], 0⟩ := by rw [hwo3]; show (wo2.cls.set 0 _)[0]? = _; rw [List.getElem?_set_self (by rw [h2.four]; decide)]
  obtain ⟨g1, g2⟩ := gets_run keys4 wo3 (l.length + 8 + 1) _ (by simp [keys4]; omega) h3 hc3
  have hrun : runWo (startW 4) (l ++ endActs) = wo3 := by
    unfold endActs
    rw [← List.append_assoc, ← List.append_assoc, ← List.append_assoc, runWo_app, runWo_app, runWo_app, runWo_app, ← hwo, ← hwo1, ← hwo2]
    show runWo (runWo wo2 [beginAct]) (keys4.map getAct) = wo3
    rw [runWo, runWo, r3, hb]; exact g1
  have hrows : wo3.rows = wo2.rows := by rw [hwo3]
  have hfree : ∀ k ∈ keys4, (look wo3.rows k).ls = 0 := fun k hk' => by rw [hrows]; exact z2 k (.inl hk')
  obtain ⟨prim, g, hw, hgd⟩ := h3.whole
  refine ⟨fun r hr => ?_, fun k hk4 => ?_⟩
  · rw [hrun] at hr
    have := hfree _ (h3.keys.rows r hr)
    rwa [look_mem hw.good.rows hr] at this
  · have hlen0 : (runAns (startW 4) l).length = l.length := runAns_length l _
    have hans : ∃ pre, pre.length = l.length + 9 ∧ runAns (startW 4) (l ++ endActs) = pre ++ keys4.map fun k => { getA wo3 ⟨1, wo2.clock + 1, 0, [], 0⟩ k with ph := 1 } := by
      refine ⟨runAns (startW 4) (l ++ (List.range 4).map (fun c => dropAct (c : Nat)) ++ keys4.map askAct ++ [beginAct]), by rw [runAns_length]; simp [keys4], ?_⟩
      unfold endActs
      rw [← List.append_assoc, ← List.append_assoc, ← List.append_assoc, runAns_app _ (keys4.map getAct)]
      congr 1
      rw [runWo_app, runWo_app, runWo_app, ← hwo, ← hwo1, ← hwo2]
      show runAns (runWo wo2 [beginAct]) _ = _
      rw [runWo, runWo, r3, hb]; exact g2
    obtain ⟨pre, hpre, hans⟩ := hans
    have hmem : keys4.getD k default ∈ keys4 := getD_mem (by simpa [keys4] using hk4)
    have hget : (runAns (startW 4) (l ++ endActs)).getD (l.length + 9 + k) default = { getA wo3 ⟨1, wo2.clock + 1, 0, [], 0⟩ (keys4.getD k default) with ph := 1 } := by
      rw [hans, List.getD, List.getElem?_append_right (by omega), hpre, show l.length + 9 + k - (l.length + 9) = k by omega, List.getElem?_map, getD_some (d := default) (show k < keys4.length by simpa [keys4] using hk4)]
      rfl
    rw [hget]
    have hkb := keys4_key _ hmem
    have hga : getA wo3 ⟨1, wo2.clock + 1, 0, [], 0⟩ (keys4.getD k default) = readA (look wo3.rows (keys4.getD k default)) (wo2.clock + 1) := by
      have hacc : accessE ⟨1, wo2.clock + 1, 0, [], 0⟩ (keys4.getD k default) = 0 := by
        unfold accessE
        rw [if_neg (show ¬ (1 : Int) ≠ 1 by decide), if_neg (by rw [hkb]; decide)]
      have hnk : hasK (wrKeys []) (keys4.getD k default) = false := by simp [hasK]
      unfold getA
      rw [if_neg (by rw [hacc]; decide), if_neg (by rw [hnk]; decide)]
      unfold look
      by_cases hh : hasK (rowKeys wo3.rows) (keys4.getD k default) = true
      · rw [if_pos hh, if_pos hh]
      · rw [if_neg hh, if_neg hh, readA_free (r := freshRow _) (show inB (0 : Int) 1 (wo2.clock + 1) = false from inB_false.2 (.inl (by decide)))]
        rfl
    have hz0 := hfree _ hmem
    rw [hga, hw.read (inB_false.2 (.inl (by rw [hz0]; decide))), hgd]
    have hbs : bestD (keys4.getD k default) (wo2.clock + 1) (l.length + 8 + 1) ds = bestD (keys4.getD k default) 1099511627776 l.length ds := by
      refine best_same (fun d hd => ⟨by have := hacts d hd; omega, hacts d hd⟩) (fun d hd => ?_)
      have := (hw.inv.dt d (by rw [hgd]; exact hd)).2
      have hcl : wo3.clock = wo2.clock + 1 := by rw [hwo3]
      have := h3.clock
      exact ⟨by omega, by omega⟩
    rw [hbs]
end Go.Proofs.YtambkjnhfejfaabDoor
