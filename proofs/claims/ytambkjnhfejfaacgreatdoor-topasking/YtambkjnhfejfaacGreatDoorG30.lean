/-
  Contracts of functions of the program and words for memory, several texts in one: GInv, GWhole, GRun, GDo, GTops, GRead. Conditions: those stated with each.
-/
import Derived.Test.YtambkjnhfejfaacGreatDoorG29
namespace Go.Proofs.YtambkjnhfejfaacGreatDoor
open Go.RowKit

/-- A transaction that was committed: its Start and its Commit, by which act, its writes. -/
structure DealM where
  st : Int
  cm : Int
  act : Nat
  ws : List WrM
instance : Inhabited DealM := ⟨⟨0, 0, 0, []⟩⟩
/-- A trace of a transaction in a row. -/
def Tr (r : RowM) (s : Int) : Prop := r.ls = s ∨ ∃ x ∈ r.recs, x.s = s
/-- It is undone there. -/
def Gone (r : RowM) (s : Int) : Prop := ∃ x ∈ r.recs, x.s = s ∧ x.c = 0
/-- What the rows keep. -/
structure RInv (prim : Int → ByteArray) (ds : List DealM) (R : ByteArray → RowM) : Prop where
  lk : ∀ k, (R k).ls ≠ 0 → (R k).lp = prim (R k).ls ∧ Tr (R (prim (R k).ls)) (R k).ls
  un : ∀ k, ∀ x ∈ (R k).recs, x.c = 0 → Gone (R (prim x.s)) x.s
  co : ∀ k, ∀ x ∈ (R k).recs, x.c ≠ 0 → ∃ d ∈ ds, d.st = x.s ∧ d.cm = x.c ∧ ⟨k, x.v⟩ ∈ d.ws
  dl : ∀ d ∈ ds, ∀ y ∈ d.ws, ⟨d.st, d.cm, y.v⟩ ∈ (R y.k).recs ∨ ((R y.k).ls = d.st ∧ (R y.k).val = y.v)
  dp : ∀ d ∈ ds, ∃ x ∈ (R (prim d.st)).recs, x.s = d.st ∧ x.c = d.cm ∧ x.c ≠ 0
  dk : ∀ d ∈ ds, ∀ k, (R k).ls = d.st → ⟨k, (R k).val⟩ ∈ d.ws
  d0 : ∀ d ∈ ds, ∀ d' ∈ ds, d.st = d'.st → d = d'
  d1 : ∀ d ∈ ds, 1 ≤ d.st
/-- What a client keeps. -/
structure ClInv (prim : Int → ByteArray) (ds : List DealM) (R : ByteArray → RowM) (c : ClM) : Prop where
  c1 : (c.ph = 1 ∨ c.ph = 2 ∧ c.at_ = 0) → ∀ k, ¬ Tr (R k) c.st
  c2 : c.ph = 2 ∨ c.ph = 3 → ∀ k, (R k).ls = c.st → ⟨k, (R k).val⟩ ∈ c.ws
  c3 : (c.ph = 2 ∧ 1 ≤ c.at_) ∨ c.ph = 3 → prim c.st = (c.ws.getD 0 default).k
  c4 : (c.ph = 2 ∨ c.ph = 3) → ∀ i, i < c.ws.length → (c.ph = 2 → (i : Int) < c.at_) → ((R (c.ws.getD i default).k).ls = c.st ∧ (R (c.ws.getD i default).k).val = (c.ws.getD i default).v) ∨ Gone (R (c.ws.getD i default).k) c.st
  c5 : c.ph = 4 → ∃ d ∈ ds, d.st = c.st ∧ d.cm = c.cm ∧ d.ws = c.ws
  c6 : c.ph = 1 ∨ c.ph = 2 ∨ c.ph = 3 → ∀ d ∈ ds, d.st ≠ c.st
/-- Rows whose records and locks are in order. -/
structure ROk (R : ByteArray → RowM) : Prop where
  recs : ∀ k, recsFrom 0 0 (R k).recs = true
  lock : ∀ k, (R k).ls ≠ 0 → 1 ≤ (R k).ls ∧ ∀ x ∈ (R k).recs, x.s ≠ (R k).ls ∧ x.c ≤ (R k).ls
theorem rOk_of {rows : List RowM} (h : RowsOk rows) : ROk (look rows) :=
  ⟨look_recs h, fun _ h0 => ⟨(inB_true.1 (look_locked h h0).2.1).1, (look_locked h h0).2.2⟩⟩

/-- One row anew. -/
def upd (R : ByteArray → RowM) (key : ByteArray) (r : RowM) : ByteArray → RowM := fun k => if k = key then r else R k
theorem upd_same (R : ByteArray → RowM) (key : ByteArray) (r : RowM) : upd R key r key = r := if_pos rfl
theorem upd_other (R : ByteArray → RowM) {key k : ByteArray} (r : RowM) (h : k ≠ key) : upd R key r k = R k := if_neg h
/-- What a step of the transaction s turns, and what not. -/
structure RStep (s : Int) (R R' : ByteArray → RowM) : Prop where
  recs : ∀ k, ∀ x ∈ (R k).recs, x ∈ (R' k).recs
  back : ∀ k, ∀ x ∈ (R' k).recs, x.s ≠ s → x ∈ (R k).recs
  lock : ∀ k t, t ≠ s → t ≠ 0 → (R k).ls = t → (R' k).ls = t ∧ (R' k).val = (R k).val
  lock' : ∀ k t, t ≠ s → t ≠ 0 → (R' k).ls = t → (R k).ls = t ∧ (R' k).val = (R k).val ∧ (R' k).lp = (R k).lp
  keep : ∀ k, Tr (R k) s → Tr (R' k) s
section
variable {prim : Int → ByteArray} {ds ds' : List DealM} {R R' : ByteArray → RowM} {s : Int} {c : ClM}
theorem RStep.tr (h : RStep s R R') {k : ByteArray} {t : Int} (h0 : t ≠ 0) (ht : Tr (R k) t) : Tr (R' k) t := by
  by_cases e : t = s
  · subst e; exact h.keep k ht
  · rcases ht with ht | ⟨x, hx, ex⟩
    · exact .inl (h.lock k t e h0 ht).1
    · exact .inr ⟨x, h.recs k x hx, ex⟩
theorem RStep.untr (h : RStep s R R') {k : ByteArray} {t : Int} (h0 : t ≠ 0) (e : t ≠ s) (ht : Tr (R' k) t) : Tr (R k) t := by
  rcases ht with ht | ⟨x, hx, ex⟩
  · exact .inl (h.lock' k t e h0 ht).1
  · exact .inr ⟨x, h.back k x hx (by rw [ex]; exact e), ex⟩
theorem RStep.gone (h : RStep s R R') {k : ByteArray} {t : Int} (ht : Gone (R k) t) : Gone (R' k) t := by
  obtain ⟨x, hx, e⟩ := ht
  exact ⟨x, h.recs k x hx, e⟩
/-- The other clients keep what they keep. -/
theorem ClInv.other (h : ClInv prim ds R c) (hs : RStep s R R') (hc : c.ph ≠ 0 → c.st ≠ s) (h1 : c.ph ≠ 0 → 1 ≤ c.st) (hd : ∀ d ∈ ds, d ∈ ds') (hd' : ∀ d ∈ ds', d ∈ ds ∨ d.st = s) : ClInv prim ds' R' c := by
  refine ⟨fun hp k ht => ?_, fun hp k hk => ?_, h.c3, fun hp i hi hat => ?_, fun hp => ?_, fun hp d hdd => ?_⟩
  · have h0 : c.ph ≠ 0 := by omega
    exact h.c1 hp k (hs.untr (by have := h1 h0; omega) (hc h0) ht)
  · have h0 : c.ph ≠ 0 := by omega
    obtain ⟨e1, e2, _⟩ := hs.lock' k c.st (hc h0) (by have := h1 h0; omega) hk
    rw [e2]; exact h.c2 hp k e1
  · have h0 : c.ph ≠ 0 := by omega
    rcases h.c4 hp i hi hat with ⟨e1, e2⟩ | hg
    · obtain ⟨e3, e4⟩ := hs.lock _ c.st (hc h0) (by have := h1 h0; omega) e1
      exact .inl ⟨e3, e4.trans e2⟩
    · exact .inr (hs.gone hg)
  · obtain ⟨d, hdm, e⟩ := h.c5 hp
    exact ⟨d, hd d hdm, e⟩
  · rcases hd' d hdd with h' | h'
    · exact h.c6 hp d h'
    · have h0 : c.ph ≠ 0 := by omega
      rw [h']; exact fun e => hc h0 e.symm
theorem zero_inv (h : c.ph = 0) : ClInv prim ds R c := ⟨fun h' => (by omega), fun h' => (by omega), fun h' => (by omega), fun h' => (by omega), fun h' => (by omega), fun h' => (by omega)⟩

/-- A lock is laid. -/
theorem lock_rstep {key pk pv : ByteArray} (h0 : (R key).ls = 0) : RStep s R (upd R key ⟨key, s, pk, pv, (R key).recs⟩) := by
  refine ⟨fun k x hx => ?_, fun k x hx _ => ?_, fun k t h1 h2 h3 => ?_, fun k t h1 h2 h3 => ?_, fun k ht => ?_⟩
  · by_cases e : k = key
    · subst e; rw [upd_same]; exact hx
    · rw [upd_other _ _ e]; exact hx
  · by_cases e : k = key
    · subst e; rw [upd_same] at hx; exact hx
    · rw [upd_other _ _ e] at hx; exact hx
  · by_cases e : k = key
    · subst e; exact absurd (h0.symm.trans h3).symm h2
    · rw [upd_other _ _ e]; exact ⟨h3, rfl⟩
  · by_cases e : k = key
    · subst e; rw [upd_same] at h3; exact absurd h3.symm h1
    · rw [upd_other _ _ e] at h3 ⊢; exact ⟨h3, rfl, rfl⟩
  · by_cases e : k = key
    · subst e; rw [upd_same]; exact .inl rfl
    · rw [upd_other _ _ e]; exact ht
theorem RInv.lock {key pk pv : ByteArray} (h : RInv prim ds R) (h0 : (R key).ls = 0) (hs : s ≠ 0) (hp : prim s = pk) (ht : key = pk ∨ Tr (R pk) s) (hd : ∀ d ∈ ds, d.st ≠ s) : RInv prim ds (upd R key ⟨key, s, pk, pv, (R key).recs⟩) := by
  have st := lock_rstep (s := s) (pk := pk) (pv := pv) h0
  have hrecs : ∀ k, (upd R key ⟨key, s, pk, pv, (R key).recs⟩ k).recs = (R k).recs := by
    intro k
    by_cases e : k = key
    · subst e; rw [upd_same]
    · rw [upd_other _ _ e]
  refine ⟨fun k hk => ?_, fun k x hx hc => ?_, fun k x hx hc => ?_, fun d hdm y hy => ?_, fun d hdm => ?_, fun d hdm k hk => ?_, h.d0, h.d1⟩
  · by_cases e : k = key
    · subst e
      rw [upd_same]
      dsimp only
      rw [hp]
      refine ⟨rfl, ?_⟩
      rcases ht with rfl | ht
      · rw [upd_same]; exact .inl rfl
      · exact st.tr hs ht
    · rw [upd_other _ _ e] at hk ⊢
      obtain ⟨h1, h2⟩ := h.lk k hk
      exact ⟨h1, st.tr hk h2⟩
  · rw [hrecs] at hx
    exact st.gone (h.un k x hx hc)
  · rw [hrecs] at hx; exact h.co k x hx hc
  · rw [hrecs]
    rcases h.dl d hdm y hy with h' | ⟨h1, h2⟩
    · exact .inl h'
    · obtain ⟨e1, e2⟩ := st.lock y.k d.st (hd d hdm) (by have := h.d1 d hdm; omega) h1
      exact .inr ⟨e1, e2.trans h2⟩
  · obtain ⟨x, hx, e⟩ := h.dp d hdm
    exact ⟨x, by rw [hrecs]; exact hx, e⟩
  · obtain ⟨e1, e2, _⟩ := st.lock' k d.st (hd d hdm) (by have := h.d1 d hdm; omega) hk
    rw [e2]; exact h.dk d hdm k e1
/-- Where a transaction has left no trace, its primary row may be whichever. -/
theorem RInv.reprim (h : RInv prim ds R) (ht : ∀ k, ¬ Tr (R k) s) (hd : ∀ d ∈ ds, d.st ≠ s) (pk : ByteArray) : RInv (fun t => if t = s then pk else prim t) ds R := by
  refine ⟨fun k hk => ?_, fun k x hx hc => ?_, h.co, h.dl, fun d hdm => ?_, h.dk, h.d0, h.d1⟩
  · have e : (R k).ls ≠ s := fun e => ht k (.inl e)
    rw [if_neg e]; exact h.lk k hk
  · have e : x.s ≠ s := fun e => ht k (.inr ⟨x, hx, e⟩)
    rw [if_neg e]; exact h.un k x hx hc
  · rw [if_neg (hd d hdm)]; exact h.dp d hdm
theorem ClInv.reprim (h : ClInv prim ds R c) (hc : c.ph ≠ 0 → c.st ≠ s) (pk : ByteArray) : ClInv (fun t => if t = s then pk else prim t) ds R c :=
  ⟨h.c1, h.c2, fun hp => by rw [if_neg (hc (by omega))]; exact h.c3 hp, h.c4, h.c5, h.c6⟩

/-- A lock becomes a record. -/
def ended (R : ByteArray → RowM) (key : ByteArray) (x : RecM) : ByteArray → RowM := upd R key ⟨key, 0, emptyS, emptyS, endRec (R key).recs x⟩
theorem end_rstep {key : ByteArray} {x : RecM} (hk : (R key).ls = x.s) (h0 : x.s ≠ 0) (hr : ∀ y ∈ (R key).recs, y.s ≠ x.s) : RStep x.s R (ended R key x) := by
  unfold ended
  refine ⟨fun k y hy => ?_, fun k y hy hne => ?_, fun k t h1 h2 h3 => ?_, fun k t h1 h2 h3 => ?_, fun k ht => ?_⟩
  · by_cases e : k = key
    · subst e; rw [upd_same]; exact mem_endRec.2 (.inr ⟨hy, hr y hy⟩)
    · rw [upd_other _ _ e]; exact hy
  · by_cases e : k = key
    · subst e
      rw [upd_same] at hy
      rcases mem_endRec.1 hy with rfl | ⟨hy, _⟩
      · exact absurd rfl hne
      · exact hy
    · rw [upd_other _ _ e] at hy; exact hy
  · by_cases e : k = key
    · subst e; exact absurd (h3.symm.trans hk) h1
    · rw [upd_other _ _ e]; exact ⟨h3, rfl⟩
  · by_cases e : k = key
    · subst e; rw [upd_same] at h3; exact absurd h3.symm h2
    · rw [upd_other _ _ e] at h3 ⊢; exact ⟨h3, rfl, rfl⟩
  · by_cases e : k = key
    · subst e; rw [upd_same]; exact .inr ⟨x, mem_endRec.2 (.inl rfl), rfl⟩
    · rw [upd_other _ _ e]; exact ht
theorem ended_recs {key k : ByteArray} {x y : RecM} (h : y ∈ (ended R key x k).recs) : (k = key ∧ y = x) ∨ y ∈ (R k).recs := by
  unfold ended at h
  by_cases e : k = key
  · subst e
    rw [upd_same] at h
    rcases mem_endRec.1 h with h | ⟨h, _⟩
    · exact .inl ⟨rfl, h⟩
    · exact .inr h
  · rw [upd_other _ _ e] at h; exact .inr h
theorem ended_lock {key k : ByteArray} {x : RecM} (h : (ended R key x k).ls ≠ 0) : k ≠ key ∧ ended R key x k = R k := by
  unfold ended at h ⊢
  by_cases e : k = key
  · subst e; rw [upd_same] at h; exact absurd rfl h
  · exact ⟨e, upd_other _ _ e⟩
theorem ended_new {key : ByteArray} {x : RecM} : x ∈ (ended R key x key).recs := by
  unfold ended; rw [upd_same]; exact mem_endRec.2 (.inl rfl)
/-- Undone, with its primary row first. -/
theorem RInv.undo {key : ByteArray} {v : ByteArray} (h : RInv prim ds R) (hk : (R key).ls = s) (h0 : s ≠ 0) (hr : ∀ y ∈ (R key).recs, y.s ≠ s) (hp : key = prim s ∨ Gone (R (prim s)) s) (hd : ∀ d ∈ ds, d.st ≠ s) : RInv prim ds (ended R key ⟨s, 0, v⟩) := by
  have st : RStep s R (ended R key ⟨s, 0, v⟩) := end_rstep (x := ⟨s, 0, v⟩) hk h0 hr
  refine ⟨fun k hk => ?_, fun k x hx hc => ?_, fun k x hx hc => ?_, fun d hdm y hy => ?_, fun d hdm => ?_, fun d hdm k hk => ?_, h.d0, h.d1⟩
  · obtain ⟨_, e⟩ := ended_lock hk
    rw [e] at hk ⊢
    obtain ⟨h1, h2⟩ := h.lk k hk
    exact ⟨h1, st.tr hk h2⟩
  · rcases ended_recs hx with ⟨rfl, rfl⟩ | hx
    · rcases hp with hp | hp
      · dsimp only
        rw [← hp]
        exact ⟨_, ended_new, rfl, rfl⟩
      · exact st.gone hp
    · exact st.gone (h.un k x hx hc)
  · rcases ended_recs hx with ⟨_, rfl⟩ | hx
    · exact absurd rfl hc
    · exact h.co k x hx hc
  · rcases h.dl d hdm y hy with h' | ⟨h1, h2⟩
    · exact .inl (st.recs _ _ h')
    · obtain ⟨e1, e2⟩ := st.lock y.k d.st (hd d hdm) (by have := h.d1 d hdm; omega) h1
      exact .inr ⟨e1, e2.trans h2⟩
  · obtain ⟨x, hx, e⟩ := h.dp d hdm
    exact ⟨x, st.recs _ _ hx, e⟩
  · obtain ⟨e1, e2, _⟩ := st.lock' k d.st (hd d hdm) (by have := h.d1 d hdm; omega) hk
    rw [e2]; exact h.dk d hdm k e1
theorem ClInv.undo {key : ByteArray} {v : ByteArray} (h : ClInv prim ds R c) (hk : (R key).ls = s) (h0 : s ≠ 0) (hr : ∀ y ∈ (R key).recs, y.s ≠ s) (h1 : c.ph ≠ 0 → 1 ≤ c.st) : ClInv prim ds (ended R key ⟨s, 0, v⟩) c := by
  have st : RStep s R (ended R key ⟨s, 0, v⟩) := end_rstep (x := ⟨s, 0, v⟩) hk h0 hr
  by_cases e : c.st = s
  · refine ⟨fun hp k ht => ?_, fun hp k hk' => ?_, h.c3, fun hp i hi hat => ?_, h.c5, h.c6⟩
    · exact h.c1 hp key (.inl (hk.trans e.symm))
    · obtain ⟨_, e'⟩ := ended_lock (show (ended R key ⟨s, 0, v⟩ k).ls ≠ 0 by rw [hk', e]; exact h0)
      rw [e'] at hk' ⊢
      exact h.c2 hp k hk'
    · rcases h.c4 hp i hi hat with ⟨e1, e2⟩ | hg
      · by_cases ek : (c.ws.getD i default).k = key
        · right
          rw [ek, e]
          exact ⟨_, ended_new, rfl, rfl⟩
        · left
          unfold ended
          rw [upd_other _ _ ek]
          exact ⟨e1, e2⟩
      · exact .inr (st.gone hg)
  · exact h.other st (fun _ => e) h1 (fun _ h => h) (fun _ h => .inl h)
/-- Committed, where it is in the primary row. -/
theorem RInv.commit {key : ByteArray} {cm : Int} {d : DealM} (h : RInv prim ds R) (hk : (R key).ls = s) (h0 : s ≠ 0) (hr : ∀ y ∈ (R key).recs, y.s ≠ s) (hd : d ∈ ds) (e1 : d.st = s) (e2 : d.cm = cm) (hc0 : cm ≠ 0) : RInv prim ds (ended R key ⟨s, cm, (R key).val⟩) := by
  have st : RStep s R (ended R key ⟨s, cm, (R key).val⟩) := end_rstep (x := ⟨s, cm, (R key).val⟩) hk h0 hr
  refine ⟨fun k hk => ?_, fun k x hx hc => ?_, fun k x hx hc => ?_, fun d' hdm y hy => ?_, fun d' hdm => ?_, fun d' hdm k hk' => ?_, h.d0, h.d1⟩
  · obtain ⟨_, e⟩ := ended_lock hk
    rw [e] at hk ⊢
    obtain ⟨h1, h2⟩ := h.lk k hk
    exact ⟨h1, st.tr hk h2⟩
  · rcases ended_recs hx with ⟨_, rfl⟩ | hx
    · exact absurd hc hc0
    · exact st.gone (h.un k x hx hc)
  · rcases ended_recs hx with ⟨rfl, rfl⟩ | hx
    · exact ⟨d, hd, e1, e2, h.dk d hd _ (hk.trans e1.symm)⟩
    · exact h.co k x hx hc
  · rcases h.dl d' hdm y hy with h' | ⟨h1, h2⟩
    · exact .inl (st.recs _ _ h')
    · by_cases es : d'.st = s
      · have : d' = d := h.d0 d' hdm d hd (es.trans e1.symm)
        subst this
        by_cases ek : y.k = key
        · left
          rw [ek] at h2 ⊢
          rw [e1, e2, ← h2]
          exact ended_new
        · right
          unfold ended
          rw [upd_other _ _ ek]
          exact ⟨h1, h2⟩
      · obtain ⟨e3, e4⟩ := st.lock y.k d'.st es (by have := h.d1 d' hdm; omega) h1
        exact .inr ⟨e3, e4.trans h2⟩
  · obtain ⟨x, hx, e⟩ := h.dp d' hdm
    exact ⟨x, st.recs _ _ hx, e⟩
  · obtain ⟨_, e⟩ := ended_lock (show (ended R key ⟨s, cm, (R key).val⟩ k).ls ≠ 0 by rw [hk']; have := h.d1 d' hdm; omega)
    rw [e] at hk' ⊢
    exact h.dk d' hdm k hk'
/-- Committed in the primary row: a deal. -/
theorem RInv.deal {key : ByteArray} {cm : Int} {act : Nat} {ws : List WrM} (h : RInv prim ds R) (hk : (R key).ls = s) (h1 : 1 ≤ s) (hr : ∀ y ∈ (R key).recs, y.s ≠ s) (hp : key = prim s) (hd : ∀ d ∈ ds, d.st ≠ s) (hc0 : cm ≠ 0)
    (hin : ∀ k, (R k).ls = s → ⟨k, (R k).val⟩ ∈ ws) (hall : ∀ y ∈ ws, (R y.k).ls = s ∧ (R y.k).val = y.v) : RInv prim (ds ++ [⟨s, cm, act, ws⟩]) (ended R key ⟨s, cm, (R key).val⟩) := by
  have st : RStep s R (ended R key ⟨s, cm, (R key).val⟩) := end_rstep (x := ⟨s, cm, (R key).val⟩) hk (by show s ≠ 0; omega) hr
  have hmem : ∀ d, d ∈ ds ++ [(⟨s, cm, act, ws⟩ : DealM)] ↔ d ∈ ds ∨ d = ⟨s, cm, act, ws⟩ := fun d => by simp
  refine ⟨fun k hk => ?_, fun k x hx hc => ?_, fun k x hx hc => ?_, fun d hdm y hy => ?_, fun d hdm => ?_, fun d hdm k hk' => ?_, fun d hdm d' hdm' e => ?_, fun d hdm => ?_⟩
  · obtain ⟨_, e⟩ := ended_lock hk
    rw [e] at hk ⊢
    obtain ⟨h1, h2⟩ := h.lk k hk
    exact ⟨h1, st.tr hk h2⟩
  · rcases ended_recs hx with ⟨_, rfl⟩ | hx
    · exact absurd hc hc0
    · exact st.gone (h.un k x hx hc)
  · rcases ended_recs hx with ⟨rfl, rfl⟩ | hx
    · exact ⟨_, (hmem _).2 (.inr rfl), rfl, rfl, hin _ hk⟩
    · obtain ⟨d, hdm, e⟩ := h.co k x hx hc
      exact ⟨d, (hmem _).2 (.inl hdm), e⟩
  · rcases (hmem d).1 hdm with hdm | rfl
    · rcases h.dl d hdm y hy with h' | ⟨h1', h2⟩
      · exact .inl (st.recs _ _ h')
      · obtain ⟨e3, e4⟩ := st.lock y.k d.st (hd d hdm) (by have := h.d1 d hdm; omega) h1'
        exact .inr ⟨e3, e4.trans h2⟩
    · obtain ⟨e1, e2⟩ := hall y hy
      by_cases ek : y.k = key
      · left
        rw [ek] at e2 ⊢
        dsimp only
        rw [← e2]
        exact ended_new
      · right
        unfold ended
        rw [upd_other _ _ ek]
        exact ⟨e1, e2⟩
  · rcases (hmem d).1 hdm with hdm | rfl
    · obtain ⟨x, hx, e⟩ := h.dp d hdm
      exact ⟨x, st.recs _ _ hx, e⟩
    · dsimp only
      rw [← hp]
      exact ⟨_, ended_new, rfl, rfl, hc0⟩
  · rcases (hmem d).1 hdm with hdm | rfl
    · obtain ⟨e1, e2, _⟩ := st.lock' k d.st (hd d hdm) (by have := h.d1 d hdm; omega) hk'
      rw [e2]; exact h.dk d hdm k e1
    · obtain ⟨_, e⟩ := ended_lock (show (ended R key ⟨s, cm, (R key).val⟩ k).ls ≠ 0 by rw [hk']; show s ≠ 0; omega)
      rw [e] at hk' ⊢
      exact hin k hk'
  · rcases (hmem d).1 hdm with hdm | rfl
    · rcases (hmem d').1 hdm' with hdm' | rfl
      · exact h.d0 d hdm d' hdm' e
      · exact absurd e (hd d hdm)
    · rcases (hmem d').1 hdm' with hdm' | rfl
      · exact absurd e.symm (hd d' hdm')
      · rfl
  · rcases (hmem d).1 hdm with hdm | rfl
    · exact h.d1 d hdm
    · exact h1
end
end Go.Proofs.YtambkjnhfejfaacGreatDoor

namespace Go.Proofs.YtambkjnhfejfaacGreatDoor
open Go.RowKit

structure WInv (prim : Int → ByteArray) (ds : List DealM) (wo : WoM) : Prop where
  rows : RInv prim ds (look wo.rows)
  cls : ∀ (C : Nat) c, wo.cls[C]? = some c → ClInv prim ds (look wo.rows) c
  apart : ∀ (C C' : Nat) c c', wo.cls[C]? = some c → wo.cls[C']? = some c' → C ≠ C' → c.ph ≠ 0 → c'.ph ≠ 0 → c.st ≠ c'.st
  dt : ∀ d ∈ ds, d.st < d.cm ∧ d.cm ≤ wo.clock
theorem cl_st {clock : Int} {c : ClM} (h : ClGood clock c) (h0 : c.ph ≠ 0) : 1 ≤ c.st ∧ c.st ≤ clock := by
  have := h.ph; omega
theorem Good.cl {wo : WoM} (h : Good wo) {C : Nat} {c : ClM} (hc : wo.cls[C]? = some c) : ClGood wo.clock c := clB_iff.1 (h.cls c (List.mem_of_getElem? hc))
section
variable {prim prim' : Int → ByteArray} {ds ds' : List DealM} {wo : WoM} {C : Nat} {c c' : ClM} {rows rows' : List RowM} {s : Int}
/-- One client anew, and the rows. -/
theorem WInv.put (h : WInv prim ds wo) {clock : Int} (hr : RInv prim' ds' (look rows')) (ho : ∀ (C' : Nat) e, C' ≠ C → wo.cls[C']? = some e → ClInv prim' ds' (look rows') e) (hc : ClInv prim' ds' (look rows') c')
    (ha : c'.ph ≠ 0 → ∀ (C' : Nat) e, C' ≠ C → wo.cls[C']? = some e → e.ph ≠ 0 → e.st ≠ c'.st) (hd : ∀ d ∈ ds', d.st < d.cm ∧ d.cm ≤ clock) : WInv prim' ds' ⟨rows', clock, wo.cls.set C c'⟩ := by
  have hget : ∀ (C' : Nat) e, (wo.cls.set C c')[C']? = some e → (C' = C ∧ e = c') ∨ (C' ≠ C ∧ wo.cls[C']? = some e) := by
    intro C' e he
    by_cases eC : C' = C
    · subst eC
      rw [List.getElem?_set] at he
      split at he
      · split at he
        · injection he with he; exact .inl ⟨rfl, he.symm⟩
        · cases he
      · rename_i hh; exact absurd rfl hh
    · rw [List.getElem?_set_ne (Ne.symm eC)] at he
      exact .inr ⟨eC, he⟩
  refine ⟨hr, fun C' e he => ?_, fun C1 C2 e1 e2 h1 h2 hne p1 p2 => ?_, hd⟩
  · rcases hget C' e he with ⟨_, rfl⟩ | ⟨hne, he⟩
    · exact hc
    · exact ho C' e hne he
  · rcases hget C1 e1 h1 with ⟨a1, rfl⟩ | ⟨n1, g1⟩
    · rcases hget C2 e2 h2 with ⟨a2, rfl⟩ | ⟨n2, g2⟩
      · exact absurd (a1.trans a2.symm) hne
      · exact fun e => ha p1 C2 e2 n2 g2 p2 e.symm
    · rcases hget C2 e2 h2 with ⟨a2, rfl⟩ | ⟨n2, g2⟩
      · exact ha p2 C1 e1 n1 g1 p1
      · exact h.apart C1 C2 e1 e2 g1 g2 hne p1 p2
theorem WInv.away (h : WInv prim ds wo) (hc : wo.cls[C]? = some c) (h0 : c.ph ≠ 0) : ∀ (C' : Nat) e, C' ≠ C → wo.cls[C']? = some e → e.ph ≠ 0 → e.st ≠ c.st :=
  fun C' e hne he hp => h.apart C' C e c he hc hne hp h0
/-- A client that becomes idle. -/
theorem WInv.idle (h : WInv prim ds wo) : WInv prim ds (wo.setC C idleC) := h.put h.rows (fun C' e _ he => h.cls C' e he) (zero_inv rfl) (fun h0 => absurd rfl h0) h.dt

/-- Operations on a row that has the lock. -/
theorem commit_does {r : RowM} {cm : Int} (hok : r.ok = true) (hls : r.ls = s) (hs : inB s 1 1099511627776 = true) (hc : inB cm (s + 1) 1099511627776 = true) : commitOp s cm r = (⟨r.key, 0, emptyS, emptyS, endRec r.recs ⟨s, cm, r.val⟩⟩, 0) := by
  have e : commitE r.key r.ls r.lp r.val r.recs s cm = 0 := by
    unfold commitE
    rw [if_neg (by rw [show rowB r.key r.ls r.lp r.val r.recs = true from hok]; decide), if_neg (by rw [hs]; decide), if_neg (by rw [hc]; decide), if_neg (by rw [stOf_one.2 hls]; decide), if_neg (by simpa using hls)]
  unfold commitOp
  exact if_pos e
theorem undo_does {r : RowM} (hok : r.ok = true) (hls : r.ls = s) (hs : inB s 1 1099511627776 = true) : undoOp s r = (⟨r.key, 0, emptyS, emptyS, endRec r.recs ⟨s, 0, emptyS⟩⟩, 0) := by
  have e : undoE r.key r.ls r.lp r.val r.recs s = 0 := by
    unfold undoE
    rw [if_neg (by rw [show rowB r.key r.ls r.lp r.val r.recs = true from hok]; decide), if_neg (by rw [hs]; decide), if_neg (by rw [stOf_one.2 hls]; decide), if_neg (by rw [stOf_one.2 hls]; decide), if_pos hls]
  unfold undoOp
  rw [if_pos e]
  unfold undoneR
  rw [if_neg (by rw [stOf_one.2 hls]; decide), if_pos (stOf_one.2 hls)]
theorem look_has {k : ByteArray} (h : Tr (look rows k) s) (h0 : s ≠ 0) : hasK (rowKeys rows) k = true := by
  cases hh : hasK (rowKeys rows) k with
  | true => rfl
  | false =>
    have : look rows k = freshRow k := by rw [look, if_neg (by rw [hh]; decide)]
    rw [this] at h
    rcases h with h | ⟨x, hx, _⟩
    · exact absurd h.symm h0
    · cases hx
theorem chg_code {key : ByteArray} {op : RowM → RowM × Int} (hk : hasK (rowKeys rows) key = true) : (chgRow rows key op).2 = (op (look rows key)).2 := by
  rw [chgRow, if_pos hk, look, if_pos hk]
/-- A lock is undone. -/
theorem undo_rows {key : ByteArray} (h : RowsOk rows) (hls : (look rows key).ls = s) (h0 : s ≠ 0) : (chgRow rows key (undoOp s)).2 = 0 ∧ RowsOk (chgRow rows key (undoOp s)).1 ∧ look (chgRow rows key (undoOp s)).1 = ended (look rows) key ⟨s, 0, emptyS⟩ ∧ (∀ y ∈ (look rows key).recs, y.s ≠ s) := by
  have hk : hasK (rowKeys rows) key = true := look_has (.inl hls) h0
  obtain ⟨hok, hin, hrec⟩ := look_locked h (k := key) (by rw [hls]; exact h0)
  rw [hls] at hin hrec
  have hd := undo_does hok hls hin
  have hcode : (chgRow rows key (undoOp s)).2 = 0 := by rw [chg_code hk, hd]
  refine ⟨hcode, chg_ok h (undoOp_good s) (.inl hk), funext fun k => ?_, fun y hy => (hrec y hy).1⟩
  rw [(chg_look h (undoOp_good s) (.inl hk) hcode).2 k, hd]
  unfold ended upd
  rw [look_key]
theorem commit_rows {key : ByteArray} {cm : Int} (h : RowsOk rows) (hls : (look rows key).ls = s) (h0 : s ≠ 0) (hc : inB cm (s + 1) 1099511627776 = true) : (chgRow rows key (commitOp s cm)).2 = 0 ∧ RowsOk (chgRow rows key (commitOp s cm)).1 ∧ look (chgRow rows key (commitOp s cm)).1 = ended (look rows) key ⟨s, cm, (look rows key).val⟩ ∧ (∀ y ∈ (look rows key).recs, y.s ≠ s) := by
  have hk : hasK (rowKeys rows) key = true := look_has (.inl hls) h0
  obtain ⟨hok, hin, hrec⟩ := look_locked h (k := key) (by rw [hls]; exact h0)
  rw [hls] at hin hrec
  have hd := commit_does (cm := cm) hok hls hin hc
  have hcode : (chgRow rows key (commitOp s cm)).2 = 0 := by rw [chg_code hk, hd]
  refine ⟨hcode, chg_ok h (commitOp_good s cm) (.inl hk), funext fun k => ?_, fun y hy => (hrec y hy).1⟩
  rw [(chg_look h (commitOp_good s cm) (.inl hk) hcode).2 k, hd]
  unfold ended upd
  rw [look_key]
/-- Rows behind some undoing of a transaction. -/
structure Undoing (prim : Int → ByteArray) (ds : List DealM) (rows rows' : List RowM) : Prop where
  ok : RowsOk rows'
  inv : RInv prim ds (look rows')
  cl : ∀ c : ClM, ClInv prim ds (look rows) c → (c.ph ≠ 0 → 1 ≤ c.st) → ClInv prim ds (look rows') c
  gone : ∀ k t, Gone (look rows k) t → Gone (look rows' k) t
  lock : ∀ k, (look rows' k).ls = 0 ∨ look rows' k = look rows k
theorem Undoing.refl (h : RowsOk rows) (hi : RInv prim ds (look rows)) : Undoing prim ds rows rows := ⟨h, hi, fun _ h _ => h, fun _ _ h => h, fun _ => .inr rfl⟩
theorem Undoing.trans {rows'' : List RowM} (h : Undoing prim ds rows rows') (h' : Undoing prim ds rows' rows'') : Undoing prim ds rows rows'' :=
  ⟨h'.ok, h'.inv, fun c hc h1 => h'.cl c (h.cl c hc h1) h1, fun k t hg => h'.gone k t (h.gone k t hg), fun k => by
    rcases h'.lock k with e | e
    · exact .inl e
    · rw [e]; exact h.lock k⟩
theorem undo_once {key : ByteArray} (h : RowsOk rows) (hi : RInv prim ds (look rows)) (hls : (look rows key).ls = s) (h0 : s ≠ 0) (hp : key = prim s ∨ Gone (look rows (prim s)) s) (hd : ∀ d ∈ ds, d.st ≠ s) : Undoing prim ds rows (chgRow rows key (undoOp s)).1 ∧ Gone (look (chgRow rows key (undoOp s)).1 key) s ∧ (look (chgRow rows key (undoOp s)).1 key).ls = 0 := by
  obtain ⟨_, h2, h3, h4⟩ := undo_rows h hls h0
  have st : RStep s (look rows) (ended (look rows) key ⟨s, 0, emptyS⟩) := end_rstep (x := ⟨s, 0, emptyS⟩) hls h0 h4
  refine ⟨⟨h2, by rw [h3]; exact hi.undo hls h0 h4 hp hd, fun c hc h1 => by rw [h3]; exact hc.undo hls h0 h4 h1, fun k t hg => by rw [h3]; exact st.gone hg, fun k => ?_⟩, by rw [h3]; exact ⟨_, ended_new, rfl, rfl⟩, by rw [h3]; unfold ended; rw [upd_same]⟩
  rw [h3]
  by_cases e : (ended (look rows) key ⟨s, 0, emptyS⟩ k).ls = 0
  · exact .inl e
  · exact .inr (ended_lock e).2
theorem stat_one {key : ByteArray} (h1 : 1 ≤ s) : (statIn rows key s).1 = 1 ↔ (look rows key).ls = s := by
  rw [stat_look key h1]; exact stOf_one
theorem fail_rest (h1 : 1 ≤ s) (hd : ∀ d ∈ ds, d.st ≠ s) : ∀ (l : List WrM) (rows : List RowM), RowsOk rows → RInv prim ds (look rows) → Gone (look rows (prim s)) s → Undoing prim ds rows (failRows s l rows)
  | [], rows, h, hi, _ => Undoing.refl h hi
  | x :: l, rows, h, hi, hg => by
    show Undoing prim ds rows (failRows s l (if (statIn rows x.k s).1 = 1 then (chgRow rows x.k (undoOp s)).1 else rows))
    split
    · rename_i e
      have hu := (undo_once h hi ((stat_one h1).1 e) (by omega) (.inr hg) hd).1
      exact hu.trans (fail_rest h1 hd l _ hu.ok hu.inv (hu.gone _ _ hg))
    · exact fail_rest h1 hd l rows h hi hg
theorem fail_none (h1 : 1 ≤ s) : ∀ (l : List WrM) (rows : List RowM), (∀ k, (look rows k).ls ≠ s) → failRows s l rows = rows
  | [], _, _ => rfl
  | x :: l, rows, h => by
    show failRows s l (if (statIn rows x.k s).1 = 1 then (chgRow rows x.k (undoOp s)).1 else rows) = rows
    rw [if_neg (fun e => h x.k ((stat_one h1).1 e))]
    exact fail_none h1 l rows h
/-- A client fails. -/
theorem fail_inv (h : RowsOk rows) (hi : RInv prim ds (look rows)) (hc : ClInv prim ds (look rows) c) (h23 : c.ph = 2 ∨ c.ph = 3) (h1 : 1 ≤ c.st) (hw : 1 ≤ c.ws.length) (hat : c.ph = 2 → 0 ≤ c.at_) : Undoing prim ds rows (failRows c.st c.ws rows) := by
  have hd : ∀ d ∈ ds, d.st ≠ c.st := hc.c6 (by omega)
  by_cases h0 : c.ph = 2 ∧ c.at_ = 0
  · rw [fail_none h1 _ _ fun k e => hc.c1 (.inr h0) k (.inl e)]
    exact Undoing.refl h hi
  · have hp : prim c.st = (c.ws.getD 0 default).k := hc.c3 (by omega)
    have h4 := hc.c4 h23 0 hw (by omega)
    obtain ⟨x, l, hxl⟩ : ∃ x l, c.ws = x :: l := by
      cases hcw : c.ws with
      | nil => rw [hcw] at hw; exact absurd hw (by decide)
      | cons x l => exact ⟨x, l, rfl⟩
    have hx : (c.ws.getD 0 default) = x := by rw [hxl]; rfl
    rw [hx] at hp h4
    rw [hxl]
    show Undoing prim ds rows (failRows c.st l (if (statIn rows x.k c.st).1 = 1 then (chgRow rows x.k (undoOp c.st)).1 else rows))
    split
    · rename_i e
      obtain ⟨hu, hg, _⟩ := undo_once h hi ((stat_one h1).1 e) (by omega) (.inl hp.symm) hd
      exact hu.trans (fail_rest h1 hd l _ hu.ok hu.inv (by rw [hp]; exact hg))
    · rename_i e
      rcases h4 with ⟨h4, _⟩ | h4
      · exact absurd ((stat_one h1).2 h4) e
      · exact fail_rest h1 hd l rows h hi (by rw [hp]; exact h4)
theorem WInv.fail (h : WInv prim ds wo) (hg : Good wo) (hci : ClInv prim ds (look wo.rows) c) (h23 : c.ph = 2 ∨ c.ph = 3) (h1 : 1 ≤ c.st) (hw : 1 ≤ c.ws.length) (hat : c.ph = 2 → 0 ≤ c.at_) : WInv prim ds (failW wo C c) := by
  have hu := fail_inv hg.rows h.rows hci h23 h1 hw hat
  exact h.put hu.inv (fun C' e _ he => hu.cl e (h.cls C' e he) fun h0 => (cl_st (hg.cl he) h0).1) (zero_inv rfl) (fun h0 => absurd rfl h0) h.dt
/-- A step of locking. -/
theorem WInv.lock (h : WInv prim ds wo) (hg : Good wo) (hc : wo.cls[C]? = some c') (hst : c.st = c'.st) (hp' : c'.ph ≠ 0) (hci : ClInv prim ds (look wo.rows) c) (h2 : c.ph = 2) (hok : ClGood wo.clock c) (hat : c.at_ < c.ws.length) : ∃ prim', WInv prim' ds (lockW wo C c).1 := by
  have hph := hok.ph
  have hph : 1 ≤ c.st ∧ c.st ≤ wo.clock ∧ c.cm = 0 ∧ 1 ≤ c.ws.length ∧ 0 ≤ c.at_ ∧ c.at_ ≤ c.ws.length := by omega
  have hlt : c.at_.toNat < c.ws.length := by omega
  have hmem : c.ws.getD c.at_.toNat default ∈ c.ws := getD_mem hlt
  obtain ⟨y, hy⟩ : ∃ y, y = c.ws.getD c.at_.toNat default := ⟨_, rfl⟩
  have hd : ∀ d ∈ ds, d.st ≠ c.st := hci.c6 (by omega)
  have haway : ∀ (C' : Nat) e, C' ≠ C → wo.cls[C']? = some e → e.ph ≠ 0 → e.st ≠ c.st := fun C' e hne he hp => by rw [hst]; exact h.away hc hp' C' e hne he hp
  have hk := (hok.ws.each _ hmem).1
  unfold lockW
  dsimp only
  rw [← hy] at hmem hk ⊢
  split
  · rename_i e
    obtain ⟨e2, hlook⟩ := chg_look hg.rows (lockOp_good _ _ _) (.inr hk) e
    obtain ⟨hs, hls, hcs, hn, _⟩ := lock_zero_parts (look_valid hg.rows hk) e2
    have hR : look (chgRow wo.rows y.k (lockOp c.st (c.ws.getD 0 default).k y.v)).1 = upd (look wo.rows) y.k ⟨y.k, c.st, (c.ws.getD 0 default).k, y.v, (look wo.rows y.k).recs⟩ := by
      funext k
      rw [hlook k, (lock_fst e2).2, look_key]
      rfl
    have st := lock_rstep (R := look wo.rows) (s := c.st) (key := y.k) (pk := (c.ws.getD 0 default).k) (pv := y.v) hls
    -- the primary row
    obtain ⟨prim', hpr, hrinv, hcl⟩ : ∃ prim', prim' c.st = (c.ws.getD 0 default).k ∧ (RInv prim' ds (look wo.rows) ∧ (y.k = (c.ws.getD 0 default).k ∨ Tr (look wo.rows (c.ws.getD 0 default).k) c.st)) ∧ (∀ (C' : Nat) e, C' ≠ C → wo.cls[C']? = some e → ClInv prim' ds (look wo.rows) e) := by
      by_cases h0 : c.at_ = 0
      · refine ⟨fun t => if t = c.st then (c.ws.getD 0 default).k else prim t, if_pos rfl, ⟨h.rows.reprim (hci.c1 (.inr ⟨h2, h0⟩)) hd _, .inl ?_⟩, fun C' e hne he => (h.cls C' e he).reprim (fun hp => haway C' e hne he hp) _⟩
        rw [hy, h0]; rfl
      · refine ⟨prim, hci.c3 (.inl ⟨h2, by omega⟩), ⟨h.rows, .inr ?_⟩, fun C' e _ he => h.cls C' e he⟩
        rcases hci.c4 (.inl h2) 0 hph.2.2.2.1 (fun _ => by omega) with ⟨h4, _⟩ | ⟨x, hx, ex, _⟩
        · exact .inl h4
        · exact .inr ⟨x, hx, ex⟩
    refine ⟨prim', h.put (by rw [hR]; exact hrinv.1.lock hls (by omega) hpr hrinv.2 hd) (fun C' e hne he => by rw [hR]; exact (hcl C' e hne he).other st (fun hp => haway C' e hne he hp) (fun hp => (cl_st (hg.cl he) hp).1) (fun _ h => h) (fun _ h => .inl h)) ?_ (fun _ C' e hne he hp => haway C' e hne he hp) h.dt⟩
    rw [hR]
    refine ⟨fun hp => ?_, fun _ k hk' => ?_, fun _ => hpr, fun _ i hi hat' => ?_, fun hp => ?_, fun _ => hd⟩
    · exfalso
      rcases hp with hp | ⟨_, hp⟩
      · have : c.ph = 1 := hp; omega
      · have : c.at_ + 1 = 0 := hp; omega
    · by_cases ek : k = y.k
      · subst ek; rw [upd_same]; exact hmem
      · rw [upd_other _ _ ek] at hk' ⊢; exact hci.c2 (.inl h2) k hk'
    · have hi' : i < c.ws.length := hi
      have hat' : (i : Int) < c.at_ + 1 := hat' h2
      by_cases ei : i = c.at_.toNat
      · subst ei
        left
        show (upd _ _ _ (c.ws.getD c.at_.toNat default).k).ls = c.st ∧ (upd _ _ _ (c.ws.getD c.at_.toNat default).k).val = (c.ws.getD c.at_.toNat default).v
        rw [← hy, upd_same]
        exact ⟨rfl, rfl⟩
      · rcases hci.c4 (.inl h2) i hi' (fun _ => by omega) with ⟨h4, h5⟩ | h4
        · left
          show (upd _ _ _ (c.ws.getD i default).k).ls = c.st ∧ (upd _ _ _ (c.ws.getD i default).k).val = (c.ws.getD i default).v
          have ek : (c.ws.getD i default).k ≠ y.k := fun ek => by rw [ek, hls] at h4; omega
          rw [upd_other _ _ ek]
          exact ⟨h4, h5⟩
        · exact .inr (st.gone h4)
    · have : c.ph = 4 := hp
      omega
  · split
    · exact ⟨prim, h.put h.rows (fun C' e _ he => h.cls C' e he) hci (fun _ C' e hne he hp => haway C' e hne he hp) h.dt⟩
    · exact ⟨prim, h.fail hg hci (.inl h2) hph.1 hph.2.2.2.1 (fun _ => hph.2.2.2.2.1)⟩
theorem open_inv {R : ByteArray → RowM} (h : ClInv prim ds R c) (h1 : c.ph = 1) (h0 : c.at_ = 0) : ClInv prim ds R { c with ph := 2 } := by
  refine ⟨fun _ => h.c1 (.inl h1), fun _ k hk => absurd (.inl hk) (h.c1 (.inl h1) k), fun hp => ?_, fun _ i _ hat => ?_, fun hp => ?_, fun _ => h.c6 (.inl h1)⟩
  · have hp : ((2 : Int) = 2 ∧ 1 ≤ c.at_) ∨ (2 : Int) = 3 := hp
    omega
  · have : (i : Int) < c.at_ := hat rfl
    omega
  · have hp : (2 : Int) = 4 := hp
    omega
theorem four_inv {R : ByteArray → RowM} (h4 : c.ph = 4) (hd : ∃ d ∈ ds, d.st = c.st ∧ d.cm = c.cm ∧ d.ws = c.ws) : ClInv prim ds R c :=
  ⟨fun h' => (by omega), fun h' => (by omega), fun h' => (by omega), fun h' => (by omega), fun _ => hd, fun h' => (by omega)⟩
/-- What a commit leaves: the deals. -/
def commitDs (ds : List DealM) (act : Nat) (wo : WoM) (C : Nat) (c : ClM) : List DealM := if c.ph = 3 ∧ (commitW wo C c).2 = 0 then ds ++ [⟨c.st, c.cm, act, c.ws⟩] else ds
theorem WInv.commit (h : WInv prim ds wo) (hg : Good wo) (act : Nat) (hc : wo.cls[C]? = some c) (h34 : c.ph = 3 ∨ c.ph = 4) : WInv prim (commitDs ds act wo C c) (commitW wo C c).1 := by
  have hok := hg.cl hc
  have hci := h.cls C c hc
  have hph := hok.ph
  have hc1 := hg.c1
  have hph : 1 ≤ c.st ∧ c.st < c.cm ∧ c.cm ≤ wo.clock ∧ 0 ≤ c.at_ ∧ c.at_ < c.ws.length ∧ (c.ph = 3 → c.at_ = 0) := by omega
  have hlt : c.at_.toNat < c.ws.length := by omega
  have hmem : c.ws.getD c.at_.toNat default ∈ c.ws := getD_mem hlt
  obtain ⟨y, hy⟩ : ∃ y, y = c.ws.getD c.at_.toNat default := ⟨_, rfl⟩
  have haway := h.away hc (by omega)
  have hk := (hok.ws.each _ hmem).1
  have hcm : inB c.cm (c.st + 1) 1099511627776 = true := inB_true.2 ⟨by omega, by omega⟩
  rw [← hy] at hmem hk
  by_cases e : (chgRow wo.rows y.k (commitOp c.st c.cm)).2 = 0
  · -- it is committed here
    have hls : (look wo.rows y.k).ls = c.st := by
      obtain ⟨e2, _⟩ := chg_look hg.rows (commitOp_good _ _) (.inr hk) e
      exact (commitOp_valid (look_valid hg.rows hk) e2).2.2.1
    obtain ⟨_, _, hR, hrec⟩ := commit_rows hg.rows hls (by omega) hcm
    have st : RStep c.st (look wo.rows) (ended (look wo.rows) y.k ⟨c.st, c.cm, (look wo.rows y.k).val⟩) := end_rstep (x := ⟨c.st, c.cm, (look wo.rows y.k).val⟩) hls (by show c.st ≠ 0; omega) hrec
    have hW : commitW wo C c = if c.at_ + 1 = (c.ws.length : Int) then ((⟨(chgRow wo.rows y.k (commitOp c.st c.cm)).1, wo.clock, wo.cls.set C idleC⟩ : WoM), (0 : Int)) else (⟨(chgRow wo.rows y.k (commitOp c.st c.cm)).1, wo.clock, wo.cls.set C ⟨4, c.st, c.cm, c.ws, c.at_ + 1⟩⟩, 0) := by
      unfold commitW
      dsimp only
      rw [← hy, if_neg (fun hh => hh.1 e)]
    have hcode : (commitW wo C c).2 = 0 := by rw [hW]; split <;> rfl
    unfold commitDs
    rw [hcode, hW]
    by_cases h3 : c.ph = 3
    · rw [if_pos ⟨h3, rfl⟩]
      have hyp : y.k = prim c.st := by rw [hci.c3 (.inr h3), hy, hph.2.2.2.2.2 h3]; rfl
      have hd : ∀ d ∈ ds, d.st ≠ c.st := hci.c6 (by omega)
      have hall : ∀ z ∈ c.ws, (look wo.rows z.k).ls = c.st ∧ (look wo.rows z.k).val = z.v := by
        intro z hz
        obtain ⟨i, hi, ez⟩ := List.getElem_of_mem hz
        have e' : c.ws.getD i default = z := by simp [List.getD, hi, ez]
        have := hci.c4 (.inr h3) i hi (fun h2 => by omega)
        rw [e'] at this
        rcases this with h4 | ⟨x, hx, ex, ec⟩
        · exact h4
        · exfalso
          obtain ⟨x', hx', ex', _⟩ := h.rows.un z.k x hx ec
          rw [ex, ← hyp] at hx'
          exact hrec x' hx' (ex'.trans ex)
      have hinv := h.rows.deal (act := act) hls hph.1 hrec hyp hd (show c.cm ≠ 0 by omega) (hci.c2 (.inr h3)) hall
      have hoth : ∀ (C' : Nat) e', C' ≠ C → wo.cls[C']? = some e' → ClInv prim (ds ++ [⟨c.st, c.cm, act, c.ws⟩]) (look (chgRow wo.rows y.k (commitOp c.st c.cm)).1) e' := fun C' e' hne he => by
        rw [hR]
        exact (h.cls C' e' he).other st (fun hp => haway C' e' hne he hp) (fun hp => (cl_st (hg.cl he) hp).1) (fun _ h => List.mem_append.2 (.inl h)) (fun d hdm => by
          rcases List.mem_append.1 hdm with hdm | hdm
          · exact .inl hdm
          · rw [List.mem_singleton.1 hdm]; exact .inr rfl)
      have hdt : ∀ d ∈ ds ++ [(⟨c.st, c.cm, act, c.ws⟩ : DealM)], d.st < d.cm ∧ d.cm ≤ wo.clock := fun d hdm => by
        rcases List.mem_append.1 hdm with hdm | hdm
        · exact h.dt d hdm
        · rw [List.mem_singleton.1 hdm]; exact ⟨hph.2.1, hph.2.2.1⟩
      split
      · exact h.put (by rw [hR]; exact hinv) hoth (zero_inv rfl) (fun h0 => absurd rfl h0) hdt
      · refine h.put (by rw [hR]; exact hinv) hoth ?_ (fun _ C' e' hne he hp => haway C' e' hne he hp) hdt
        exact four_inv rfl ⟨_, List.mem_append.2 (.inr (List.mem_singleton.2 rfl)), rfl, rfl, rfl⟩
    · rw [if_neg (fun hh => h3 hh.1)]
      obtain ⟨d, hdm, d1, d2, d3⟩ := hci.c5 (by omega)
      have hinv := h.rows.commit hls (by omega) hrec hdm d1 d2 (by omega)
      have hoth : ∀ (C' : Nat) e', C' ≠ C → wo.cls[C']? = some e' → ClInv prim ds (look (chgRow wo.rows y.k (commitOp c.st c.cm)).1) e' := fun C' e' hne he => by
        rw [hR]
        exact (h.cls C' e' he).other st (fun hp => haway C' e' hne he hp) (fun hp => (cl_st (hg.cl he) hp).1) (fun _ h => h) (fun _ h => .inl h)
      split
      · exact h.put (by rw [hR]; exact hinv) hoth (zero_inv rfl) (fun h0 => absurd rfl h0) h.dt
      · refine h.put (by rw [hR]; exact hinv) hoth ?_ (fun _ C' e' hne he hp => haway C' e' hne he hp) h.dt
        exact four_inv rfl ⟨d, hdm, d1, d2, d3⟩
  · by_cases h3 : c.ph = 3
    · have hW : commitW wo C c = (failW wo C c, 9) := by
        unfold commitW
        dsimp only
        rw [← hy, if_pos ⟨e, h3⟩]
      unfold commitDs
      rw [hW, if_neg (fun hh => absurd (show (9 : Int) = 0 from hh.2) (by decide))]
      exact h.fail hg hci (.inr h3) hph.1 (by omega) (fun h2 => by omega)
    · have hW : commitW wo C c = if c.at_ + 1 = (c.ws.length : Int) then ((⟨wo.rows, wo.clock, wo.cls.set C idleC⟩ : WoM), (0 : Int)) else (⟨wo.rows, wo.clock, wo.cls.set C ⟨4, c.st, c.cm, c.ws, c.at_ + 1⟩⟩, 0) := by
        unfold commitW
        dsimp only
        rw [← hy, if_neg (fun hh => h3 hh.2), chg_none e]
      unfold commitDs
      rw [hW, if_neg (fun hh => h3 hh.1)]
      obtain ⟨d, hdm, d1, d2, d3⟩ := hci.c5 (by omega)
      split
      · exact h.put h.rows (fun C' e' _ he => h.cls C' e' he) (zero_inv rfl) (fun h0 => absurd rfl h0) h.dt
      · refine h.put h.rows (fun C' e' _ he => h.cls C' e' he) ?_ (fun _ C' e' hne he hp => haway C' e' hne he hp) h.dt
        exact four_inv rfl ⟨d, hdm, d1, d2, d3⟩
end
end Go.Proofs.YtambkjnhfejfaacGreatDoor

namespace Go.Proofs.YtambkjnhfejfaacGreatDoor
open Go.RowKit

theorem rec_max {l : List RecM} (h : recsFrom 0 0 l = true) {x : RecM} (hx : x ∈ l) : x.c ≤ 1099511627776 := by
  have hb := ((recsOk_iff _).1 h).1 x hx
  simp only [recB, Bool.and_eq_true] at hb
  by_cases hc : x.c = 0
  · omega
  · have := hb.2
    rw [if_neg hc] at this
    simp only [Bool.and_eq_true, decide_eq_true_eq] at this
    exact this.1.2
section
variable {prim : Int → ByteArray} {ds : List DealM} {wo : WoM} {C : Nat} {c : ClM} {rows : List RowM} {s : Int}
theorem undo_left {key : ByteArray} (h : RowsOk rows) (hg : Gone (look rows key) s) (h1 : 1 ≤ s) (hs : s ≤ 1099511627776) : (chgRow rows key (undoOp s)).2 = 0 ∧ RowsOk (chgRow rows key (undoOp s)).1 ∧ look (chgRow rows key (undoOp s)).1 = look rows := by
  obtain ⟨x, hx, ex, ec⟩ := hg
  have hk : hasK (rowKeys rows) key = true := look_has (.inr ⟨x, hx, ex⟩) (by omega)
  have hok : (look rows key).ok = true := by rw [look, if_pos hk]; exact h.ok _ (rowAt_mem hk)
  have hne : (look rows key).ls ≠ s := by
    intro e
    exact ((look_locked h (k := key) (by omega)).2.2 x hx).1 (ex.trans e.symm)
  have h3 : stOf (look rows key).ls s (look rows key).recs = 3 := by
    rcases st_cases (look rows key).recs hne with ⟨_, h0⟩ | ⟨y, hy, ey, ⟨_, h3⟩ | ⟨hc, _⟩⟩
    · exact absurd ex (h0 x hx)
    · exact h3
    · have := rec_one (look_recs h key) hy hx (ey.trans ex.symm)
      rw [this] at hc; exact absurd ec hc
  have hd := undo_again hok (inB_true.2 ⟨h1, hs⟩) h3
  have hcode : (chgRow rows key (undoOp s)).2 = 0 := by rw [chg_code hk, hd]
  refine ⟨hcode, chg_ok h (undoOp_good s) (.inl hk), funext fun k => ?_⟩
  rw [(chg_look h (undoOp_good s) (.inl hk) hcode).2 k, hd]
  split
  · rename_i e; rw [e]
  · rfl
/-- The lock of a row is resolved. -/
theorem WInv.resolve (h : WInv prim ds wo) (hg : Good wo) (key : ByteArray) : WInv prim ds (resolveW wo key).1 ∧ (keyB key = true → (look (resolveW wo key).1.rows key).ls = 0) ∧ (∀ k, (look wo.rows k).ls = 0 → (look (resolveW wo key).1.rows k).ls = 0) ∧ (keyB key = true → (look wo.rows key).ls = 0 → resolveW wo key = (wo, 5)) := by
  by_cases hkb : keyB key = false
  · have e : resolveW wo key = (wo, 4) := by unfold resolveW; rw [if_pos hkb]
    rw [e]
    exact ⟨h, fun h' => absurd (h'.symm.trans hkb) (by decide), fun _ h => h, fun h' => absurd (h'.symm.trans hkb) (by decide)⟩
  by_cases hls : (look wo.rows key).ls = 0
  · have e : resolveW wo key = (wo, 5) := by
      unfold resolveW
      rw [if_neg hkb]
      by_cases hh : hasK (rowKeys wo.rows) key = false
      · rw [if_pos hh]
      · rw [if_neg hh]
        rw [look, if_pos (by simpa using hh)] at hls
        rw [if_pos hls]
    rw [e]
    exact ⟨h, fun _ => hls, fun _ h => h, fun _ _ => rfl⟩
  -- there is a lock
  obtain ⟨s, hs⟩ : ∃ s, s = (look wo.rows key).ls := ⟨_, rfl⟩
  have hh : hasK (rowKeys wo.rows) key = true := look_has (s := s) (.inl hs.symm) (by rw [hs]; exact hls)
  have hrow : rowAt wo.rows key = look wo.rows key := by rw [look, if_pos hh]
  obtain ⟨hok, hin, hrec⟩ := look_locked hg.rows hls
  obtain ⟨hlp, htr⟩ := h.rows.lk key hls
  rw [← hs] at hin hrec hlp htr hls
  obtain ⟨h1, hmx⟩ := inB_true.1 hin
  have e0 : resolveW wo key = (if (statIn wo.rows (prim s) s).1 = 2 then ({ wo with rows := (chgRow wo.rows key (commitOp s (statIn wo.rows (prim s) s).2)).1 }, (chgRow wo.rows key (commitOp s (statIn wo.rows (prim s) s).2)).2)
      else if (chgRow wo.rows (prim s) (undoOp s)).2 ≠ 0 then (wo, (chgRow wo.rows (prim s) (undoOp s)).2) else ({ wo with rows := (chgRow (chgRow wo.rows (prim s) (undoOp s)).1 key (undoOp s)).1 }, (chgRow (chgRow wo.rows (prim s) (undoOp s)).1 key (undoOp s)).2)) := by
    unfold resolveW
    rw [if_neg hkb, if_neg (by rw [hh]; decide), hrow, ← hs, if_neg hls]
    dsimp only
    rw [← hs, hlp]
  have hst := stat_look (rows := wo.rows) (prim s) h1
  have hr0 : (look wo.rows (prim s)).ls ≠ s → ∃ x ∈ (look wo.rows (prim s)).recs, x.s = s ∧ ((x.c = 0 ∧ (statIn wo.rows (prim s) s).1 = 3) ∨ (x.c ≠ 0 ∧ (statIn wo.rows (prim s) s).1 = 2 ∧ (statIn wo.rows (prim s) s).2 = x.c)) := by
    intro hne
    rw [hst]
    rcases st_cases (look wo.rows (prim s)).recs hne with ⟨_, h0⟩ | hx
    · rcases htr with htr | ⟨x, hx, ex⟩
      · exact absurd htr hne
      · exact absurd ex (h0 x hx)
    · exact hx
  by_cases h2 : (statIn wo.rows (prim s) s).1 = 2
  · -- it is committed in its primary row
    have hne : (look wo.rows (prim s)).ls ≠ s := by
      intro e
      rw [hst] at h2
      rw [stOf_one.2 e] at h2
      exact absurd (show (1 : Int) = 2 from h2) (by decide)
    obtain ⟨x, hx, ex, ⟨_, h3⟩ | ⟨hc, _, ecm⟩⟩ := hr0 hne
    · rw [h3] at h2; exact absurd h2 (by decide)
    obtain ⟨d, hdm, d1, d2, _⟩ := h.rows.co (prim s) x hx hc
    have hcm : inB x.c (s + 1) 1099511627776 = true := inB_true.2 ⟨by have := (rec_parts (look_recs hg.rows (prim s)) hx).2.2 hc; omega, rec_max (look_recs hg.rows (prim s)) hx⟩
    obtain ⟨_, _, hR, hrec'⟩ := commit_rows hg.rows hs.symm hls hcm
    have st : RStep s (look wo.rows) (ended (look wo.rows) key ⟨s, x.c, (look wo.rows key).val⟩) := end_rstep (x := ⟨s, x.c, (look wo.rows key).val⟩) hs.symm hls hrec'
    rw [e0, if_pos h2, ecm]
    refine ⟨⟨?_, fun C' e he => ?_, h.apart, h.dt⟩, fun _ => ?_, fun k hk => ?_, fun _ h' => absurd (hs.trans h') hls⟩
    · show RInv prim ds (look (chgRow wo.rows key (commitOp s x.c)).1)
      rw [hR]
      exact h.rows.commit hs.symm hls hrec' hdm (d1.trans ex) d2 hc
    · show ClInv prim ds (look (chgRow wo.rows key (commitOp s x.c)).1) e
      rw [hR]
      have hci := h.cls C' e he
      have hcg := (hg.cl he).ph
      by_cases e0 : e.ph = 0
      · exact zero_inv e0
      by_cases es : e.st = s
      · by_cases e4 : e.ph = 4
        · exact four_inv e4 (hci.c5 e4)
        · exact absurd ((d1.trans ex).trans es.symm) (hci.c6 (by omega) d hdm)
      · exact hci.other st (fun _ => es) (fun h0 => (cl_st (hg.cl he) h0).1) (fun _ h => h) (fun _ h => .inl h)
    · show (look (chgRow wo.rows key (commitOp s x.c)).1 key).ls = 0
      rw [hR]; unfold ended; rw [upd_same]
    · show (look (chgRow wo.rows key (commitOp s x.c)).1 k).ls = 0
      rw [hR]
      by_cases e : (ended (look wo.rows) key ⟨s, x.c, (look wo.rows key).val⟩ k).ls = 0
      · exact e
      · rw [(ended_lock e).2]; exact hk
  · -- it is undone there first
    rw [e0, if_neg h2]
    have hd : ∀ d ∈ ds, d.st ≠ s := by
      intro d hdm e
      obtain ⟨x, hx, ex, _, ec⟩ := h.rows.dp d hdm
      rw [e] at hx ex
      by_cases hne : (look wo.rows (prim s)).ls = s
      · exact ((look_locked hg.rows (k := prim s) (by rw [hne]; exact hls)).2.2 x hx).1 (ex.trans hne.symm)
      · obtain ⟨y, hy, ey, ⟨hc, _⟩ | ⟨_, h2', _⟩⟩ := hr0 hne
        · have := rec_one (look_recs hg.rows (prim s)) hy hx (ey.trans ex.symm)
          rw [this] at hc; exact ec hc
        · exact h2 h2'
    -- the two steps
    have key2 : (chgRow wo.rows (prim s) (undoOp s)).2 = 0 ∧ Undoing prim ds wo.rows (chgRow (chgRow wo.rows (prim s) (undoOp s)).1 key (undoOp s)).1 ∧ (look (chgRow (chgRow wo.rows (prim s) (undoOp s)).1 key (undoOp s)).1 key).ls = 0 := by
      by_cases hne : (look wo.rows (prim s)).ls = s
      · obtain ⟨hu, hgo, hl0⟩ := undo_once hg.rows h.rows hne hls (.inl rfl) hd
        have hc0 := (undo_rows hg.rows hne hls).1
        refine ⟨hc0, ?_⟩
        by_cases ek : key = prim s
        · rw [← ek] at hgo hl0 hu ⊢
          obtain ⟨_, g2, g3⟩ := undo_left hu.ok hgo h1 hmx
          exact ⟨⟨g2, by rw [g3]; exact hu.inv, fun c hc h1' => by rw [g3]; exact hu.cl c hc h1', fun k t hgn => by rw [g3]; exact hu.gone k t hgn, fun k => by rw [g3]; exact hu.lock k⟩, by rw [g3]; exact hl0⟩
        · have hls1 : (look (chgRow wo.rows (prim s) (undoOp s)).1 key).ls = s := by
            rw [(undo_rows hg.rows hne hls).2.2.1]
            unfold ended
            rw [upd_other _ _ ek]
            exact hs.symm
          obtain ⟨hu', _, hl0'⟩ := undo_once hu.ok hu.inv hls1 hls (.inr hgo) hd
          exact ⟨hu.trans hu', hl0'⟩
      · obtain ⟨y, hy, ey, ⟨hc, _⟩ | ⟨_, h2', _⟩⟩ := hr0 hne
        · have hgo : Gone (look wo.rows (prim s)) s := ⟨y, hy, ey, hc⟩
          obtain ⟨g1, g2, g3⟩ := undo_left hg.rows hgo h1 hmx
          refine ⟨g1, ?_⟩
          have hls1 : (look (chgRow wo.rows (prim s) (undoOp s)).1 key).ls = s := by rw [g3]; exact hs.symm
          have hu : Undoing prim ds wo.rows (chgRow wo.rows (prim s) (undoOp s)).1 := ⟨g2, by rw [g3]; exact h.rows, fun c hc _ => by rw [g3]; exact hc, fun k t hgn => by rw [g3]; exact hgn, fun k => by rw [g3]; exact .inr rfl⟩
          obtain ⟨hu', _, hl0'⟩ := undo_once hu.ok hu.inv hls1 hls (.inr (by rw [g3]; exact hgo)) hd
          exact ⟨hu.trans hu', hl0'⟩
        · exact absurd h2' h2
    obtain ⟨hc0, hu, hl0⟩ := key2
    rw [if_neg (by simpa using hc0)]
    refine ⟨⟨hu.inv, fun C' e he => hu.cl e (h.cls C' e he) fun h0 => (cl_st (hg.cl he) h0).1, h.apart, h.dt⟩, fun _ => hl0, fun k hk => ?_, fun _ h' => absurd (hs.trans h') hls⟩
    rcases hu.lock k with e | e
    · exact e
    · show (look (chgRow (chgRow wo.rows (prim s) (undoOp s)).1 key (undoOp s)).1 k).ls = 0
      rw [e]; exact hk

/-- The deals behind a step. -/
def stepDs (ds : List DealM) (act : Nat) (wo : WoM) (C : Nat) (c : ClM) : List DealM := if c.ph = 3 ∧ (stepW wo C c).2.code = 0 then ds ++ [⟨c.st, c.cm, act, c.ws⟩] else ds
theorem WInv.step (h : WInv prim ds wo) (hg : Good wo) (act : Nat) (hc : wo.cls[C]? = some c) : ∃ prim', WInv prim' (stepDs ds act wo C c) (stepW wo C c).1 := by
  have hci := h.cls C c hc
  have hok := hg.cl hc
  have hph := hok.ph
  unfold stepDs
  by_cases h1 : c.ph = 1
  · rw [if_neg (fun hh => by omega)]
    unfold stepW
    rw [if_pos h1]
    split
    · exact ⟨prim, h.idle⟩
    · rename_i hl
      exact h.lock (c := { c with ph := 2 }) hg hc rfl (by omega) (open_inv hci h1 (by omega)) rfl ⟨hok.ws, .inr (.inr (.inl ⟨rfl, by show 1 ≤ c.st; omega, by show c.st ≤ _; omega, by show c.cm = 0; omega, by show 1 ≤ c.ws.length; omega, by show 0 ≤ c.at_; omega, by show c.at_ ≤ c.ws.length; omega⟩))⟩ (by show c.at_ < c.ws.length; omega)
  by_cases h2 : c.ph = 2
  · rw [if_neg (fun hh => by omega)]
    unfold stepW
    rw [if_neg h1, if_pos h2]
    split
    · rename_i hat
      refine ⟨prim, h.put h.rows (fun C' e _ he => h.cls C' e he) ?_ (fun _ C' e hne he hp => h.away hc (by omega) C' e hne he hp) (fun d hd => ⟨(h.dt d hd).1, by have := (h.dt d hd).2; show d.cm ≤ wo.clock + 1; omega⟩)⟩
      refine ⟨fun hp => ?_, fun _ => hci.c2 (.inl h2), fun _ => hci.c3 (.inl ⟨h2, by omega⟩), fun _ i hi _ => hci.c4 (.inl h2) i hi (fun _ => by have : i < c.ws.length := hi; omega), fun hp => ?_, fun _ => hci.c6 (by omega)⟩
      · have hp : (3 : Int) = 1 ∨ (3 : Int) = 2 ∧ (0 : Int) = 0 := hp
        omega
      · have hp : (3 : Int) = 4 := hp
        omega
    · exact h.lock hg hc rfl (by omega) hci h2 hok (by omega)
  by_cases h34 : c.ph = 3 ∨ c.ph = 4
  · have e : stepW wo C c = ((commitW wo C c).1, ansCode (commitW wo C c).2) := by unfold stepW; rw [if_neg h1, if_neg h2, if_pos h34]
    rw [e]
    exact ⟨prim, h.commit hg act hc h34⟩
  · rw [if_neg (fun hh => by omega)]
    unfold stepW
    rw [if_neg h1, if_neg h2, if_neg h34]
    exact ⟨prim, h⟩
end

/-- The writes with one more. -/
def putWs (ws : List WrM) (key val : ByteArray) : List WrM :=
  if hasK (wrKeys ws) key then ws.set (lowIx (wrKeys ws) key) ⟨(wrAt ws key).k, val⟩ else ws.take (lowIx (wrKeys ws) key) ++ ⟨key, val⟩ :: ws.drop (lowIx (wrKeys ws) key)
/-- What is told of a client. -/
structure TrackM where
  ph : Int
  st : Int
  cm : Int
  ws : List WrM
instance : Inhabited TrackM := ⟨⟨0, 0, 0, []⟩⟩
structure GhostM where
  ds : List DealM
  ts : List TrackM
/-- A client's track behind an act. -/
def trackOf (t : TrackM) (a : ActM) (x : AnsM) : TrackM :=
  if x.code ≠ 0 then t else if a.kind = 1 then ⟨0, x.time, 0, []⟩ else if a.kind = 3 then { t with ws := putWs t.ws a.key a.val } else if a.kind = 4 then { t with cm := if x.time ≠ 0 then x.time else t.cm } else t
/-- The deals and the tracks behind the act with an index. -/
def ghostOf (i : Nat) (g : GhostM) (a : ActM) (x : AnsM) : GhostM :=
  ⟨if x.code = 0 ∧ a.kind = 4 ∧ (g.ts.getD a.c.toNat default).ph = 3 then g.ds ++ [⟨(g.ts.getD a.c.toNat default).st, (trackOf (g.ts.getD a.c.toNat default) a x).cm, i, (g.ts.getD a.c.toNat default).ws⟩] else g.ds,
    g.ts.set a.c.toNat { trackOf (g.ts.getD a.c.toNat default) a x with ph := x.ph }⟩
/-- A track tells of a client. -/
structure Tells (t : TrackM) (c : ClM) : Prop where
  ph : t.ph = c.ph
  op : c.ph ≠ 0 → t.st = c.st ∧ t.ws = c.ws
  cm : c.ph = 3 ∨ c.ph = 4 → t.cm = c.cm
/-- All that a script keeps. -/
structure Whole (prim : Int → ByteArray) (i : Nat) (g : GhostM) (wo : WoM) : Prop where
  good : Good wo
  inv : WInv prim g.ds wo
  len : g.ts.length = wo.cls.length
  tells : ∀ (C : Nat) c, wo.cls[C]? = some c → Tells (g.ts.getD C default) c
  acts : ∀ d ∈ g.ds, d.act < i
theorem tells_set {ts : List TrackM} {cls : List ClM} {C : Nat} {t : TrackM} {c : ClM} (hl : ts.length = cls.length) (h : ∀ (C' : Nat) e, cls[C']? = some e → C' ≠ C → Tells (ts.getD C' default) e) (ht : Tells t c) : ∀ (C' : Nat) e, (cls.set C c)[C']? = some e → Tells ((ts.set C t).getD C' default) e := by
  intro C' e he
  by_cases eC : C' = C
  · subst eC
    rw [List.getElem?_set] at he
    split at he
    · split at he
      · rename_i hlt
        injection he with he
        subst he
        have : (ts.set C' t).getD C' default = t := by simp [List.getD, hl, hlt]
        rw [this]; exact ht
      · cases he
    · rename_i hh; exact absurd rfl hh
  · rw [List.getElem?_set_ne (Ne.symm eC)] at he
    have : (ts.set C t).getD C' default = ts.getD C' default := by simp [List.getD, Ne.symm eC]
    rw [this]; exact h C' e he eC
end Go.Proofs.YtambkjnhfejfaacGreatDoor

namespace Go.Proofs.YtambkjnhfejfaacGreatDoor
open Go.RowKit

section
variable {prim : Int → ByteArray} {wo : WoM} {C : Nat} {c : ClM} {g : GhostM} {i : Nat} {a : ActM}
theorem getD_set (l : List ClM) (c' : ClM) (h : C < l.length) : (l.set C c').getD C default = c' := by simp [List.getD, h]
theorem set_same (hc : wo.cls[C]? = some c) : wo.cls.set C c = wo.cls := by
  have hlt := (List.getElem?_eq_some_iff.1 hc).1
  apply List.ext_getElem?
  intro j
  rw [List.getElem?_set]
  split
  · rename_i e
    subst e
    have := (List.getElem?_eq_some_iff.1 hc).2
    simp [hlt, this]
  · rfl
/-- The client behind a step, and what the answer tells of it. -/
structure StepCl (wo : WoM) (C : Nat) (c c' : ClM) (x : AnsM) : Prop where
  op : c'.ph ≠ 0 → c.ph ≠ 0 ∧ c'.st = c.st ∧ c'.ws = c.ws
  cm : c'.ph = 3 ∨ c'.ph = 4 → x.code = 0 ∧ ((x.time ≠ 0 ∧ c'.cm = x.time) ∨ (x.time = 0 ∧ c'.cm = c.cm ∧ (c.ph = 3 ∨ c.ph = 4)))
theorem lock_cl (h2 : c.ph = 2) : ∃ c', (lockW wo C c).1.cls = wo.cls.set C c' ∧ StepCl wo C c c' (ansCode (lockW wo C c).2) := by
  unfold lockW
  dsimp only
  split
  · exact ⟨_, rfl, ⟨fun _ => ⟨by omega, rfl, rfl⟩, fun h => by have h : c.ph = 3 ∨ c.ph = 4 := h; omega⟩⟩
  · split
    · exact ⟨_, rfl, ⟨fun h => ⟨h, rfl, rfl⟩, fun h => by omega⟩⟩
    · exact ⟨idleC, rfl, ⟨fun h => absurd rfl h, fun h => by have h : (0 : Int) = 3 ∨ (0 : Int) = 4 := h; omega⟩⟩
theorem commit_cl (h34 : c.ph = 3 ∨ c.ph = 4) : ∃ c', (commitW wo C c).1.cls = wo.cls.set C c' ∧ StepCl wo C c c' (ansCode (commitW wo C c).2) := by
  unfold commitW
  dsimp only
  split
  · exact ⟨idleC, rfl, ⟨fun h => absurd rfl h, fun h => by have h : (0 : Int) = 3 ∨ (0 : Int) = 4 := h; omega⟩⟩
  · split
    · exact ⟨idleC, rfl, ⟨fun h => absurd rfl h, fun h => by have h : (0 : Int) = 3 ∨ (0 : Int) = 4 := h; omega⟩⟩
    · exact ⟨_, rfl, ⟨fun _ => ⟨by omega, rfl, rfl⟩, fun _ => ⟨rfl, .inr ⟨rfl, rfl, h34⟩⟩⟩⟩
theorem step_cl (hg : Good wo) (hc : wo.cls[C]? = some c) : ∃ c', (stepW wo C c).1.cls = wo.cls.set C c' ∧ StepCl wo C c c' (stepW wo C c).2 := by
  have hok := (hg.cl hc).ph
  unfold stepW
  split
  · rename_i h1
    split
    · exact ⟨idleC, rfl, ⟨fun h => absurd rfl h, fun h => by have h : (0 : Int) = 3 ∨ (0 : Int) = 4 := h; omega⟩⟩
    · obtain ⟨c', e, h⟩ := lock_cl (wo := wo) (C := C) (c := { c with ph := 2 }) rfl
      refine ⟨c', e, ⟨fun h' => ⟨by omega, (h.op h').2⟩, fun h' => ?_⟩⟩
      obtain ⟨h3, h4⟩ := h.cm h'
      refine ⟨h3, ?_⟩
      rcases h4 with h4 | ⟨_, _, h4⟩
      · exact .inl h4
      · have h4 : (2 : Int) = 3 ∨ (2 : Int) = 4 := h4
        omega
  · split
    · rename_i h2
      split
      · refine ⟨_, rfl, ⟨fun _ => ⟨by omega, rfl, rfl⟩, fun _ => ⟨rfl, .inl ⟨?_, rfl⟩⟩⟩⟩
        show wo.clock + 1 ≠ 0
        have := hg.c0
        omega
      · exact lock_cl h2
    · split
      · rename_i h34; exact commit_cl h34
      · refine ⟨c, ?_, ⟨fun h => ⟨h, rfl, rfl⟩, fun h => by omega⟩⟩
        exact (set_same hc).symm
theorem put_zero {key val : ByteArray} (h : (putC c key val).2 = 0) : c.ph = 1 ∧ (putC c key val).1 = { c with ws := putWs c.ws key val } := by
  unfold putC at h ⊢
  by_cases ha : accessE c key = 0
  · have h1 : c.ph = 1 := by
      unfold accessE at ha
      split at ha
      · omega
      · rename_i h1; simpa using h1
    rw [if_neg (by simpa using ha)] at h ⊢
    split at h
    · exact absurd (show (1 : Int) = 0 from h) (by decide)
    · rename_i hv
      rw [if_neg hv]
      refine ⟨h1, ?_⟩
      unfold putWs
      split at h
      · rename_i hk; rw [if_pos hk, if_pos hk]
      · rename_i hk
        rw [if_neg hk]
        split at h
        · exact absurd (show (1 : Int) = 0 from h) (by decide)
        · rename_i h6; rw [if_neg h6, if_neg hk]
  · rw [if_pos ha] at h; exact absurd h ha
theorem put_same {key val : ByteArray} (h : (putC c key val).2 ≠ 0) : (putC c key val).1 = c := by
  unfold putC at h ⊢
  split
  · rfl
  · rename_i ha
    rw [if_neg ha] at h
    split
    · rfl
    · rename_i hv
      rw [if_neg hv] at h
      split
      · rename_i hk; rw [if_pos hk] at h; exact absurd rfl h
      · rename_i hk
        rw [if_neg hk] at h
        split
        · rfl
        · rename_i h6; rw [if_neg h6] at h; exact absurd rfl h
/-- The step of the whole, in parts. -/
theorem Whole.mk' (h : Whole prim i g wo) (hgood : Good (doW wo a).1) {prim' : Int → ByteArray} {c' : ClM} (hC : a.c.toNat < wo.cls.length) (hinv : WInv prim' (ghostOf i g a (doW wo a).2).ds (doW wo a).1) (hcls : (doW wo a).1.cls = wo.cls.set a.c.toNat c')
    (hop : c'.ph ≠ 0 → (trackOf (g.ts.getD a.c.toNat default) a (doW wo a).2).st = c'.st ∧ (trackOf (g.ts.getD a.c.toNat default) a (doW wo a).2).ws = c'.ws) (hcm : c'.ph = 3 ∨ c'.ph = 4 → (trackOf (g.ts.getD a.c.toNat default) a (doW wo a).2).cm = c'.cm) : Whole prim' (i + 1) (ghostOf i g a (doW wo a).2) (doW wo a).1 := by
  have hph : (doW wo a).2.ph = c'.ph := by
    show ((performW wo a).1.cls.getD a.c.toNat default).ph = c'.ph
    rw [show (performW wo a).1.cls = wo.cls.set a.c.toNat c' from hcls, getD_set _ _ hC]
  refine ⟨hgood, hinv, ?_, ?_, fun d hd => ?_⟩
  · rw [hcls]; simp only [ghostOf, List.length_set]; exact h.len
  · rw [hcls]
    exact tells_set h.len (fun C' e he _ => h.tells C' e he) ⟨hph, hop, hcm⟩
  · simp only [ghostOf] at hd
    split at hd
    · rcases List.mem_append.1 hd with hd | hd
      · have := h.acts d hd; omega
      · rw [List.mem_singleton.1 hd]; exact Nat.lt_succ_self i
    · have := h.acts d hd; omega
theorem Whole.do (h : Whole prim i g wo) (he : actE wo a = 0) : ∃ prim', Whole prim' (i + 1) (ghostOf i g a (doW wo a).2) (doW wo a).1 := by
  obtain ⟨_, k1, k6, hc0, hc1⟩ := act_zero he
  have hclk : wo.clock ≠ 1099511627376 := by
    intro e'
    unfold actE at he
    rw [if_neg (by rw [good_iff.2 h.good]; decide), if_neg (by omega), if_neg (by omega), if_pos e'] at he
    exact absurd he (by decide)
  have hC : a.c.toNat < wo.cls.length := by omega
  obtain ⟨c, hc⟩ : ∃ c, wo.cls[a.c.toNat]? = some c := ⟨_, List.getElem?_eq_getElem hC⟩
  have hcd : wo.cls.getD a.c.toNat default = c := by simp [List.getD, hc]
  have hgood : Good (doW wo a).1 := do_good h.good (by have := h.good.c1; omega) hC
  have ht := h.tells _ c hc
  have hok := (h.good.cl hc)
  have hph := hok.ph
  obtain ⟨t, htd⟩ : ∃ t, t = g.ts.getD a.c.toNat default := ⟨_, rfl⟩
  rw [← htd] at ht
  have hk : a.kind = 1 ∨ a.kind = 2 ∨ a.kind = 3 ∨ a.kind = 4 ∨ a.kind = 5 ∨ a.kind = 6 := by omega
  have hds : (a.kind ≠ 4 ∨ c.ph ≠ 3 ∨ (doW wo a).2.code ≠ 0) → (ghostOf i g a (doW wo a).2).ds = g.ds := by
    intro hh
    simp only [ghostOf]
    rw [if_neg]
    rintro ⟨e1, e2, e3⟩
    rw [← htd, ht.ph] at e3
    rcases hh with hh | hh | hh
    · exact hh e2
    · exact hh e3
    · exact hh e1
  rcases hk with hk | hk | hk | hk | hk | hk
  · -- Begin
    have hd := hds (.inl (by omega))
    by_cases h0 : c.ph = 0
    · have e : doW wo a = (⟨wo.rows, wo.clock + 1, wo.cls.set a.c.toNat ⟨1, wo.clock + 1, 0, [], 0⟩⟩, { ansTime (wo.clock + 1) with ph := 1 }) := by
        unfold doW performW
        dsimp only
        rw [if_pos hk, hcd, beginW, if_pos h0]
        dsimp only
        rw [getD_set _ _ hC]
      refine ⟨prim, h.mk' hgood (c' := ⟨1, wo.clock + 1, 0, [], 0⟩) hC ?_ (by rw [e]) ?_ (fun h' => by have h' : (1 : Int) = 3 ∨ (1 : Int) = 4 := h'; omega)⟩
      · rw [hd, e]
        refine h.inv.put h.inv.rows (fun C' e' _ he' => h.inv.cls C' e' he') ?_ (fun _ C' e' _ he' hp => ?_) (fun d hd' => ⟨(h.inv.dt d hd').1, by have := (h.inv.dt d hd').2; omega⟩)
        · have htr : ∀ k, ¬ Tr (look wo.rows k) (wo.clock + 1) := by
            intro k ht'
            have h0' := h.good.c0
            rcases look_or wo.rows k with hl | hl
            · have hu := h.good.up _ hl
              rcases ht' with ht' | ⟨x, hx, ex⟩
              · have := hu.lock; omega
              · have := (hu.recs x hx).1; omega
            · rw [hl] at ht'
              rcases ht' with ht' | ⟨x, hx, _⟩
              · have ht' : (0 : Int) = wo.clock + 1 := ht'
                omega
              · cases hx
          refine ⟨fun _ => htr, fun hp => ?_, fun hp => ?_, fun hp => ?_, fun hp => ?_, fun _ d hd' => ?_⟩
          · have hp : (1 : Int) = 2 ∨ (1 : Int) = 3 := hp
            omega
          · have hp : ((1 : Int) = 2 ∧ 1 ≤ (0 : Int)) ∨ (1 : Int) = 3 := hp
            omega
          · have hp : (1 : Int) = 2 ∨ (1 : Int) = 3 := hp
            omega
          · have hp : (1 : Int) = 4 := hp
            omega
          · have := h.inv.dt d hd'
            show d.st ≠ wo.clock + 1
            omega
        · have := cl_st (h.good.cl he') hp
          show e'.st ≠ wo.clock + 1
          omega
      · intro _
        rw [e]
        simp [trackOf, ansTime, hk]
    · have e : doW wo a = (wo, { ansCode 6 with ph := c.ph }) := by
        unfold doW performW
        dsimp only
        rw [if_pos hk, hcd, beginW, if_neg h0]
        dsimp only
        rw [hcd]
      refine ⟨prim, h.mk' hgood (c' := c) hC (by rw [hd, e]; exact h.inv) (by rw [e]; exact (set_same hc).symm) ?_ ?_⟩
      · intro h'
        rw [e, ← htd]
        have := ht.op h'
        simpa [trackOf, ansCode] using this
      · intro h'
        rw [e, ← htd]
        have := ht.cm h'
        simpa [trackOf, ansCode] using this
  · -- Get
    have hd := hds (.inl (by omega))
    have e1 : (doW wo a).1 = wo := by
      unfold doW performW
      dsimp only
      rw [if_neg (by omega), if_pos hk]
    have etr : trackOf t a (doW wo a).2 = t := by
      unfold trackOf
      split
      · rfl
      · rw [if_neg (by omega), if_neg (by omega), if_neg (by omega)]
    refine ⟨prim, h.mk' hgood (c' := c) hC (by rw [hd, e1]; exact h.inv) (by rw [e1]; exact (set_same hc).symm) ?_ ?_⟩
    · intro h'; rw [← htd, etr]; exact ht.op h'
    · intro h'; rw [← htd, etr]; exact ht.cm h'
  · -- Put
    have hd := hds (.inl (by omega))
    have e1 : (doW wo a).1 = wo.setC a.c.toNat (putC c a.key a.val).1 := by
      unfold doW performW
      dsimp only
      rw [if_neg (by omega), if_neg (by omega), if_pos hk, hcd]
    have e2 : (doW wo a).2.code = (putC c a.key a.val).2 := by
      unfold doW performW
      dsimp only
      rw [if_neg (by omega), if_neg (by omega), if_pos hk, hcd]
      rfl
    by_cases hp : (putC c a.key a.val).2 = 0
    · obtain ⟨p1, p2⟩ := put_zero hp
      have hci := h.inv.cls _ c hc
      have etr : trackOf t a (doW wo a).2 = { t with ws := putWs t.ws a.key a.val } := by
        unfold trackOf
        rw [if_neg (by rw [e2, hp]; decide), if_neg (by omega), if_pos hk]
      refine ⟨prim, h.mk' hgood (c' := (putC c a.key a.val).1) hC ?_ (by rw [e1]; rfl) ?_ ?_⟩
      · rw [hd, e1, p2]
        refine h.inv.put h.inv.rows (fun C' e' _ he' => h.inv.cls C' e' he') ?_ (fun _ C' e' hne he' hp' => h.inv.away hc (by omega) C' e' hne he' hp') h.inv.dt
        refine ⟨fun _ => hci.c1 (.inl p1), fun h' => ?_, fun h' => ?_, fun h' => ?_, fun h' => ?_, fun _ => hci.c6 (.inl p1)⟩
        · have h' : c.ph = 2 ∨ c.ph = 3 := h'
          omega
        · have h' : (c.ph = 2 ∧ 1 ≤ c.at_) ∨ c.ph = 3 := h'
          omega
        · have h' : c.ph = 2 ∨ c.ph = 3 := h'
          omega
        · have h' : c.ph = 4 := h'
          omega
      · intro _
        rw [← htd, etr, p2]
        obtain ⟨o1, o2⟩ := ht.op (by omega)
        exact ⟨o1, by show putWs t.ws a.key a.val = putWs c.ws a.key a.val; rw [o2]⟩
      · intro h'
        rw [p2] at h'
        have h' : c.ph = 3 ∨ c.ph = 4 := h'
        omega
    · have etr : trackOf t a (doW wo a).2 = t := by
        unfold trackOf
        rw [if_pos (by rw [e2]; exact hp)]
      have ec := put_same hp
      refine ⟨prim, h.mk' hgood (c' := c) hC ?_ (by rw [e1, ec]; rfl) ?_ ?_⟩
      · rw [hd, e1, ec]
        show WInv prim g.ds ⟨wo.rows, wo.clock, wo.cls.set a.c.toNat c⟩
        rw [set_same hc]; exact h.inv
      · intro h'; rw [← htd, etr]; exact ht.op h'
      · intro h'; rw [← htd, etr]; exact ht.cm h'
  · -- Step
    have e1 : (doW wo a).1 = (stepW wo a.c.toNat c).1 := by
      unfold doW performW
      dsimp only
      rw [if_neg (by omega), if_neg (by omega), if_neg (by omega), if_pos hk, hcd]
    have e2 : (doW wo a).2.code = (stepW wo a.c.toNat c).2.code ∧ (doW wo a).2.time = (stepW wo a.c.toNat c).2.time := by
      unfold doW performW
      dsimp only
      rw [if_neg (by omega), if_neg (by omega), if_neg (by omega), if_pos hk, hcd]
      exact ⟨rfl, rfl⟩
    obtain ⟨c', hcl, hst⟩ := step_cl h.good hc
    obtain ⟨prim', hw⟩ := h.inv.step h.good i hc
    have etr : (trackOf t a (doW wo a).2).st = t.st ∧ (trackOf t a (doW wo a).2).ws = t.ws ∧ ((doW wo a).2.code = 0 → (trackOf t a (doW wo a).2).cm = if (doW wo a).2.time ≠ 0 then (doW wo a).2.time else t.cm) := by
      by_cases hz : (doW wo a).2.code = 0
      · simp [trackOf, hz, hk]
      · simp [trackOf, hz]
    have hdeq : (ghostOf i g a (doW wo a).2).ds = stepDs g.ds i wo a.c.toNat c := by
      unfold stepDs
      simp only [ghostOf]
      rw [← htd, ht.ph, e2.1]
      by_cases h3 : c.ph = 3 ∧ (stepW wo a.c.toNat c).2.code = 0
      · rw [if_pos ⟨h3.2, hk, h3.1⟩, if_pos h3, etr.2.2 (by rw [e2.1]; exact h3.2), (ht.op (by omega)).1, (ht.op (by omega)).2, ht.cm (.inl h3.1)]
        have htime : (doW wo a).2.time = 0 := by
          rw [e2.2]
          unfold stepW
          rw [if_neg (by omega), if_neg (by omega), if_pos (.inl h3.1)]
          rfl
        rw [htime, if_neg (by decide)]
      · rw [if_neg (fun hh => h3 ⟨hh.2.2, hh.1⟩), if_neg h3]
    refine ⟨prim', h.mk' hgood (c' := c') hC (by rw [hdeq, e1]; exact hw) (by rw [e1]; exact hcl) ?_ ?_⟩
    · intro h'
      obtain ⟨o0, o1, o2⟩ := hst.op h'
      obtain ⟨q1, q2⟩ := ht.op o0
      rw [← htd, etr.1, etr.2.1, o1, o2]
      exact ⟨q1, q2⟩
    · intro h'
      obtain ⟨o0, o1⟩ := hst.cm h'
      rw [← htd, etr.2.2 (by rw [e2.1]; exact o0), e2.2]
      rcases o1 with ⟨o1, o2⟩ | ⟨o1, o2, o3⟩
      · rw [if_pos o1]; exact o2.symm
      · rw [if_neg (by simpa using o1), o2]; exact ht.cm o3
  · -- Drop
    have hd := hds (.inl (by omega))
    have e1 : (doW wo a).1 = (dropW wo a.c.toNat c).1 := by
      unfold doW performW
      dsimp only
      rw [if_neg (by omega), if_neg (by omega), if_neg (by omega), if_neg (by omega), if_pos hk, hcd]
    have etr : trackOf t a (doW wo a).2 = t := by
      unfold trackOf
      split
      · rfl
      · rw [if_neg (by omega), if_neg (by omega), if_neg (by omega)]
    by_cases h0 : c.ph = 0
    · have e : dropW wo a.c.toNat c = (wo, 6) := by unfold dropW; rw [if_pos h0]
      rw [e] at e1
      refine ⟨prim, h.mk' hgood (c' := c) hC (by rw [hd, e1]; exact h.inv) (by rw [e1]; exact (set_same hc).symm) ?_ ?_⟩
      · intro h'; rw [← htd, etr]; exact ht.op h'
      · intro h'; rw [← htd, etr]; exact ht.cm h'
    · have e : dropW wo a.c.toNat c = (wo.setC a.c.toNat idleC, 0) := by unfold dropW; rw [if_neg h0]
      rw [e] at e1
      refine ⟨prim, h.mk' hgood (c' := idleC) hC (by rw [hd, e1]; exact h.inv.idle) (by rw [e1]; rfl) (fun h' => absurd rfl h') (fun h' => ?_)⟩
      have h' : (0 : Int) = 3 ∨ (0 : Int) = 4 := h'
      omega
  · -- Resolve
    have hd := hds (.inl (by omega))
    have e1 : (doW wo a).1 = (resolveW wo a.key).1 := by
      unfold doW performW
      dsimp only
      rw [if_neg (by omega), if_neg (by omega), if_neg (by omega), if_neg (by omega), if_neg (by omega)]
    have hcl : (resolveW wo a.key).1.cls = wo.cls := by
      unfold resolveW
      dsimp only
      repeat' split
      all_goals rfl
    have etr : trackOf t a (doW wo a).2 = t := by
      unfold trackOf
      split
      · rfl
      · rw [if_neg (by omega), if_neg (by omega), if_neg (by omega)]
    refine ⟨prim, h.mk' hgood (c' := c) hC (by rw [hd, e1]; exact (h.inv.resolve h.good a.key).1) (by rw [e1, hcl]; exact (set_same hc).symm) ?_ ?_⟩
    · intro h'; rw [← htd, etr]; exact ht.op h'
    · intro h'; rw [← htd, etr]; exact ht.cm h'
end
end Go.Proofs.YtambkjnhfejfaacGreatDoor

namespace Go.Proofs.YtambkjnhfejfaacGreatDoor
open Go.RowKit

/-- An act that can be performed, of four clients. -/
structure ActFit (a : ActM) : Prop where
  k1 : 1 ≤ a.kind
  k6 : a.kind ≤ 6
  c0 : 0 ≤ a.c
  c4 : a.c < 4
theorem actOf_fit (i : Nat) (r : RawM) : ActFit (actOf 4 i r) := by
  have h := pick_bd r.c (show (0 : Int) < 4 by decide)
  unfold actOf actB
  repeat' split
  all_goals exact ⟨of_decide_eq_true rfl, of_decide_eq_true rfl, h.1, h.2⟩
theorem actsM_fit (l : List RawM) (k : Nat) : ∀ a ∈ actsM 4 l k, ActFit a := by
  intro a ha
  obtain ⟨i, _, rfl⟩ := List.mem_map.1 ha
  exact actOf_fit i _
theorem lockW_clock (wo : WoM) (C : Nat) (c : ClM) : (lockW wo C c).1.clock = wo.clock := by
  unfold lockW; dsimp only; split
  · rfl
  · split <;> rfl
theorem commitW_clock (wo : WoM) (C : Nat) (c : ClM) : (commitW wo C c).1.clock = wo.clock := by
  unfold commitW; dsimp only; split
  · rfl
  · split <;> rfl
theorem step_clock (wo : WoM) (C : Nat) (c : ClM) : (stepW wo C c).1.clock ≤ wo.clock + 1 := by
  unfold stepW
  split
  · split
    · show wo.clock ≤ _; omega
    · rw [lockW_clock]; omega
  · split
    · split
      · exact Int.le_refl _
      · rw [lockW_clock]; omega
    · split
      · rw [commitW_clock]; omega
      · show wo.clock ≤ _; omega
theorem resolveW_clock (wo : WoM) (key : ByteArray) : (resolveW wo key).1.clock = wo.clock := by
  unfold resolveW
  dsimp only
  repeat' split
  all_goals rfl
theorem do_clock (wo : WoM) (a : ActM) : (doW wo a).1.clock ≤ wo.clock + 1 := by
  show (performW wo a).1.clock ≤ wo.clock + 1
  unfold performW
  dsimp only
  split
  · unfold beginW
    split
    · exact Int.le_refl _
    · show wo.clock ≤ _; omega
  · split
    · show wo.clock ≤ _; omega
    · split
      · show wo.clock ≤ _; omega
      · split
        · exact step_clock _ _ _
        · split
          · unfold dropW
            split
            · show wo.clock ≤ _; omega
            · show wo.clock ≤ _; omega
          · rw [resolveW_clock]; omega

/-- The deals and the tracks that the first k acts and answers tell of. -/
def ghostL (l : List ActM) (x : List AnsM) : Nat → GhostM
  | 0 => ⟨[], List.replicate 4 default⟩
  | k + 1 => ghostOf k (ghostL l x k) (l.getD k default) (x.getD k default)
/-- The world ahead of the act k. -/
abbrev woAt (l : List ActM) (k : Nat) : WoM := runWo (startW 4) (l.take k)
theorem runAns_nth : ∀ (l : List ActM) (wo : WoM) (k : Nat), k < l.length → (runAns wo l).getD k default = (runA (runWo wo (l.take k)) (l.getD k default)).2
  | [], _, k, h => by simp at h
  | a :: l, wo, 0, _ => by simp [runAns, runWo, List.getD]
  | a :: l, wo, k + 1, h => by
    have := runAns_nth l (runA wo a).1 k (by simpa using h)
    simpa [runAns, runWo, List.getD] using this
theorem runWo_at (l : List ActM) (wo : WoM) (k : Nat) (h : k < l.length) : runWo wo (l.take (k + 1)) = (runA (runWo wo (l.take k)) (l.getD k default)).1 := by
  have e : l.take (k + 1) = l.take k ++ [l.getD k default] := by
    rw [List.take_succ_eq_append_getElem h]
    simp [List.getD, h]
  rw [e, runWo_snoc]
theorem start_whole : Whole (fun _ => emptyS) 0 ⟨[], List.replicate 4 default⟩ (startW 4) := by
  have hl : ∀ k, look ([] : List RowM) k = freshRow k := fun k => by simp [look, hasK]
  have hcl : ∀ (C : Nat) c, (startW 4).cls[C]? = some c → c = idleC := by
    intro C c hc
    have := List.mem_of_getElem? hc
    simpa [startW] using (List.mem_replicate.1 this).2
  refine ⟨start_good (by decide), ⟨⟨fun k hk => ?_, fun k x hx => ?_, fun k x hx => ?_, fun d hd => ?_, fun d hd => ?_, fun d hd => ?_, fun d hd => ?_, fun d hd => ?_⟩, fun C c hc => ?_, fun C C' c c' hc _ _ h0 => ?_, fun d hd => ?_⟩, by simp [startW], fun C c hc => ?_, fun d hd => ?_⟩
  · rw [show (startW 4).rows = [] from rfl, hl] at hk; exact absurd rfl hk
  · rw [show (startW 4).rows = [] from rfl, hl] at hx; cases hx
  · rw [show (startW 4).rows = [] from rfl, hl] at hx; cases hx
  · cases hd
  · cases hd
  · cases hd
  · cases hd
  · cases hd
  · rw [hcl C c hc]; exact zero_inv rfl
  · rw [hcl C c hc] at h0; exact absurd rfl h0
  · cases hd
  · rw [hcl C c hc]
    have hlt := (List.getElem?_eq_some_iff.1 hc).1
    have hlt : C < 4 := by simpa [startW] using hlt
    have : (List.replicate 4 (default : TrackM)).getD C default = default := by rw [List.getD, List.getElem?_replicate, if_pos hlt]; rfl
    show Tells ((List.replicate 4 (default : TrackM)).getD C default) idleC
    rw [this]
    exact ⟨rfl, fun h => absurd rfl h, fun h => by have h : (0 : Int) = 3 ∨ (0 : Int) = 4 := h; omega⟩
  · cases hd
/-- The whole, ahead of each act; no act is refused. -/
theorem whole_at {l : List ActM} (hl : l.length ≤ 400) (hf : ∀ a ∈ l, ActFit a) : ∀ k, k ≤ l.length → (∃ prim, Whole prim k (ghostL l (runAns (startW 4) l) k) (woAt l k)) ∧ (woAt l k).clock ≤ k ∧ (woAt l k).cls.length = 4
  | 0, _ => ⟨⟨_, start_whole⟩, Int.le_refl _, by simp [startW, woAt, runWo]⟩
  | k + 1, h => by
    obtain ⟨⟨prim, hw⟩, hc, h4⟩ := whole_at hl hf k (by omega)
    have hm : l.getD k default ∈ l := by
      have : l.getD k default = l[k] := by simp [List.getD, show k < l.length by omega]
      rw [this]; exact List.getElem_mem _
    have hfit := hf _ hm
    have he : actE (woAt l k) (l.getD k default) = 0 := by
      unfold actE
      rw [if_neg (by rw [good_iff.2 hw.good]; decide), if_neg (by have := hfit.k1; have := hfit.k6; omega), if_neg (by rw [h4]; have := hfit.c0; have := hfit.c4; omega), if_neg (by omega)]
    have e1 : woAt l (k + 1) = (doW (woAt l k) (l.getD k default)).1 := by
      rw [woAt, runWo_at l _ k (by omega), runA, if_pos he]
    have e2 : ghostL l (runAns (startW 4) l) (k + 1) = ghostOf k (ghostL l (runAns (startW 4) l) k) (l.getD k default) (doW (woAt l k) (l.getD k default)).2 := by
      show ghostOf k _ _ ((runAns (startW 4) l).getD k default) = _
      rw [runAns_nth l _ k (by omega), runA, if_pos he]
    rw [e1, e2]
    refine ⟨hw.do he, ?_, ?_⟩
    · have := do_clock (woAt l k) (l.getD k default)
      omega
    · rw [show (doW (woAt l k) (l.getD k default)).1.cls.length = (woAt l k).cls.length from perform_len _ _]; exact h4
theorem ans_at {l : List ActM} (hl : l.length ≤ 400) (hf : ∀ a ∈ l, ActFit a) {k : Nat} (hk : k < l.length) : (runAns (startW 4) l).getD k default = (doW (woAt l k) (l.getD k default)).2 := by
  obtain ⟨⟨prim, hw⟩, hc, h4⟩ := whole_at hl hf k (by omega)
  have hm : l.getD k default ∈ l := by
    have : l.getD k default = l[k] := by simp [List.getD, hk]
    rw [this]; exact List.getElem_mem _
  have hfit := hf _ hm
  have he : actE (woAt l k) (l.getD k default) = 0 := by
    unfold actE
    rw [if_neg (by rw [good_iff.2 hw.good]; decide), if_neg (by have := hfit.k1; have := hfit.k6; omega), if_neg (by rw [h4]; have := hfit.c0; have := hfit.c4; omega), if_neg (by omega)]
  rw [runAns_nth l _ k hk, runA, if_pos he]
/-- TopWhole, in these words. -/
theorem Whole.one {prim : Int → ByteArray} {i : Nat} {g : GhostM} {wo : WoM} (h : Whole prim i g wo) {r r' : RowM} (hr : r ∈ wo.rows) (hr' : r' ∈ wo.rows) {x x' : RecM} (hx : x ∈ r.recs) (hx' : x' ∈ r'.recs) (e : x.s = x'.s) : x.c = x'.c := by
  have l1 := look_mem h.good.rows hr
  have l2 := look_mem h.good.rows hr'
  rw [← l1] at hx
  rw [← l2] at hx'
  have key : ∀ {k k' : ByteArray} {y y' : RecM}, y ∈ (look wo.rows k).recs → y' ∈ (look wo.rows k').recs → y.s = y'.s → y.c ≠ 0 → y'.c = y.c := by
    intro k k' y y' hy hy' e hc
    obtain ⟨d, hd, d1, d2, _⟩ := h.inv.rows.co k y hy hc
    by_cases hc' : y'.c = 0
    · exfalso
      obtain ⟨z, hz, ez, ezc⟩ := h.inv.rows.un k' y' hy' hc'
      obtain ⟨z', hz', ez', _, ezc'⟩ := h.inv.rows.dp d hd
      rw [d1, e] at hz' ez'
      have := rec_one (look_recs h.good.rows _) hz hz' (ez.trans ez'.symm)
      rw [this] at ezc
      exact ezc' ezc
    · obtain ⟨d', hd', d1', d2', _⟩ := h.inv.rows.co k' y' hy' hc'
      have := h.inv.rows.d0 d hd d' hd' (by rw [d1, d1', e])
      rw [← d2, ← d2', this]
  by_cases hc : x.c = 0
  · by_cases hc' : x'.c = 0
    · rw [hc, hc']
    · exact key hx' hx e.symm hc'
  · exact (key hx hx' e hc).symm
end Go.Proofs.YtambkjnhfejfaacGreatDoor

namespace Go.Proofs.YtambkjnhfejfaacGreatDoor
open Go.RowKit

/-- The value of a key among writes. -/
def lookW (ws : List WrM) (k : ByteArray) : Option ByteArray := (ws.find? fun y => decide (y.k = k)).map WrM.v
theorem lookW_mem {ws : List WrM} {k v : ByteArray} (h : lookW ws k = some v) : ⟨k, v⟩ ∈ ws := by
  unfold lookW at h
  obtain ⟨y, hy, hv⟩ := Option.map_eq_some_iff.1 h
  have h1 := List.mem_of_find?_eq_some hy
  have h2 : y.k = k := by have := List.find?_some hy; simpa using this
  subst h2 hv
  exact h1
theorem lookW_some {ws : List WrM} {y : WrM} (h : y ∈ ws) : (lookW ws y.k).isSome = true := by
  unfold lookW
  rw [Option.isSome_map, List.find?_isSome]
  exact ⟨y, h, by simp⟩
theorem lookW_hasK {ws : List WrM} (h : Inc (wrKeys ws)) (k : ByteArray) : lookW ws k = if hasK (wrKeys ws) k then some (wrAt ws k).v else none := by
  by_cases hk : hasK (wrKeys ws) k = true
  · rw [if_pos hk]
    have hlt : lowIx (wrKeys ws) k < ws.length := by simp only [hasK, Bool.and_eq_true, decide_eq_true_eq, List.length_map] at hk; exact hk.1
    have hkey : (wrAt ws k).k = k := by
      simp only [hasK, Bool.and_eq_true, decide_eq_true_eq] at hk
      have := hk.2
      simpa [List.getD, hlt, wrAt] using this
    have hm : wrAt ws k ∈ ws := getD_mem hlt
    have hs := lookW_some hm
    rw [hkey] at hs
    obtain ⟨v, hv⟩ := Option.isSome_iff_exists.1 hs
    rw [hv]
    -- the keys differ, so there is one
    have h2 := lookW_mem hv
    obtain ⟨i, hi, ei⟩ := List.getElem_of_mem h2
    obtain ⟨j, hj, ej⟩ := List.getElem_of_mem hm
    have key : ∀ a b, (ha : a < ws.length) → (hb : b < ws.length) → a < b → ws[a].k ≠ ws[b].k := by
      intro a b ha hb hab e
      have := List.pairwise_iff_getElem.1 h a b (by simpa using ha) (by simpa using hb) hab
      have : ltS ws[a].k ws[b].k = true := by simpa using this
      rw [e, ltS_irrefl] at this; cases this
    have eij : i = j := by
      rcases Nat.lt_trichotomy i j with hij | hij | hij
      · exact absurd (by rw [ei, ej, hkey]) (key i j hi hj hij)
      · exact hij
      · exact absurd (by rw [ei, ej, hkey]) (key j i hj hi hij)
    subst eij
    rw [ei] at ej
    rw [← ej]
  · rw [if_neg hk]
    cases hl : lookW ws k with
    | none => rfl
    | some v =>
      exfalso
      have := lookW_mem hl
      exact hk ((hasK_iff h).2 (List.mem_map.2 ⟨_, this, rfl⟩))

/-- A deal that may tell of a key at a time, ahead of an act. -/
def tellsOf (key : ByteArray) (at_ : Int) (act : Nat) (d : DealM) : Bool := (lookW d.ws key).isSome && decide (d.act < act) && decide (d.cm ≤ at_)
def bestF (key : ByteArray) (at_ : Int) (act : Nat) (b d : DealM) : DealM := if tellsOf key at_ act d && decide (b.cm < d.cm) then d else b
def bestD (key : ByteArray) (at_ : Int) (act : Nat) (ds : List DealM) : DealM := ds.foldl (bestF key at_ act) default
theorem bestD_snoc (key : ByteArray) (at_ : Int) (act : Nat) (ds : List DealM) (d : DealM) : bestD key at_ act (ds ++ [d]) = bestF key at_ act (bestD key at_ act ds) d := by simp [bestD]
theorem fold_spec (key : ByteArray) (at_ : Int) (act : Nat) : ∀ (ds : List DealM) (b : DealM), (ds.foldl (bestF key at_ act) b = b ∨ (ds.foldl (bestF key at_ act) b ∈ ds ∧ tellsOf key at_ act (ds.foldl (bestF key at_ act) b) = true ∧ b.cm < (ds.foldl (bestF key at_ act) b).cm)) ∧ b.cm ≤ (ds.foldl (bestF key at_ act) b).cm ∧ ∀ d ∈ ds, tellsOf key at_ act d = true → d.cm ≤ (ds.foldl (bestF key at_ act) b).cm
  | [], b => ⟨.inl rfl, Int.le_refl _, fun _ h => by cases h⟩
  | d :: ds, b => by
    obtain ⟨h1, h2, h3⟩ := fold_spec key at_ act ds (bestF key at_ act b d)
    rw [List.foldl_cons]
    have hle : b.cm ≤ (bestF key at_ act b d).cm ∧ (tellsOf key at_ act d = true → d.cm ≤ (bestF key at_ act b d).cm) := by
      unfold bestF
      split
      · rename_i h
        simp only [Bool.and_eq_true, decide_eq_true_eq] at h
        exact ⟨by omega, fun _ => Int.le_refl _⟩
      · rename_i h
        refine ⟨Int.le_refl _, fun ht => ?_⟩
        simp only [Bool.and_eq_true, decide_eq_true_eq, not_and, Int.not_lt] at h
        exact h ht
    refine ⟨?_, by omega, fun e he ht => ?_⟩
    · rcases h1 with h1 | ⟨h1, h1', h1''⟩
      · rw [h1]
        by_cases h : (tellsOf key at_ act d && decide (b.cm < d.cm)) = true
        · have e : bestF key at_ act b d = d := by unfold bestF; rw [if_pos h]
          simp only [Bool.and_eq_true, decide_eq_true_eq] at h
          rw [e]; exact .inr ⟨List.mem_cons_self, h⟩
        · have e : bestF key at_ act b d = b := by unfold bestF; rw [if_neg h]
          rw [e]; exact .inl rfl
      · exact .inr ⟨List.mem_cons_of_mem _ h1, h1', by omega⟩
    · rcases List.mem_cons.1 he with rfl | he
      · have := hle.2 ht; omega
      · exact h3 e he ht
theorem fold_skip (key : ByteArray) (at_ : Int) (act : Nat) : ∀ (ds : List DealM) (b : DealM), (∀ d ∈ ds, tellsOf key at_ act d = false) → ds.foldl (bestF key at_ act) b = b
  | [], _, _ => rfl
  | d :: ds, b, h => by
    rw [List.foldl_cons, show bestF key at_ act b d = b by unfold bestF; rw [h d List.mem_cons_self]; rfl]
    exact fold_skip key at_ act ds b fun e he => h e (List.mem_cons_of_mem _ he)
/-- What is read last. -/
theorem best_spec {l : List RecM} (h : recsFrom 0 0 l = true) (at_ : Int) : (bestOf at_ l = zeroRec ∧ ∀ y ∈ l, upTo at_ y = false) ∨ (bestOf at_ l ∈ l ∧ upTo at_ (bestOf at_ l) = true ∧ ∀ y ∈ l, upTo at_ y = true → y.c ≤ (bestOf at_ l).c) := by
  rw [bestOf_eq]
  by_cases hF : l.filter (upTo at_) = []
  · left
    rw [hF]
    refine ⟨rfl, fun y hy => ?_⟩
    have := List.filter_eq_nil_iff.1 hF y hy
    simpa using this
  · right
    have e : (l.filter (upTo at_)).getLastD zeroRec = (l.filter (upTo at_)).getLast hF := by rw [List.getLastD_eq_getLast?, List.getLast?_eq_some_getLast hF]; rfl
    rw [e]
    have hm := List.getLast_mem hF
    obtain ⟨hm1, hm2⟩ := List.mem_filter.1 hm
    refine ⟨hm1, hm2, fun y hy hu => ?_⟩
    have hyF : y ∈ l.filter (upTo at_) := List.mem_filter.2 ⟨hy, hu⟩
    have hp : (l.filter (upTo at_)).Pairwise (fun a b => a.s < b.s ∧ (b.c ≠ 0 → a.c ≤ b.s)) := ((recsOk_iff _).1 h).2.sublist List.filter_sublist
    obtain ⟨i, hi, rfl⟩ := List.getElem_of_mem hyF
    rw [List.getLast_eq_getElem]
    by_cases hil : i = (l.filter (upTo at_)).length - 1
    · subst hil; exact Int.le_refl _
    · have hj : (l.filter (upTo at_)).length - 1 < (l.filter (upTo at_)).length := by omega
      have hpp := (List.pairwise_iff_getElem.1 hp i ((l.filter (upTo at_)).length - 1) hi hj (by omega)).2
      have hmm := List.getElem_mem hj
      obtain ⟨q1, q2⟩ := List.mem_filter.1 hmm
      have hc : (l.filter (upTo at_))[(l.filter (upTo at_)).length - 1].c ≠ 0 := by
        simp only [upTo, Bool.and_eq_true, bne_iff_ne] at q2; exact q2.1
      have h1 := hpp hc
      have h2 := (rec_parts h q1).2.2 hc
      omega
/-- What is read is what the deals tell. -/
theorem Whole.read {prim : Int → ByteArray} {i : Nat} {g : GhostM} {wo : WoM} (h : Whole prim i g wo) {key : ByteArray} {at_ : Int} (hf : inB (look wo.rows key).ls 1 at_ = false) :
    readA (look wo.rows key) at_ = ⟨0, decide (0 < (bestD key at_ i g.ds).cm), (lookW (bestD key at_ i g.ds).ws key).getD emptyS, 0, 0⟩ := by
  rw [readA_free hf]
  have hrec := look_recs h.good.rows key
  -- a deal that tells has its record here
  have hd : ∀ d ∈ g.ds, ∀ v, ⟨key, v⟩ ∈ d.ws → d.cm ≤ at_ → (⟨d.st, d.cm, v⟩ : RecM) ∈ (look wo.rows key).recs := by
    intro d hd v hv hc
    rcases h.inv.rows.dl d hd ⟨key, v⟩ hv with h' | ⟨h1, _⟩
    · exact h'
    · exfalso
      have h1 : (look wo.rows key).ls = d.st := h1
      have a1 := h.inv.rows.d1 d hd
      have a2 := (h.inv.dt d hd).1
      rw [h1] at hf
      rw [inB_true.2 ⟨a1, by omega⟩] at hf
      cases hf
  obtain ⟨s1, s2, s3⟩ := fold_spec key at_ i g.ds default
  have s2 : (0 : Int) ≤ (bestD key at_ i g.ds).cm := s2
  have s3 : ∀ d ∈ g.ds, tellsOf key at_ i d = true → d.cm ≤ (bestD key at_ i g.ds).cm := s3
  have s1 : bestD key at_ i g.ds = default ∨ (bestD key at_ i g.ds ∈ g.ds ∧ tellsOf key at_ i (bestD key at_ i g.ds) = true ∧ (0 : Int) < (bestD key at_ i g.ds).cm) := s1
  obtain ⟨b, hb⟩ : ∃ b, b = bestD key at_ i g.ds := ⟨_, rfl⟩
  rw [← hb] at s1 s2 s3 ⊢
  rcases best_spec hrec at_ with ⟨e, hno⟩ | ⟨hm, hu, hmax⟩
  · -- nothing is read
    rw [e]
    have : b = default := by
      rcases s1 with s1 | ⟨b1, b2, b3⟩
      · exact s1
      · exfalso
        simp only [tellsOf, Bool.and_eq_true, decide_eq_true_eq] at b2
        obtain ⟨v, hv⟩ := Option.isSome_iff_exists.1 b2.1.1
        have := hno _ (hd b b1 v (lookW_mem hv) b2.2)
        simp only [upTo, Bool.and_eq_false_iff, bne_eq_false_iff_eq, decide_eq_false_iff_not] at this
        have h2 := b2.2
        omega
    rw [this]
    rfl
  · obtain ⟨x, hx⟩ : ∃ x, x = bestOf at_ (look wo.rows key).recs := ⟨_, rfl⟩
    rw [← hx] at hm hu hmax ⊢
    simp only [upTo, Bool.and_eq_true, bne_iff_ne, decide_eq_true_eq] at hu
    obtain ⟨d, hdm, d1, d2, d3⟩ := h.inv.rows.co key x hm hu.1
    have hdt : tellsOf key at_ i d = true := by
      simp only [tellsOf, Bool.and_eq_true, decide_eq_true_eq]
      exact ⟨⟨lookW_some d3, h.acts d hdm⟩, by omega⟩
    have hle := s3 d hdm hdt
    have hx0 := (rec_parts hrec hm).2.2 hu.1
    have hx1 := (rec_parts hrec hm).1
    rcases s1 with s1 | ⟨b1, b2, _⟩
    · rw [s1] at hle
      have hle : d.cm ≤ 0 := hle
      omega
    · simp only [tellsOf, Bool.and_eq_true, decide_eq_true_eq] at b2
      obtain ⟨v, hv⟩ := Option.isSome_iff_exists.1 b2.1.1
      have hbr := hd b b1 v (lookW_mem hv) b2.2
      have hub : upTo at_ (⟨b.st, b.cm, v⟩ : RecM) = true := by
        simp only [upTo, Bool.and_eq_true, bne_iff_ne, decide_eq_true_eq]
        exact ⟨by omega, b2.2⟩
      have hbx : b.cm ≤ x.c := hmax _ hbr hub
      have ec : b.cm = x.c := by omega
      have es : b.st = x.s := by
        by_cases es : b.st = x.s
        · exact es
        · exfalso
          have hb0 : b.st < b.cm := (h.inv.dt b b1).1
          rcases rec_apart hrec hbr hm (show b.cm ≠ 0 by omega) hu.1 es with h' | h'
          · have h' : b.cm ≤ x.s := h'
            omega
          · have h' : x.c ≤ b.st := h'
            omega
      have e1 := rec_one hrec hbr hm es
      have ev : v = x.v := congrArg RecM.v e1
      rw [hv, ec, ev]
      rfl
/-- The deals only grow. -/
theorem ghost_more (l : List ActM) (x : List AnsM) (k : Nat) : ∀ m, k ≤ m → ∃ more, (ghostL l x m).ds = (ghostL l x k).ds ++ more ∧ ∀ d ∈ more, k ≤ d.act
  | 0, h => by
    obtain rfl : k = 0 := by omega
    exact ⟨[], by simp, fun _ h => by cases h⟩
  | m + 1, h => by
    by_cases e : k = m + 1
    · subst e; exact ⟨[], by simp, fun _ h => by cases h⟩
    · obtain ⟨more, h1, h2⟩ := ghost_more l x k m (by omega)
      have hstep : ∃ more', (ghostL l x (m + 1)).ds = (ghostL l x m).ds ++ more' ∧ ∀ d ∈ more', d.act = m := by
        show ∃ more', (ghostOf m (ghostL l x m) (l.getD m default) (x.getD m default)).ds = _ ∧ _
        simp only [ghostOf]
        split
        · exact ⟨_, rfl, fun d hd => by rw [List.mem_singleton.1 hd]⟩
        · exact ⟨[], by simp, fun _ h => by cases h⟩
      obtain ⟨more', h3, h4⟩ := hstep
      refine ⟨more ++ more', by rw [h3, h1, List.append_assoc], fun d hd => ?_⟩
      rcases List.mem_append.1 hd with hd | hd
      · exact h2 d hd
      · rw [h4 d hd]; omega
theorem ghost_acts (l : List ActM) (x : List AnsM) : ∀ m, (∀ d ∈ (ghostL l x m).ds, d.act < m) ∧ (ghostL l x m).ds.Pairwise (fun d e => d.act < e.act)
  | 0 => ⟨fun _ h => (by cases h), List.Pairwise.nil⟩
  | m + 1 => by
    obtain ⟨h1, h2⟩ := ghost_acts l x m
    show (∀ d ∈ (ghostOf m (ghostL l x m) (l.getD m default) (x.getD m default)).ds, d.act < m + 1) ∧ _
    show _ ∧ (ghostOf m (ghostL l x m) (l.getD m default) (x.getD m default)).ds.Pairwise _
    simp only [ghostOf]
    split
    · refine ⟨fun d hd => ?_, List.pairwise_append.2 ⟨h2, List.pairwise_singleton _ _, fun a ha b hb => ?_⟩⟩
      · rcases List.mem_append.1 hd with hd | hd
        · have := h1 d hd; omega
        · rw [List.mem_singleton.1 hd]; exact Nat.lt_succ_self m
      · rw [List.mem_singleton.1 hb]; exact h1 a ha
    · exact ⟨fun d hd => by have := h1 d hd; omega, h2⟩
/-- The deals behind a whole script tell of an act ahead of them what those did that were there. -/
theorem best_then (l : List ActM) (x : List AnsM) {k m : Nat} (h : k ≤ m) (key : ByteArray) (at_ : Int) : bestD key at_ k (ghostL l x m).ds = bestD key at_ k (ghostL l x k).ds := by
  obtain ⟨more, h1, h2⟩ := ghost_more l x k m h
  unfold bestD
  rw [h1, List.foldl_append]
  refine fold_skip key at_ k more _ fun d hd => ?_
  have := h2 d hd
  simp only [tellsOf, Bool.and_eq_false_iff, decide_eq_false_iff_not]
  exact .inl (.inr (by omega))
/-- What a Get must answer, as the acts and answers tell. -/
def wantM (l : List ActM) (x : List AnsM) (k : Nat) : ByteArray × Bool :=
  let t := (ghostL l x k).ts.getD (l.getD k default).c.toNat default
  let b := bestD (l.getD k default).key t.st k (ghostL l x l.length).ds
  if (lookW t.ws (l.getD k default).key).isSome then ((lookW t.ws (l.getD k default).key).getD emptyS, true) else ((lookW b.ws (l.getD k default).key).getD emptyS, decide (0 < b.cm))
/-- TopSnapshot, in these words. -/
theorem snapshot {l : List ActM} (hl : l.length ≤ 400) (hf : ∀ a ∈ l, ActFit a) {k : Nat} (hk : k < l.length) (h2 : (l.getD k default).kind = 2) (h0 : ((runAns (startW 4) l).getD k default).code = 0) :
    (((runAns (startW 4) l).getD k default).val, ((runAns (startW 4) l).getD k default).is) = wantM l (runAns (startW 4) l) k := by
  obtain ⟨⟨prim, hw⟩, _, h4⟩ := whole_at hl hf k (by omega)
  have hm : l.getD k default ∈ l := getD_mem hk
  have hfit := hf _ hm
  have hx := ans_at hl hf hk
  obtain ⟨a, ha⟩ : ∃ a, a = l.getD k default := ⟨_, rfl⟩
  unfold wantM
  rw [hx] at h0 ⊢
  rw [← ha] at h0 h2 hfit ⊢
  have hC : a.c.toNat < (woAt l k).cls.length := by rw [h4]; have := hfit.c0; have := hfit.c4; omega
  obtain ⟨c, hc⟩ : ∃ c, (woAt l k).cls[a.c.toNat]? = some c := ⟨_, List.getElem?_eq_getElem hC⟩
  have hcd : (woAt l k).cls.getD a.c.toNat default = c := by simp [List.getD, hc]
  have e : (doW (woAt l k) a).2.code = (getA (woAt l k) c a.key).code ∧ (doW (woAt l k) a).2.val = (getA (woAt l k) c a.key).val ∧ (doW (woAt l k) a).2.is = (getA (woAt l k) c a.key).is := by
    unfold doW performW
    dsimp only
    rw [if_neg (by omega), if_pos h2, hcd]
    exact ⟨rfl, rfl, rfl⟩
  rw [e.1] at h0
  rw [e.2.1, e.2.2]
  have hacc : accessE c a.key = 0 := by
    by_cases hz : accessE c a.key = 0
    · exact hz
    · exfalso
      rw [getA, if_pos hz] at h0
      exact hz h0
  have hph : c.ph = 1 := by
    unfold accessE at hacc
    split at hacc
    · omega
    · rename_i h1; simpa using h1
  have ht := hw.tells _ c hc
  obtain ⟨t1, t2⟩ := ht.op (by omega)
  obtain ⟨t, htd⟩ : ∃ t, t = (ghostL l (runAns (startW 4) l) k).ts.getD a.c.toNat default := ⟨_, rfl⟩
  rw [← htd] at t1 t2 ⊢
  dsimp only
  rw [t1, t2, best_then l (runAns (startW 4) l) (Nat.le_of_lt hk) a.key c.st]
  have hinc : Inc (wrKeys c.ws) := (hw.good.cl hc).ws.inc
  rw [lookW_hasK hinc]
  have hga : getA (woAt l k) c a.key = if hasK (wrKeys c.ws) a.key then ⟨0, true, (wrAt c.ws a.key).v, 0, 0⟩ else if hasK (rowKeys (woAt l k).rows) a.key then readA (rowAt (woAt l k).rows a.key) c.st else ansCode 0 := by rw [getA, if_neg (by simpa using hacc)]
  rw [hga] at h0 ⊢
  by_cases hown : hasK (wrKeys c.ws) a.key = true
  · rw [if_pos hown, if_pos hown]; rfl
  · rw [if_neg hown] at h0 ⊢
    rw [if_neg hown]
    have hrd : (if hasK (rowKeys (woAt l k).rows) a.key then readA (rowAt (woAt l k).rows a.key) c.st else ansCode 0) = readA (look (woAt l k).rows a.key) c.st := by
      unfold look
      by_cases hh : hasK (rowKeys (woAt l k).rows) a.key = true
      · rw [if_pos hh, if_pos hh]
      · rw [if_neg hh, if_neg hh, readA_free (r := freshRow a.key) (show inB (0 : Int) 1 c.st = false from inB_false.2 (.inl (by decide)))]
        rfl
    rw [hrd] at h0 ⊢
    rw [hw.read (readA_code h0)]
    rfl
/-- TopApart, in these words. -/
theorem Whole.apart {prim : Int → ByteArray} {i : Nat} {g : GhostM} {wo : WoM} (h : Whole prim i g wo) {a b : DealM} (ha : a ∈ g.ds) (hb : b ∈ g.ds) (hne : a.act ≠ b.act) {k : ByteArray} (h1 : (lookW a.ws k).isSome = true) (h2 : (lookW b.ws k).isSome = true) : a.cm ≤ b.st ∨ b.cm ≤ a.st := by
  obtain ⟨v, hv⟩ := Option.isSome_iff_exists.1 h1
  obtain ⟨u, hu⟩ := Option.isSome_iff_exists.1 h2
  have hst : a.st ≠ b.st := fun e => hne (by rw [h.inv.rows.d0 a ha b hb e])
  have hrec := look_recs h.good.rows k
  have a1 := h.inv.rows.d1 a ha
  have b1 := h.inv.rows.d1 b hb
  have at_ := (h.inv.dt a ha).1
  have bt := (h.inv.dt b hb).1
  rcases h.inv.rows.dl a ha _ (lookW_mem hv) with ra | ⟨la, _⟩
  · rcases h.inv.rows.dl b hb _ (lookW_mem hu) with rb | ⟨lb, _⟩
    · exact rec_apart hrec ra rb (show a.cm ≠ 0 by omega) (show b.cm ≠ 0 by omega) hst
    · have lb : (look wo.rows k).ls = b.st := lb
      have := ((look_locked h.good.rows (k := k) (by rw [lb]; omega)).2.2 _ ra).2
      rw [lb] at this
      exact .inl this
  · have la : (look wo.rows k).ls = a.st := la
    rcases h.inv.rows.dl b hb _ (lookW_mem hu) with rb | ⟨lb, _⟩
    · have := ((look_locked h.good.rows (k := k) (by rw [la]; omega)).2.2 _ rb).2
      rw [la] at this
      exact .inr this
    · have lb : (look wo.rows k).ls = b.st := lb
      exact absurd (la.symm.trans lb) hst
end Go.Proofs.YtambkjnhfejfaacGreatDoor
