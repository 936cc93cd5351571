/-
  Contracts of functions of the program and words for memory, several texts in one: KMap, KValue, KDeals, GEnd, KClone. Conditions: those stated with each.
-/
import Derived.Test.YtambkjnhfejfaacGreatDoorG00
import Derived.Test.YtambkjnhfejfaacGreatDoorG01
import Derived.Test.YtambkjnhfejfaacGreatDoorG29
import Derived.Test.YtambkjnhfejfaacGreatDoorG30
import Derived.Test.YtambkjnhfejfaacGreatDoorRows
import Derived.Maps.StringElems
import Derived.Maps.Ext
import Derived.Deep.DeepCutAuto
import Derived.BigQuiet
import Derived.Deep.QuietTactic
import Derived.Deep.RegionHeld3
namespace Go.Proofs.YtambkjnhfejfaacGreatDoor
open Go.RowKit Go.Maps

theorem law_str : Keyed Tryz.prog 9 := string_keyed Tryz.underlying9
theorem zero_str (w : World) : (zeroValue 9).run Tryz.prog w = .ok (.string ⟨#[]⟩) w := by kernel_rfl
theorem key_str {s : ByteArray} (h : s.size ≤ maxLen) : Go.keyOf Tryz.prog 9 (.string s) = some (.string s.data.toList) := Go.WideMaps.keyOf_string_mk Tryz.underlying9 h
/-- The key of a string. -/
abbrev sk (s : ByteArray) : Lit := .string s.data.toList
theorem sk_inj {a b : ByteArray} (h : sk a = sk b) : a = b := by
  injection h with h
  obtain ⟨a⟩ := a
  obtain ⟨b⟩ := b
  simp only [ByteArray.mk.injEq]
  exact Array.toList_inj.1 h
/-- A datum holds these writes. -/
def MapIs (D : DataW Unit) (ws : List WrM) : Prop := ∀ s : ByteArray, s.size ≤ maxLen → Maps.has D (sk s) = (lookW ws s).isSome ∧ ∀ v, lookW ws s = some v → D.atKey (sk s) (.lit (.string [])) = .lit (.string v.data.toList)
theorem mapIs_nil : MapIs (.map []) [] := fun s _ => ⟨rfl, fun v h => by cases h⟩
theorem lookW_put {ws : List WrM} (h : Inc (wrKeys ws)) (key val k : ByteArray) : lookW (putWs ws key val) k = if k = key then some val else lookW ws k := by
  unfold putWs
  by_cases hk : hasK (wrKeys ws) key = true
  · rw [if_pos hk]
    have hlt : lowIx (wrKeys ws) key < ws.length := by simp only [hasK, Bool.and_eq_true, decide_eq_true_eq, List.length_map] at hk; exact hk.1
    have hkey : (wrAt ws key).k = key := by
      simp only [hasK, Bool.and_eq_true, decide_eq_true_eq] at hk
      have := hk.2
      simpa [List.getD, hlt, wrAt] using this
    have hkeys : wrKeys (ws.set (lowIx (wrKeys ws) key) ⟨(wrAt ws key).k, val⟩) = wrKeys ws := by
      apply List.ext_getElem?
      intro j
      simp only [wrKeys, List.getElem?_map, List.getElem?_set]
      by_cases e : lowIx (wrKeys ws) key = j
      · subst e
        simp [hlt, wrAt, List.getD]
      · simp [e]
    rw [lookW_hasK (by rw [hkeys]; exact h), lookW_hasK h, hkeys]
    by_cases e : k = key
    · subst e
      rw [if_pos hk, if_pos rfl]
      show some ((ws.set (lowIx (wrKeys ws) k) ⟨(wrAt ws k).k, val⟩).getD (lowIx (wrKeys (ws.set (lowIx (wrKeys ws) k) ⟨(wrAt ws k).k, val⟩)) k) default).v = some val
      rw [hkeys]
      simp [List.getD, hlt]
    · rw [if_neg e]
      by_cases hk' : hasK (wrKeys ws) k = true
      · rw [if_pos hk', if_pos hk']
        have hne : lowIx (wrKeys ws) key ≠ lowIx (wrKeys ws) k := by
          intro e'
          have hlt' : lowIx (wrKeys ws) k < ws.length := by simp only [hasK, Bool.and_eq_true, decide_eq_true_eq, List.length_map] at hk'; exact hk'.1
          have h2 : (wrAt ws k).k = k := by
            simp only [hasK, Bool.and_eq_true, decide_eq_true_eq] at hk'
            have := hk'.2
            simpa [List.getD, hlt', wrAt] using this
          unfold wrAt at hkey h2
          rw [e'] at hkey
          exact e (h2.symm.trans hkey)
        show some ((ws.set (lowIx (wrKeys ws) key) ⟨(wrAt ws key).k, val⟩).getD (lowIx (wrKeys (ws.set (lowIx (wrKeys ws) key) ⟨(wrAt ws key).k, val⟩)) k) default).v = some (ws.getD (lowIx (wrKeys ws) k) default).v
        rw [hkeys]
        simp [List.getD, hne]
      · rw [if_neg hk', if_neg hk']
  · have hk' : hasK (wrKeys ws) key = false := by simpa using hk
    rw [if_neg hk]
    have hinc : Inc (wrKeys (ws.take (lowIx (wrKeys ws) key) ++ ⟨key, val⟩ :: ws.drop (lowIx (wrKeys ws) key))) := by
      have e : wrKeys (ws.take (lowIx (wrKeys ws) key) ++ ⟨key, val⟩ :: ws.drop (lowIx (wrKeys ws) key)) = (wrKeys ws).take (lowIx (wrKeys ws) key) ++ key :: (wrKeys ws).drop (lowIx (wrKeys ws) key) := by
        simp only [wrKeys, List.map_append, List.map_cons, List.map_take, List.map_drop]
      rw [e]; exact inc_ins h hk'
    have hmem : ∀ y : WrM, y ∈ ws.take (lowIx (wrKeys ws) key) ++ ⟨key, val⟩ :: ws.drop (lowIx (wrKeys ws) key) ↔ y = ⟨key, val⟩ ∨ y ∈ ws := by
      intro y
      rw [List.mem_append, List.mem_cons]
      conv => rhs; rw [← List.take_append_drop (lowIx (wrKeys ws) key) ws, List.mem_append]
      constructor
      · rintro (h | h | h)
        · exact .inr (.inl h)
        · exact .inl h
        · exact .inr (.inr h)
      · rintro (h | h | h)
        · exact .inr (.inl h)
        · exact .inl h
        · exact .inr (.inr h)
    -- by membership: the keys differ
    have one : ∀ {ws' : List WrM}, Inc (wrKeys ws') → ∀ y : WrM, y ∈ ws' → lookW ws' y.k = some y.v := by
      intro ws' hi y hy
      obtain ⟨v, hv⟩ := Option.isSome_iff_exists.1 (lookW_some hy)
      rw [hv]
      have h2 := lookW_mem hv
      obtain ⟨i, hi1, ei⟩ := List.getElem_of_mem h2
      obtain ⟨j, hj1, ej⟩ := List.getElem_of_mem hy
      have key' : ∀ a b, (ha : a < ws'.length) → (hb : b < ws'.length) → a < b → ws'[a].k ≠ ws'[b].k := by
        intro a b ha hb hab e
        have := List.pairwise_iff_getElem.1 hi a b (by simpa using ha) (by simpa using hb) hab
        have : ltS ws'[a].k ws'[b].k = true := by simpa using this
        rw [e, ltS_irrefl] at this; cases this
      have eij : i = j := by
        rcases Nat.lt_trichotomy i j with hij | hij | hij
        · exact absurd (by rw [ei, ej]) (key' i j hi1 hj1 hij)
        · exact hij
        · exact absurd (by rw [ei, ej]) (key' j i hj1 hi1 hij)
      subst eij
      rw [ei] at ej
      rw [← ej]
    by_cases e : k = key
    · subst e
      rw [if_pos rfl]
      exact one hinc ⟨k, val⟩ ((hmem _).2 (.inl rfl))
    · rw [if_neg e]
      cases hl : lookW ws k with
      | some v => exact one hinc ⟨k, v⟩ ((hmem _).2 (.inr (lookW_mem hl)))
      | none =>
        cases hl' : lookW (ws.take (lowIx (wrKeys ws) key) ++ ⟨key, val⟩ :: ws.drop (lowIx (wrKeys ws) key)) k with
        | none => rfl
        | some v =>
          exfalso
          rcases (hmem _).1 (lookW_mem hl') with h' | h'
          · injection h' with h' _; exact e h'
          · have := lookW_some h'
            rw [show (⟨k, v⟩ : WrM).k = k from rfl, hl] at this
            cases this
theorem MapIs.put {D : DataW Unit} {ws : List WrM} (h : MapIs D ws) (hD : IsMap D) (hi : Inc (wrKeys ws)) (key val : ByteArray) : MapIs (D.put (sk key) (.lit (.string val.data.toList))) (putWs ws key val) := by
  intro s hs
  rw [lookW_put hi]
  by_cases e : s = key
  · subst e
    rw [if_pos rfl]
    refine ⟨has_put_same hD (show WideAt.IsKeyLit (sk s) from trivial) _, fun v hv => ?_⟩
    injection hv with hv
    subst hv
    exact atKey_put_same hD (show WideAt.IsKeyLit (sk s) from trivial) _ _
  · rw [if_neg e]
    have hne : sk s ≠ sk key := fun e' => e (sk_inj e')
    rw [has_put_other hne, atKey_put_other hne]
    exact h s hs
/-- A block that is a map and holds these writes. -/
def MapAt (w : World) (b n : Nat) (ws : List WrM) : Prop := ∃ D : DataW Unit, w.ownsMap Tryz.prog 9 (plainElem Tryz.prog 9) b n D ∧ MapIs D ws
section
variable {w w' : World} {b n : Nat} {ws : List WrM}
theorem MapAt.lt (h : MapAt w b n ws) : b < w.heap.size := by obtain ⟨D, h, _⟩ := h; exact h.lt
theorem MapAt.blk (h : MapAt w b n ws) (hk : w'.heap[b]? = w.heap[b]?) : MapAt w' b n ws := by
  obtain ⟨D, ⟨es, clock, hb, r⟩, hi⟩ := h
  exact ⟨D, ⟨es, clock, hk.trans hb, r⟩, hi⟩
theorem MapAt.upto (h : MapAt w b n ws) (hb : Below w.heap.size w w') : MapAt w' b n ws := h.blk (hb.block b h.lt)
theorem MapAt.obj (h : MapAt w b n ws) : ∃ es clock, w.heap[b]? = some (.map es clock) := by obtain ⟨D, ⟨es, clock, hb, _⟩, _⟩ := h; exact ⟨es, clock, hb⟩
theorem MapAt.mono (h : MapAt w b n ws) {n' : Nat} (hn : n ≤ n') : MapAt w b n' ws := by obtain ⟨D, h, hi⟩ := h; exact ⟨D, h.mono hn, hi⟩
/-- 'v, ok := m[k]'. -/
theorem MapAt.look_ok (h : MapAt w b n ws) {s : ByteArray} (hs : s.size ≤ maxLen) : (Instr.lookup 49 (.map (some b)) (.string s) true).run Tryz.prog w = .ok (.tuple #[.string ((lookW ws s).getD emptyS), .bool (lookW ws s).isSome]) w := by
  obtain ⟨D, hown, hi⟩ := h
  obtain ⟨v, ps, hrun, hv⟩ := hown.look_ok law_str Tryz.underlying49 (zero_str w) (plainElem_string (H := Unit) Tryz.underlying9 (s := ⟨#[]⟩) (Nat.zero_le _)) (key_str hs)
  obtain ⟨c, rfl, hc, _⟩ := plainElem_string_inv Tryz.underlying9 hv
  rw [hrun, (hi s hs).1]
  cases hl : lookW ws s with
  | none =>
    have hh : Maps.has D (sk s) = false := by rw [(hi s hs).1, hl]; rfl
    have h1 : D.atKey (sk s) (.lit (.string [])) = .lit (.string c.data.toList) := congrArg Prod.fst hc
    rw [atKey_of_not_has hh] at h1
    have h2 : sk ⟨#[]⟩ = sk c := by injection h1
    rw [← sk_inj h2]
    rfl
  | some u =>
    have h1 : D.atKey (sk s) (.lit (.string [])) = .lit (.string c.data.toList) := congrArg Prod.fst hc
    rw [(hi s hs).2 u hl] at h1
    have h2 : sk u = sk c := by injection h1
    rw [← sk_inj h2]
    rfl
set_option maxRecDepth 100000 in
/-- 'm[k]'. -/
theorem MapAt.look (h : MapAt w b n ws) {s : ByteArray} (hs : s.size ≤ maxLen) : (Instr.lookup 49 (.map (some b)) (.string s) false).run Tryz.prog w = .ok (.string ((lookW ws s).getD emptyS)) w := by
  obtain ⟨D, hown, hi⟩ := h
  obtain ⟨es, clock, hb, F, hn, hD⟩ := hown
  rcases Maps.fit_look false law_str Tryz.underlying49 (zero_str w) hb F (key_str hs) with ⟨hrun, _, hat⟩ | ⟨e0, y, _, _, hrun, hRv, hat, _⟩
  · rw [← hD] at hat
    have hh := has_false_of_atKey hat
    have hl : lookW ws s = none := by
      have := (hi s hs).1
      rw [show Maps.has D (sk s) = false from hh] at this
      simpa using this.symm
    rw [hl]; exact hrun
  · rw [← hD] at hat
    have hh := has_true_of_atKey hat
    have hl : (lookW ws s).isSome = true := by rw [← (hi s hs).1]; exact hh
    obtain ⟨u, hu⟩ := Option.isSome_iff_exists.1 hl
    obtain ⟨c, hc, hy, _⟩ := plainElem_string_inv Tryz.underlying9 hRv
    have h1 := (hi s hs).2 u hu
    rw [hat, hy] at h1
    have h2 : sk u = sk c := by
      have h3 : (DataW.lit (sk c) : DataW Unit) = .lit (sk u) := h1
      injection h3 with h3
      exact h3.symm
    rw [hu, show (some u).getD emptyS = u from rfl, sk_inj h2]
    simp only [hc] at hrun
    exact hrun
end
theorem key_str_inv {v : Value} {kl : Lit} (h : Go.keyOf Tryz.prog 9 v = some kl) : ∃ s : ByteArray, v = .string s ∧ kl = sk s ∧ s.size ≤ maxLen := by
  have hk := Tryz.underlying9
  cases v <;> simp [Go.keyOf, hk, mapKey] at h
  obtain ⟨h1, rfl⟩ := h
  exact ⟨_, rfl, rfl, h1⟩
/-- The range's step: keys and elements are strings. -/
theorem wpList_next_ss (w : World) {ops : Array Oper} {rest : List Oper} {o : Oper} {a : Act} {Q : Exit → Act → World → Prop}
    (hg : o.guard = none) (it : Operand) (hop : o.op = Op.next it false) (b r n : Nat) (D : DataW Unit) (left : Lit → Bool) (cnt : Nat) (hit : a.eval it = .pointer (some ⟨r, 0, none⟩)) (h : w.ranges Tryz.prog 9 (plainElem Tryz.prog 9) b r n D left cnt)
    (hDone : cnt = 0 → (∀ kl, left kl = false) → wpList Tryz.prog ops Q rest (a.put o.dst (.tuple #[.bool false])) w)
    (hMore : ∀ (x c : ByteArray) (w' : World) (cnt' : Nat), x.size ≤ maxLen → c.size ≤ maxLen → left (sk x) = true → (∀ zd, D.atKey (sk x) zd = .lit (.string c.data.toList)) → w'.ranges Tryz.prog 9 (plainElem Tryz.prog 9) b r n D (fun z => left z && !z.sameKey (sk x)) cnt' → cnt' < cnt →
      w.grownBy w' (some r) → w'.heap.size = w.heap.size → (Instr.entry (.pointer (some ⟨r, 0, none⟩))).run Tryz.prog w' = .ok (.tuple #[.string x, .string c]) w' → wpList Tryz.prog ops Q rest (a.put o.dst (.tuple #[.bool true, .string x, .string c])) w') :
    wpList Tryz.prog ops Q (o :: rest) a w :=
  wpList_next_ranges w hg it hop 9 law_str (plainElem Tryz.prog 9) Value.string Value.string (fun key kl hkey => by obtain ⟨x, rfl, _⟩ := key_str_inv hkey; exact ⟨x, rfl⟩) (fun v y hv => by obtain ⟨c, rfl, _⟩ := plainElem_string_inv Tryz.underlying9 hv; exact ⟨c, rfl⟩)
    b r n D left cnt hit h hDone (fun x c kl y w' cnt' hkey hlk hv hat hrg hlt hgr hsz hen => by
      obtain ⟨x', ex, rfl, hwx⟩ := key_str_inv hkey
      cases ex
      obtain ⟨c', ec, rfl, hwc⟩ := plainElem_string_inv Tryz.underlying9 hv
      cases ec
      exact hMore x c w' cnt' hwx hwc hlk hat hrg hlt hgr hsz hen)
theorem nil_look_ok (w : World) {s : ByteArray} (hs : s.size ≤ maxLen) : (Instr.lookup 49 (.map none) (.string s) true).run Tryz.prog w = .ok (.tuple #[.string emptyS, .bool false]) w :=
  Maps.look_nil true law_str Tryz.underlying49 (zero_str w) (key_str hs)
theorem nil_look (w : World) {s : ByteArray} (hs : s.size ≤ maxLen) : (Instr.lookup 49 (.map none) (.string s) false).run Tryz.prog w = .ok (.string emptyS) w :=
  Maps.look_nil false law_str Tryz.underlying49 (zero_str w) (key_str hs)
end Go.Proofs.YtambkjnhfejfaacGreatDoor

namespace Go.Proofs.YtambkjnhfejfaacGreatDoor
open Go.RowKit Go.Maps

/-- The four cells of a deal, and the map of its writes. -/
structure DealAt (w : World) (b o : Nat) (d : DealM) : Prop where
  s : w.cell? ⟨b, o, none⟩ = some (.int .i64 d.st)
  c : w.cell? ⟨b, o + 1, none⟩ = some (.int .i64 d.cm)
  a : w.cell? ⟨b, o + 2, none⟩ = some (.int .i64 d.act)
  m : ∃ bm n, w.cell? ⟨b, o + 3, none⟩ = some (.map (some bm)) ∧ MapAt w bm n d.ws
abbrev DealsAt (w : World) (A : Option Addr) (ds : List DealM) : Prop := SeqAt (· < w.heap.size) 4 1000 (DealAt w) A ds
theorem DealAt.upto {w w' : World} {b o : Nat} {d : DealM} (h : DealAt w b o d) (hb : Below w.heap.size w w') (hlt : b < w.heap.size) : DealAt w' b o d := by
  obtain ⟨bm, n, h1, h2⟩ := h.m
  have e : ∀ k, w'.cell? ⟨b, k, none⟩ = w.cell? ⟨b, k, none⟩ := fun k => hb.cell (p := ⟨b, k, none⟩) hlt
  exact ⟨(e _).trans h.s, (e _).trans h.c, (e _).trans h.a, ⟨bm, n, (e _).trans h1, h2.upto hb⟩⟩
theorem SeqAt.deals {w w' : World} {A : Option Addr} {ds : List DealM} (h : DealsAt w A ds) (hb : Below w.heap.size w w') : DealsAt w' A ds :=
  SeqAt.mono h (fun _ hp => Nat.lt_of_lt_of_le hp hb.size) fun _ _ _ _ hp hx => hx.upto hb hp
/-- The best deal so far, in its box. -/
structure BestBox (w : World) (g : Nat) (d : DealM) : Prop where
  s : w.cell? ⟨g, 0, none⟩ = some (.int .i64 d.st)
  c : w.cell? ⟨g, 1, none⟩ = some (.int .i64 d.cm)
  a : w.cell? ⟨g, 2, none⟩ = some (.int .i64 d.act)
  m : (w.cell? ⟨g, 3, none⟩ = some (.map none) ∧ d.ws = []) ∨ ∃ bm n, w.cell? ⟨g, 3, none⟩ = some (.map (some bm)) ∧ MapAt w bm n d.ws
  f : ∀ o, w.frozen? ⟨g, o, none⟩ = false
theorem BestBox.upto {w w' : World} {g : Nat} {d : DealM} (h : BestBox w g d) (hb : Below w.heap.size w w') : BestBox w' g d := by
  have hlt : g < w.heap.size := World.block_lt_of_cell? w _ h.s
  have e : ∀ k, w'.cell? ⟨g, k, none⟩ = w.cell? ⟨g, k, none⟩ := fun k => hb.cell (p := ⟨g, k, none⟩) hlt
  refine ⟨(e _).trans h.s, (e _).trans h.c, (e _).trans h.a, ?_, fun o => (hb.frozen (p := ⟨g, o, none⟩) hlt).trans (h.f o)⟩
  rcases h.m with ⟨h1, h2⟩ | ⟨bm, n, h1, h2⟩
  · exact .inl ⟨(e _).trans h1, h2⟩
  · exact .inr ⟨bm, n, (e _).trans h1, h2.upto hb⟩
theorem best_take {ds : List DealM} {k : Nat} (hk : k < ds.length) (key : ByteArray) (at_ : Int) (act : Nat) : bestD key at_ act (ds.take (k + 1)) = bestF key at_ act (bestD key at_ act (ds.take k)) (ds.getD k default) := by
  have e : ds.take (k + 1) = ds.take k ++ [ds.getD k default] := by
    rw [List.take_succ_eq_append_getElem hk]
    simp [List.getD, hk]
  rw [e, bestD_snoc]
theorem below_set4' {w W : World} {B : Nat} (h : Below B w W) {g : Nat} (hg : B ≤ g) (v0 v1 v2 v3 : Value) : Below B w ((((W.setCell ⟨g, 0, none⟩ v0).setCell ⟨g, 1, none⟩ v1).setCell ⟨g, 2, none⟩ v2).setCell ⟨g, 3, none⟩ v3) := (((h.setCell hg _).setCell hg _).setCell hg _).setCell hg _
/-- The best one is another. -/
theorem best_set {wr : World} {g bm nm : Nat} {d B : DealM} (h : BestBox wr g B) (hm : MapAt wr bm nm d.ws) :
    BestBox ((((wr.setCell ⟨g, 0, none⟩ (.int .i64 d.st)).setCell ⟨g, 1, none⟩ (.int .i64 d.cm)).setCell ⟨g, 2, none⟩ (.int .i64 d.act)).setCell ⟨g, 3, none⟩ (.map (some bm))) g d := by
  obtain ⟨v3, x3⟩ : ∃ v3, wr.cell? ⟨g, 3, none⟩ = some v3 := by
    rcases h.m with ⟨h, _⟩ | ⟨_, _, h, _⟩
    · exact ⟨_, h⟩
    · exact ⟨_, h⟩
  have ne : ∀ a b, a ≠ b → (⟨g, a, none⟩ : Addr) ≠ ⟨g, b, none⟩ := fun a b hab e => hab (by injection e)
  obtain ⟨es, clock, hobj⟩ := hm.obj
  have hbg : bm ≠ g := by
    intro e
    subst e
    have := h.s
    simp [World.cell?, hobj] at this
  have hheap : ((((wr.setCell ⟨g, 0, none⟩ (.int .i64 d.st)).setCell ⟨g, 1, none⟩ (.int .i64 d.cm)).setCell ⟨g, 2, none⟩ (.int .i64 d.act)).setCell ⟨g, 3, none⟩ (.map (some bm))).heap[bm]? = wr.heap[bm]? := by
    rw [Below.heap_setCell _ _ _ _ hbg, Below.heap_setCell _ _ _ _ hbg, Below.heap_setCell _ _ _ _ hbg, Below.heap_setCell _ _ _ _ hbg]
  refine ⟨?_, ?_, ?_, .inr ⟨bm, nm, ?_, hm.blk hheap⟩, fun o => ?_⟩
  · rw [World.cell?_setCell_other _ _ _ _ (ne 3 0 (by omega)), World.cell?_setCell_other _ _ _ _ (ne 2 0 (by omega)), World.cell?_setCell_other _ _ _ _ (ne 1 0 (by omega)), World.cell?_setCell_same _ _ _ h.s]
  · rw [World.cell?_setCell_other _ _ _ _ (ne 3 1 (by omega)), World.cell?_setCell_other _ _ _ _ (ne 2 1 (by omega)), World.cell?_setCell_same _ _ _ (by rw [World.cell?_setCell_other _ _ _ _ (ne 0 1 (by omega))]; exact h.c)]
  · rw [World.cell?_setCell_other _ _ _ _ (ne 3 2 (by omega)), World.cell?_setCell_same _ _ _ (by rw [World.cell?_setCell_other _ _ _ _ (ne 1 2 (by omega)), World.cell?_setCell_other _ _ _ _ (ne 0 2 (by omega))]; exact h.a)]
  · rw [World.cell?_setCell_same _ _ _ (by rw [World.cell?_setCell_other _ _ _ _ (ne 2 3 (by omega)), World.cell?_setCell_other _ _ _ _ (ne 1 3 (by omega)), World.cell?_setCell_other _ _ _ _ (ne 0 3 (by omega))]; exact x3)]
  · simp only [World.frozen?_setCell]; exact h.f o
end Go.Proofs.YtambkjnhfejfaacGreatDoor

namespace Go.Proofs.YtambkjnhfejfaacGreatDoor
open Go.RowKit Go.Maps

abbrev dealV (d : DealM) (bm : Nat) : Value := .agg #[.int .i64 d.st, .int .i64 d.cm, .int .i64 d.act, .map (some bm)]
set_option maxRecDepth 100000 in
set_option maxHeartbeats 2000000 in
theorem indexDeal_any (F : FuncId) (pr pz : Addr) (p : DealM → Bool) (l : List DealM) (A : Option Addr) (n c : Nat) (w : World) (hE : ∀ args w, (callFunc F args).run Tryz.prog w = .ok (.enter F args) w) (hn : n = l.length) (hl : DealsAt w A l)
    (hF : ∀ d ∈ l, ∀ bm q W, Below w.heap.size w W → MapAt W bm q d.ws → Calls Tryz.prog F #[dealV d bm, .pointer (some pr), .pointer (some pz)] W fun e w' => e = .returned (.bool (p d)) ∧ Below W.heap.size W w') :
    Calls Tryz.prog 14 #[.slice A n c, .func (.func F) #[] #[.pointer (some pr), .pointer (some pz)]] w fun e w' => ∃ i : Int, e = .returned (.int .i64 i) ∧ decide (0 ≤ i) = l.any p ∧ Below w.heap.size w w' := by
  subst hn
  have hlen := hl.1
  have HF := Lib.hid hF
  have HL := Lib.hid hl
  clear hF hl
  go_enter Tryz.func14, Tryz.ntmps14
  go_wp2
  go_loopw [8] (fun i wr => ∃ (k : Nat), k ≤ l.length ∧ i = .int .i64 k ∧ (l.take k).any p = false ∧ Below w.heap.size w wr) (fun i _ => l.length - (intOf i).toNat)
  case atStart => exact ⟨0, Nat.zero_le _, rfl, rfl, Below.refl _ _⟩
  case round =>
    obtain ⟨k, hk, rfl, hx, hb⟩ := hrel
    have HX := Lib.hid hx
    have HB := Lib.hid hb
    clear hx
    by_cases hm : k < l.length
    · obtain ⟨b, o, rfl, hbb, hr⟩ := SeqAt.at_ (SeqAt.deals HL.out hb) (getD_some (d := default) hm)
      obtain ⟨r, hr0⟩ : ∃ r, r = l.getD k default := ⟨_, rfl⟩
      rw [← hr0] at hr
      obtain ⟨bm, q, c3, hmap⟩ := hr.m
      have HF1 := Lib.hid (HF.out r (hr0 ▸ getD_mem hm) bm q wr hb hmap)
      have c0 := hr.s
      have c1 := hr.c
      have c2 := hr.a
      have HR := Lib.hid hr0
      have j0 : (0 : Int) ≤ (k : Int) := by omega
      have j1 : (k : Int) < (l.length : Int) := by omega
      clear hr0 hb hmap hr
      by_cases hp : p r = true
      · have HA := Lib.hid (show l.any p = true from List.any_eq_true.2 ⟨r, HR.out ▸ getD_mem hm, hp⟩)
        go_wp2_with (go_at_fn F; refine HF1.out.mono ?_; rintro e w' ⟨rfl, hb'⟩)
        go_ret
        exact ⟨_, rfl, by rw [HA.out]; exact decide_eq_true j0, HB.out.trans (hb'.mono HB.out.size)⟩
      · have hp' : p r = false := by simpa using hp
        have HS := Lib.hid (show (l.take (k + 1)).any p = false by
          rw [List.take_succ_eq_append_getElem hm, List.any_append, HX.out, Bool.false_or]
          simp only [List.any_cons, List.any_nil, Bool.or_false]
          have := HR.out
          rw [show l.getD k default = l[k] by simp [List.getD, hm]] at this
          rw [← this]; exact hp')
        clear hp
        go_wp2_with (go_at_fn F; refine HF1.out.mono ?_; rintro e w' ⟨rfl, hb'⟩)
        go_roundw
        case rel => exact ⟨k + 1, by omega, by go_num, HS.out, HB.out.trans (hb'.mono HB.out.size)⟩
        case measure => simp [intOf]; omega
    · have hke : k = l.length := by omega
      have HA := Lib.hid (show l.any p = false by have := HX.out; rwa [hke, List.take_length] at this)
      subst hke
      clear hb
      go_wp2
      go_ret
      exact ⟨_, rfl, by rw [HA.out]; rfl, HB.out⟩
set_option maxRecDepth 100000 in
set_option maxHeartbeats 2000000 in
theorem containsDeal_any (F : FuncId) (pr pz : Addr) (p : DealM → Bool) (l : List DealM) (A : Option Addr) (n c : Nat) (w : World) (hE : ∀ args w, (callFunc F args).run Tryz.prog w = .ok (.enter F args) w) (hn : n = l.length) (hl : DealsAt w A l)
    (hF : ∀ d ∈ l, ∀ bm q W, Below w.heap.size w W → MapAt W bm q d.ws → Calls Tryz.prog F #[dealV d bm, .pointer (some pr), .pointer (some pz)] W fun e w' => e = .returned (.bool (p d)) ∧ Below W.heap.size W w') :
    Calls Tryz.prog 9 #[.slice A n c, .func (.func F) #[] #[.pointer (some pr), .pointer (some pz)]] w fun e w' => e = .returned (.bool (l.any p)) ∧ Below w.heap.size w w' := by
  have HI := Lib.hid (indexDeal_any F pr pz p l A n c w hE hn hl hF)
  clear hn hl hF
  go_enter Tryz.func9, Tryz.ntmps9
  go_wp2_with fail
  refine HI.out.mono ?_
  rintro e w1 ⟨i, rfl, hi, hb1⟩
  have HA := Lib.hid hi
  clear hi
  go_wp2
  go_ret
  exact ⟨ret_bool HA.out, hb1⟩
/-- A deal that tells a record of a row. -/
def askP (key : ByteArray) (z : RecM) (d : DealM) : Bool := decide (d.st = z.s) && (decide (d.cm = z.c) && ((lookW d.ws key).isSome && decide ((lookW d.ws key).getD emptyS = z.v)))
set_option maxRecDepth 100000 in
set_option maxHeartbeats 2000000 in
theorem askFn_any (d : DealM) (bm q rb ro zb zo : Nat) (key : ByteArray) (z : RecM) (w : World) (hks : key.size ≤ maxLen) (hmap : MapAt w bm q d.ws) (hp : w.cell? ⟨rb, ro, none⟩ = some (.string key)) (h0 : w.cell? ⟨zb, zo, none⟩ = some (.int .i64 z.s)) (h1 : w.cell? ⟨zb, zo + 1, none⟩ = some (.int .i64 z.c)) (h2 : w.cell? ⟨zb, zo + 2, none⟩ = some (.string z.v)) :
    Calls Tryz.prog 10 #[dealV d bm, .pointer (some ⟨rb, ro, none⟩), .pointer (some ⟨zb, zo, none⟩)] w fun e w' => e = .returned (.bool (askP key z d)) ∧ Below w.heap.size w w' := by
  have hlt : rb < w.heap.size := World.block_lt_of_cell? w _ hp
  have hlt2 : zb < w.heap.size := World.block_lt_of_cell? w _ h0
  have hlk := (hmap.upto (below_alloc (Below.refl _ _) (.cells #[.int .i64 d.st, .int .i64 d.cm, .int .i64 d.act, .map (some bm)] 51))).look_ok hks
  obtain ⟨th, hth⟩ : ∃ th, th = (lookW d.ws key).isSome := ⟨_, rfl⟩
  obtain ⟨uv, huv⟩ : ∃ uv, uv = (lookW d.ws key).getD emptyS := ⟨_, rfl⟩
  have HP := Lib.hid (show askP key z d = (decide (d.st = z.s) && (decide (d.cm = z.c) && (th && decide (uv = z.v)))) by rw [askP, ← hth, ← huv])
  rw [← hth, ← huv] at hlk
  obtain ⟨zs, zc, zv⟩ := z
  dsimp only at h0 h1 h2 HP
  clear hmap hth huv hks
  go_enter Tryz.func10, Tryz.ntmps10
  by_cases t1 : d.st = zs
  · have e1 : (d.st == zs) = true := by simpa using t1
    have T1 := Lib.hid t1
    clear t1
    by_cases t2 : d.cm = zc
    · have e2 : (d.cm == zc) = true := by simpa using t2
      have T2 := Lib.hid t2
      clear t2
      cases th with
      | true =>
        by_cases t3 : uv = zv
        · have e3 : (uv.toList == zv.toList) = true := by rw [t3]; simp
          have T3 := Lib.hid t3
          clear t3
          go_wp2
          try go_quiet (fail)
          try go_wp2
          go_ret
          exact ⟨ret_bool (by rw [HP.out]; simp [T1.out, T2.out, T3.out]), by repeat (first | with_reducible exact Below.refl _ _ | assumption | with_reducible apply below_alloc | with_reducible apply below_drew | with_reducible apply below_drewN | (with_reducible apply below_next; rotate_left; assumption))⟩
        · have e3 : (uv.toList == zv.toList) = false := by rw [beq_eq_false_iff_ne]; intro e; exact t3 (ba_ext e)
          go_wp2
          try go_quiet (fail)
          try go_wp2
          go_ret
          exact ⟨ret_bool (by rw [HP.out]; simp [t3]), by repeat (first | with_reducible exact Below.refl _ _ | assumption | with_reducible apply below_alloc | with_reducible apply below_drew | with_reducible apply below_drewN | (with_reducible apply below_next; rotate_left; assumption))⟩
      | false =>
        go_wp2
        try go_quiet (fail)
        try go_wp2
        go_ret
        exact ⟨ret_bool (by rw [HP.out]; simp), by repeat (first | with_reducible exact Below.refl _ _ | assumption | with_reducible apply below_alloc | with_reducible apply below_drew | with_reducible apply below_drewN | (with_reducible apply below_next; rotate_left; assumption))⟩
    · have e2 : (d.cm == zc) = false := by simpa using t2
      go_wp2
      try go_quiet (fail)
      try go_wp2
      go_ret
      exact ⟨ret_bool (by rw [HP.out]; simp [t2]), by repeat (first | with_reducible exact Below.refl _ _ | assumption | with_reducible apply below_alloc | with_reducible apply below_drew | with_reducible apply below_drewN | (with_reducible apply below_next; rotate_left; assumption))⟩
  · have e1 : (d.st == zs) = false := by simpa using t1
    go_wp2
    try go_quiet (fail)
    try go_wp2
    go_ret
    exact ⟨ret_bool (by rw [HP.out]; simp [t1]), by repeat (first | with_reducible exact Below.refl _ _ | assumption | with_reducible apply below_alloc | with_reducible apply below_drew | with_reducible apply below_drewN | (with_reducible apply below_next; rotate_left; assumption))⟩
theorem askContains_any (key : ByteArray) (z : RecM) (l : List DealM) (A : Option Addr) (n c rb ro zb zo : Nat) (w : World) (hn : n = l.length) (hl : DealsAt w A l) (hks : key.size ≤ maxLen) (hp : w.cell? ⟨rb, ro, none⟩ = some (.string key)) (h0 : w.cell? ⟨zb, zo, none⟩ = some (.int .i64 z.s)) (h1 : w.cell? ⟨zb, zo + 1, none⟩ = some (.int .i64 z.c)) (h2 : w.cell? ⟨zb, zo + 2, none⟩ = some (.string z.v)) :
    Calls Tryz.prog 9 #[.slice A n c, .func (.func 10) #[] #[.pointer (some ⟨rb, ro, none⟩), .pointer (some ⟨zb, zo, none⟩)]] w fun e w' => e = .returned (.bool (l.any (askP key z))) ∧ Below w.heap.size w w' :=
  containsDeal_any _ _ _ (askP key z) l A n c w (enters_of Tryz.func10 (by kernel_rfl) rfl) hn hl fun d _ bm q W hb hm => askFn_any d bm q rb ro zb zo key z W hks hm ((hb.cell (p := ⟨rb, ro, none⟩) (World.block_lt_of_cell? w _ hp)).trans hp) ((hb.cell (p := ⟨zb, zo, none⟩) (World.block_lt_of_cell? w _ h0)).trans h0) ((hb.cell (p := ⟨zb, zo + 1, none⟩) (World.block_lt_of_cell? w _ h1)).trans h1) ((hb.cell (p := ⟨zb, zo + 2, none⟩) (World.block_lt_of_cell? w _ h2)).trans h2)
end Go.Proofs.YtambkjnhfejfaacGreatDoor

namespace Go.Proofs.YtambkjnhfejfaacGreatDoor
open Go.RowKit

/-- All keys are among these. -/
structure KeysIn (S : List ByteArray) (wo : WoM) : Prop where
  rows : ∀ r ∈ wo.rows, r.key ∈ S
  ws : ∀ c ∈ wo.cls, ∀ y ∈ c.ws, y.k ∈ S
section
variable {S : List ByteArray} {wo : WoM} {C : Nat} {c : ClM} {rows : List RowM}
theorem key_lock {st : Int} {pk pv : ByteArray} (r : RowM) (h : r.key ∈ S) (e : (lockOp st pk pv r).2 = 0) : (lockOp st pk pv r).1.key ∈ S := by rw [(lock_fst e).2]; exact h
theorem key_commit {st cm : Int} (r : RowM) (h : r.key ∈ S) (e : (commitOp st cm r).2 = 0) : (commitOp st cm r).1.key ∈ S := by rw [(commit_fst e).2]; exact h
theorem key_undo {st : Int} (r : RowM) (h : r.key ∈ S) (e : (undoOp st r).2 = 0) : (undoOp st r).1.key ∈ S := by
  rw [(undo_fst e).2]
  unfold undoneR
  split
  · exact h
  · split <;> exact h
theorem key_fail {st : Int} : ∀ {l : List WrM} {rows : List RowM}, (∀ r ∈ rows, r.key ∈ S) → (∀ y ∈ l, y.k ∈ S) → ∀ r ∈ failRows st l rows, r.key ∈ S
  | [], _, h, _ => h
  | x :: l, rows, h, hl => by
    show ∀ r ∈ failRows st l (if (statIn rows x.k st).1 = 1 then (chgRow rows x.k (undoOp st)).1 else rows), r.key ∈ S
    refine key_fail ?_ (fun y hy => hl y (List.mem_cons_of_mem _ hy))
    split
    · exact chg_all h (hl x List.mem_cons_self) key_undo
    · exact h
theorem KeysIn.set (h : KeysIn S wo) {rows : List RowM} {clock : Int} {c : ClM} (hr : ∀ r ∈ rows, r.key ∈ S) (hc : ∀ y ∈ c.ws, y.k ∈ S) : KeysIn S ⟨rows, clock, wo.cls.set C c⟩ :=
  ⟨hr, fun d hd => by
    rcases List.mem_or_eq_of_mem_set hd with hd | rfl
    · exact h.ws d hd
    · exact hc⟩
theorem KeysIn.lock (h : KeysIn S wo) (hc : ∀ y ∈ c.ws, y.k ∈ S) (hat : c.at_.toNat < c.ws.length) : KeysIn S (lockW wo C c).1 := by
  unfold lockW
  dsimp only
  split
  · exact h.set (chg_all h.rows (hc _ (getD_mem hat)) key_lock) hc
  · split
    · exact h.set h.rows hc
    · exact h.set (key_fail h.rows hc) (fun _ hy => by cases hy)
theorem KeysIn.commit (h : KeysIn S wo) (hc : ∀ y ∈ c.ws, y.k ∈ S) (hat : c.at_.toNat < c.ws.length) : KeysIn S (commitW wo C c).1 := by
  have hr := chg_all (op := commitOp c.st c.cm) (key := (c.ws.getD c.at_.toNat default).k) h.rows (hc _ (getD_mem hat)) key_commit
  unfold commitW
  dsimp only
  split
  · exact h.set (key_fail h.rows hc) (fun _ hy => by cases hy)
  · split
    · exact h.set hr (fun _ hy => by cases hy)
    · exact h.set hr hc
theorem KeysIn.do {prim : Int → ByteArray} {ds : List DealM} {a : ActM} (h : KeysIn S wo) (hw : WInv prim ds wo) (hg : Good wo) (hC : a.c.toNat < wo.cls.length) (hk : a.kind = 3 ∨ a.kind = 6 → a.key ∈ S) : KeysIn S (doW wo a).1 := by
  show KeysIn S (performW wo a).1
  have hm : wo.cls.getD a.c.toNat default ∈ wo.cls := getD_mem hC
  obtain ⟨c, hcd⟩ : ∃ c, c = wo.cls.getD a.c.toNat default := ⟨_, rfl⟩
  have hcw : ∀ y ∈ c.ws, y.k ∈ S := by rw [hcd]; exact h.ws _ hm
  have hok : ClGood wo.clock c := by rw [hcd]; exact clB_iff.1 (hg.cls _ hm)
  have hph := hok.ph
  unfold performW
  dsimp only
  rw [← hcd]
  split
  · unfold beginW
    split
    · exact h.set h.rows (fun _ hy => by cases hy)
    · exact h
  · split
    · exact h
    · split
      · rename_i h3
        refine h.set h.rows fun y hy => ?_
        unfold putC at hy
        split at hy
        · exact hcw y hy
        · split at hy
          · exact hcw y hy
          · split at hy
            · rename_i hh
              have hlt : lowIx (wrKeys c.ws) a.key < c.ws.length := by simp only [hasK, Bool.and_eq_true, decide_eq_true_eq, List.length_map] at hh; exact hh.1
              rcases List.mem_or_eq_of_mem_set hy with hy | rfl
              · exact hcw y hy
              · exact hcw (wrAt c.ws a.key) (getD_mem hlt)
            · split at hy
              · exact hcw y hy
              · rcases List.mem_append.1 hy with hy | hy
                · exact hcw y (List.mem_of_mem_take hy)
                · rcases List.mem_cons.1 hy with rfl | hy
                  · exact hk (.inl h3)
                  · exact hcw y (List.mem_of_mem_drop hy)
      · split
        · unfold stepW
          split
          · split
            · exact h.set h.rows (fun _ hy => by cases hy)
            · exact h.lock (c := { c with ph := 2 }) hcw (by show c.at_.toNat < c.ws.length; omega)
          · split
            · split
              · exact h.set h.rows hcw
              · exact h.lock hcw (by omega)
            · split
              · exact h.commit hcw (by omega)
              · exact h
        · split
          · unfold dropW
            split
            · exact h
            · exact h.set h.rows (fun _ hy => by cases hy)
          · rename_i h1 h2 h3 h4 h5
            have hkey : a.key ∈ S ∨ a.kind ≠ 6 := by
              by_cases h6 : a.kind = 6
              · exact .inl (hk (.inr h6))
              · exact .inr h6
            unfold resolveW
            dsimp only
            split
            · exact h
            · split
              · exact h
              rename_i hh
              have hh' : hasK (rowKeys wo.rows) a.key = true := by simpa using hh
              have hkS : a.key ∈ S := by
                have := h.rows _ (rowAt_mem hh')
                rwa [rowAt_key hh'] at this
              split
              · exact h
              rename_i hls
              split
              · exact ⟨chg_all h.rows hkS key_commit, h.ws⟩
              · have hlook : look wo.rows a.key = rowAt wo.rows a.key := by rw [look, if_pos hh']
                obtain ⟨e1, e2⟩ := hw.rows.lk a.key (by rw [hlook]; exact hls)
                rw [hlook] at e1 e2
                have hpk : hasK (rowKeys wo.rows) (rowAt wo.rows a.key).lp = true := by rw [e1]; exact look_has e2 hls
                have hlS : (rowAt wo.rows a.key).lp ∈ S := by
                  have := h.rows _ (rowAt_mem hpk)
                  rwa [rowAt_key hpk] at this
                split
                · exact h
                · exact ⟨chg_all (chg_all h.rows hlS key_undo) hkS key_undo, h.ws⟩
end
/-- The keys of the acts of raw numbers. -/
theorem actOf_key (i : Nat) (r : RawM) : (actOf 4 i r).kind = 3 ∨ (actOf 4 i r).kind = 6 → (actOf 4 i r).key ∈ keys4 := by
  unfold actOf actB
  repeat' split
  all_goals intro h
  all_goals first | exact keyOf_mem r.a | (exfalso; rcases h with h | h <;> exact absurd h (fun h' => by cases h'))
theorem actsM_key (l : List RawM) (k : Nat) : ∀ a ∈ actsM 4 l k, a.kind = 3 ∨ a.kind = 6 → a.key ∈ keys4 := by
  intro a ha
  obtain ⟨i, _, rfl⟩ := List.mem_map.1 ha
  exact actOf_key i _
/-- All that is kept, one act more. -/
structure Kept (wo : WoM) (i : Nat) (ds : List DealM) : Prop where
  whole : ∃ prim g, Whole prim i g wo ∧ g.ds = ds
  keys : KeysIn keys4 wo
  clock : wo.clock ≤ i
  four : wo.cls.length = 4
theorem Kept.fits {wo : WoM} {i : Nat} {ds : List DealM} (h : Kept wo i ds) (hi : i ≤ 400) {a : ActM} (hf : ActFit a) : actE wo a = 0 := by
  obtain ⟨prim, g, hw, _⟩ := h.whole
  have := h.clock
  unfold actE
  rw [if_neg (by rw [good_iff.2 hw.good]; decide), if_neg (by have := hf.k1; have := hf.k6; omega), if_neg (by rw [h.four]; have := hf.c0; have := hf.c4; omega), if_neg (by omega)]
/-- An act that is no step leaves the deals. -/
theorem Kept.do {wo : WoM} {i : Nat} {ds : List DealM} (h : Kept wo i ds) (hi : i ≤ 400) {a : ActM} (hf : ActFit a) (hk : a.kind = 3 ∨ a.kind = 6 → a.key ∈ keys4) (h4 : a.kind ≠ 4) : Kept (doW wo a).1 (i + 1) ds ∧ runA wo a = doW wo a := by
  have he := h.fits hi hf
  obtain ⟨prim, g, hw, hds⟩ := h.whole
  obtain ⟨prim', hw'⟩ := hw.do he
  have hC : a.c.toNat < wo.cls.length := by rw [h.four]; have := hf.c0; have := hf.c4; omega
  refine ⟨⟨⟨prim', _, hw', ?_⟩, h.keys.do hw.inv hw.good hC hk, ?_, ?_⟩, by unfold runA; rw [if_pos he]⟩
  · simp only [ghostOf]
    rw [if_neg (fun hh => h4 hh.2.1), hds]
  · have := do_clock wo a
    have := h.clock
    omega
  · rw [show (doW wo a).1.cls.length = wo.cls.length from perform_len _ _]; exact h.four
theorem kept_at {l : List ActM} (hl : l.length ≤ 400) (hf : ∀ a ∈ l, ActFit a) (hk : ∀ a ∈ l, a.kind = 3 ∨ a.kind = 6 → a.key ∈ keys4) : ∀ k, k ≤ l.length → Kept (woAt l k) k (ghostL l (runAns (startW 4) l) k).ds
  | 0, h => by
    obtain ⟨⟨prim, hw⟩, hc, h4⟩ := whole_at hl hf 0 h
    refine ⟨⟨prim, _, hw, rfl⟩, ⟨fun r hr => (by cases hr), fun c hc y hy => ?_⟩, hc, h4⟩
    have : c = idleC := by simpa [startW, woAt, runWo] using (List.mem_replicate.1 hc).2
    rw [this] at hy; cases hy
  | k + 1, h => by
    have ih := kept_at hl hf hk k (by omega)
    obtain ⟨⟨prim, hw⟩, hc, h4⟩ := whole_at hl hf (k + 1) h
    obtain ⟨⟨prim0, hw0⟩, hc0, h40⟩ := whole_at hl hf k (by omega)
    have hm : l.getD k default ∈ l := getD_mem (by omega)
    have hfit := hf _ hm
    have he := ih.fits (by omega) hfit
    have e1 : woAt l (k + 1) = (doW (woAt l k) (l.getD k default)).1 := by
      rw [woAt, runWo_at l _ k (by omega), runA, if_pos he]
    refine ⟨⟨prim, _, hw, rfl⟩, ?_, hc, h4⟩
    rw [e1]
    exact ih.keys.do hw0.inv hw0.good (by rw [h40]; have := hfit.c0; have := hfit.c4; omega) (hk _ hm)
theorem fold_congr {key : ByteArray} {a a' : Int} {m m' : Nat} : ∀ (ds : List DealM) (b : DealM), (∀ d ∈ ds, tellsOf key a m d = tellsOf key a' m' d) → ds.foldl (bestF key a m) b = ds.foldl (bestF key a' m') b
  | [], _, _ => rfl
  | d :: ds, b, h => by
    rw [List.foldl_cons, List.foldl_cons, show bestF key a m b d = bestF key a' m' b d by unfold bestF; rw [h d List.mem_cons_self]]
    exact fold_congr ds _ fun e he => h e (List.mem_cons_of_mem _ he)
/-- The deals that are there tell the same at every later act and time. -/
theorem best_same {key : ByteArray} {a a' : Int} {m m' : Nat} {ds : List DealM} (h1 : ∀ d ∈ ds, d.act < m ∧ d.act < m') (h2 : ∀ d ∈ ds, d.cm ≤ a ∧ d.cm ≤ a') : bestD key a m ds = bestD key a' m' ds := by
  refine fold_congr ds default fun d hd => ?_
  obtain ⟨p1, p2⟩ := h1 d hd
  obtain ⟨p3, p4⟩ := h2 d hd
  simp [tellsOf, p1, p2, p3, p4]

/-- TopAsking, in these words. -/
theorem asking {l : List ActM} (hl : l.length ≤ 80) (hf : ∀ a ∈ l, ActFit a) (hk : ∀ a ∈ l, a.kind = 3 ∨ a.kind = 6 → a.key ∈ keys4) {key : ByteArray} (hkey : key ∈ keys4) (hkb : keyB key = true) :
    (∀ r ∈ (runWo (startW 4) (l ++ [⟨6, 0, key, emptyS⟩, ⟨6, 0, key, emptyS⟩])).rows, ∀ z ∈ r.recs, z.c ≠ 0 → ∃ d ∈ (ghostL l (runAns (startW 4) l) l.length).ds, d.st = z.s ∧ d.cm = z.c ∧ lookW d.ws r.key = some z.v) ∧
      ((runAns (startW 4) (l ++ [⟨6, 0, key, emptyS⟩, ⟨6, 0, key, emptyS⟩])).getD (l.length + 1) default).code = 5 := by
  obtain ⟨a, had⟩ : ∃ a, a = (⟨6, 0, key, emptyS⟩ : ActM) := ⟨_, rfl⟩
  have hfa : ActFit a := by rw [had]; exact ⟨of_decide_eq_true rfl, of_decide_eq_true rfl, of_decide_eq_true rfl, of_decide_eq_true rfl⟩
  have hka : a.kind = 3 ∨ a.kind = 6 → a.key ∈ keys4 := fun _ => by rw [had]; exact hkey
  have h4 : a.kind ≠ 4 := by rw [had]; show (6 : Int) ≠ 4; decide
  have h0 := kept_at (by omega) hf hk l.length (Nat.le_refl _)
  have e0 : woAt l l.length = runWo (startW 4) l := by rw [woAt, List.take_length]
  rw [e0] at h0
  obtain ⟨wo, hwo⟩ : ∃ wo, wo = runWo (startW 4) l := ⟨_, rfl⟩
  rw [← hwo] at h0
  obtain ⟨h1, r1⟩ := h0.do (by omega) hfa hka h4
  obtain ⟨h2, r2⟩ := h1.do (by omega) hfa hka h4
  have hrun : runWo (startW 4) (l ++ [a, a]) = (doW (doW wo a).1 a).1 := by
    rw [show l ++ [a, a] = (l ++ [a]) ++ [a] by simp, runWo_snoc, runWo_snoc, ← hwo, r1, r2]
  have hans : runAns (startW 4) (l ++ [a, a]) = runAns (startW 4) l ++ [(doW wo a).2, (doW (doW wo a).1 a).2] := by
    rw [show l ++ [a, a] = (l ++ [a]) ++ [a] by simp, runAns_snoc, runAns_snoc, runWo_snoc, ← hwo, r1, r2]
    simp
  rw [← had, hrun, hans]
  refine ⟨fun r hr z hz hc => ?_, ?_⟩
  · obtain ⟨prim, g, hw, hds⟩ := h2.whole
    have hlk := look_mem hw.good.rows hr
    rw [← hlk] at hz
    obtain ⟨d, hd, d1, d2, d3⟩ := hw.inv.rows.co r.key z hz hc
    rw [← hds]
    refine ⟨d, hd, d1, d2, ?_⟩
    obtain ⟨v, hv⟩ := Option.isSome_iff_exists.1 (lookW_some d3)
    have hv : lookW d.ws r.key = some v := hv
    rw [hv]
    rcases hw.inv.rows.dl d hd _ (lookW_mem hv) with h' | ⟨h', _⟩
    · have := rec_one (look_recs hw.good.rows r.key) h' hz d1
      rw [← this]
    · exfalso
      have h' : (look (doW (doW wo a).1 a).1.rows r.key).ls = d.st := h'
      have h1' := hw.inv.rows.d1 d hd
      exact ((look_locked hw.good.rows (k := r.key) (by rw [h']; omega)).2.2 z hz).1 (by rw [h', d1])
  · have hlen : (runAns (startW 4) l).length = l.length := runAns_length l _
    have e : (runAns (startW 4) l ++ [(doW wo a).2, (doW (doW wo a).1 a).2]).getD (l.length + 1) default = (doW (doW wo a).1 a).2 := by
      rw [List.getD, List.getElem?_append_right (by omega), hlen]
      simp
    rw [e]
    obtain ⟨prim, g, hw, _⟩ := h0.whole
    obtain ⟨prim1, g1, hw1, _⟩ := h1.whole
    have hres : ∀ w : WoM, (doW w a).1 = (resolveW w key).1 ∧ (doW w a).2.code = (resolveW w key).2 := by
      intro w
      unfold doW performW
      dsimp only
      rw [had]
      dsimp only
      rw [if_neg (by decide), if_neg (by decide), if_neg (by decide), if_neg (by decide), if_neg (by decide)]
      exact ⟨rfl, rfl⟩
    rw [(hres _).2]
    have hz := (hw.inv.resolve hw.good key).2.1 hkb
    rw [← (hres wo).1] at hz
    rw [(hw1.inv.resolve hw1.good key).2.2.2 hkb hz]
end Go.Proofs.YtambkjnhfejfaacGreatDoor

namespace Go.Proofs.YtambkjnhfejfaacGreatDoor
open Go.RowKit

theorem eql_in (d : Nat) (a : Option Addr) (n c : Nat) (w : World) : (Op.equalIn (d + 1) 23 (.slice a n c) (.slice none 0 0)).run Tryz.prog w = .ok a.isNone w := by
  unfold Op.equalIn
  cases a <;> simp [run_underlying Tryz.underlying23]
theorem eql_nil (a : Option Addr) (n c : Nat) (w : World) : (binOp .eql 23 (.slice a n c) (.slice none 0 0)).run Tryz.prog w = .ok (.bool a.isNone) w := by
  have h := eql_in 9999 a n c w
  simp only [binOp, Op.equal, Op.maxDepth]
  simp [h]
set_option maxRecDepth 100000 in
set_option maxHeartbeats 4000000 in
theorem clone_any (A : Option Addr) (q : Nat) (l : List ActM) (w : World) (hact : ActsAt w (· < w.heap.size) A l) (hl : l.length ≤ 900) :
    Calls Tryz.prog 6 #[.slice A l.length q] w (ActsOut l w) := by
  cases A with
  | none =>
    have h0 : l = [] := by
      rcases Nat.eq_zero_or_pos l.length with h0 | h0
      · exact List.eq_nil_of_length_eq_zero h0
      · obtain ⟨b, o, h, _⟩ := hact.2 h0; cases h
    subst h0
    have hnil : ∀ w, (binOp .eql 23 (.slice none 0 q) (.slice none 0 0)).run Tryz.prog w = .ok (.bool true) w := fun w => eql_nil none 0 q w
    clear hact hl
    go_enter Tryz.func6, Tryz.ntmps6
    go_wp2
    go_ret
    exact ⟨none, 0, rfl, Cells.Owns.nil _ _ _, Below.refl _ _⟩
  | some a =>
    obtain ⟨W1, hW1⟩ : ∃ W1, W1 = w.alloc (.cells #[] 35) := ⟨_, rfl⟩
    have hb1 : Below w.heap.size w W1 := by rw [hW1]; exact below_alloc (Below.refl _ _) _
    have hown : OwnsActs W1 w.heap.size (.slice (some ⟨w.heap.size, 0, none⟩) ([] : List ActM).length 0) [] := by
      rw [hW1]
      exact ⟨rfl, .inr ⟨w.heap.size, 0, #[], rfl, Nat.le_refl _, heap_alloc_new w _, Nat.zero_le _, Nat.zero_le _, by simp, by simp [Cells.all]⟩⟩
    have HAP := Lib.hid (show ∀ ty : TypeId, ∃ v' w', (Builtin.append_ #[23, 23] ty #[.slice (some ⟨w.heap.size, 0, none⟩) 0 0, .slice (some a) l.length q]).run Tryz.prog (w.alloc (.cells #[] 35)) = .ok v' w' ∧ ∃ A' c', v' = .slice A' l.length c' ∧ OwnsActs w' w.heap.size (.slice A' l.length c') l ∧ Below w.heap.size w w' from fun ty => by
      have h := app_part (ty := ty) W1 w w.heap.size 0 (some ⟨w.heap.size, 0, none⟩) [] ⟨some a, q, l⟩ hown (SeqAt.acts hact (below_mem hb1).1 (below_mem hb1).2) (by simp; omega) hb1.size hb1
      rw [hW1] at h
      exact h)
    have hnil : ∀ w, (binOp .eql 23 (.slice (some a) l.length q) (.slice none 0 0)).run Tryz.prog w = .ok (.bool false) w := fun w => eql_nil (some a) l.length q w
    clear hact hW1 hown hb1
    go_enter Tryz.func6, Tryz.ntmps6
    go_wp2_with (at_builtin; refine (wpList_append_run _ rfl (.tmp 5) (.tmp 6) 23 rfl (.slice (some ⟨w.heap.size, 0, none⟩) 0 0) (.slice (some a) l.length q) rfl rfl (HAP.out _) ?_); rintro v1 w2 ⟨A2, c2, rfl, hown2, hb2⟩; have HO2 := Lib.hid hown2; have HB2 := Lib.hid hb2; clear hown2 hb2)
    go_ret
    exact ⟨A2, c2, rfl, HO2.out, HB2.out⟩
end Go.Proofs.YtambkjnhfejfaacGreatDoor
