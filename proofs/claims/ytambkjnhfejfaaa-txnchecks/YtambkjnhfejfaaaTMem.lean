/-
  Words for memory: rows, writes, clients and a world that slices lead to; what keeps them. No program text. Conditions: none.
-/
import Derived.Test.YtambkjnhfejfaaaTPure
import Derived.Test.YtambkjnhfejfaaaCopyMem
namespace Go.Proofs.Ytambkjnhfejfaaa
open Go.RowKit

/-- A slice at A leads to the list l: elements of sz cells, in a block that P lets in. -/
def SeqAt {α : Type} (P : Nat → Prop) (sz mx : Nat) (E : Nat → Nat → α → Prop) (A : Option Addr) (l : List α) : Prop :=
  l.length ≤ mx ∧ (0 < l.length → ∃ b o, A = some ⟨b, o, none⟩ ∧ P b ∧ ∀ i x, l[i]? = some x → E b (o + i * sz) x)
section
variable {α : Type} {P P' : Nat → Prop} {sz mx : Nat} {E E' : Nat → Nat → α → Prop} {A : Option Addr} {l : List α}
theorem SeqAt.mono (h : SeqAt P sz mx E A l) (hP : ∀ b, P b → P' b) (hE : ∀ b o x, x ∈ l → P b → E b o x → E' b o x) : SeqAt P' sz mx E' A l :=
  ⟨h.1, fun h0 => by
    obtain ⟨b, o, hA, hb, hc⟩ := h.2 h0
    exact ⟨b, o, hA, hP b hb, fun i x hx => hE b _ x (List.mem_of_getElem? hx) hb (hc i x hx)⟩⟩
theorem SeqAt.at_ (h : SeqAt P sz mx E A l) {i : Nat} {x : α} (hx : l[i]? = some x) : ∃ b o, A = some ⟨b, o, none⟩ ∧ P b ∧ E b (o + i * sz) x := by
  have hl : i < l.length := (List.getElem?_eq_some_iff.1 hx).1
  obtain ⟨b, o, hA, hb, hc⟩ := h.2 (by omega)
  exact ⟨b, o, hA, hb, hc i x hx⟩
theorem SeqAt.nil_ (A : Option Addr) : SeqAt P sz mx E A ([] : List α) := ⟨Nat.zero_le _, fun h => absurd h (by simp)⟩
theorem SeqAt.block {g : Nat} (hl : l.length ≤ mx) (hg : P g) (h : ∀ i x, l[i]? = some x → E g (i * sz) x) : SeqAt P sz mx E (some ⟨g, 0, none⟩) l :=
  ⟨hl, fun _ => ⟨g, 0, rfl, hg, fun i x hx => by rw [Nat.zero_add]; exact h i x hx⟩⟩
theorem getD_some {α : Type} {d : α} {l : List α} {k : Nat} (h : k < l.length) : l[k]? = some (l.getD k d) := by simp [List.getD, h]
theorem getD_mem {α : Type} {d : α} {l : List α} {k : Nat} (h : k < l.length) : l.getD k d ∈ l := by simp [List.getD, h]
end

/-- Records in a block that P lets in. -/
def RecsIn (w : World) (P : Nat → Prop) (A : Option Addr) (l : List RecM) : Prop :=
  l.length ≤ 4398046511104 ∧ (∀ r ∈ l, RecOk r) ∧ (0 < l.length → ∃ b o, A = some ⟨b, o, none⟩ ∧ P b ∧ ∀ i r, l[i]? = some r → RecAt w b (o + i * 3) r)
theorem RecsIn.mono {w w' : World} {P P' : Nat → Prop} {A : Option Addr} {l : List RecM} (h : RecsIn w P A l) (hP : ∀ b, P b → P' b) (hk : ∀ b k, P b → w'.cell? ⟨b, k, none⟩ = w.cell? ⟨b, k, none⟩) : RecsIn w' P' A l :=
  ⟨h.1, h.2.1, fun h0 => by
    obtain ⟨b, o, hA, hb, hc⟩ := h.2.2 h0
    exact ⟨b, o, hA, hP b hb, fun i r hr => (hc i r hr).keep fun k => hk b k hb⟩⟩
theorem RecsIn.recs {w : World} {P : Nat → Prop} {B : Nat} {A : Option Addr} {l : List RecM} (h : RecsIn w P A l) (hP : ∀ b, P b → b < B) : RecsAt w B A l := h.mono hP (fun _ _ _ => rfl)
theorem RecsAt.in_ {w : World} {P : Nat → Prop} {B : Nat} {A : Option Addr} {l : List RecM} (h : RecsAt w B A l) (hP : ∀ ad, A = some ad → ad.block < B → P ad.block) : RecsIn w P A l :=
  ⟨h.1, h.2.1, fun h0 => by
    obtain ⟨b, o, hA, hb, hc⟩ := h.2.2 h0
    exact ⟨b, o, hA, hP _ hA hb, hc⟩⟩

/-- A row's numbers and strings are such as a machine holds. -/
structure RowOk (r : RowM) : Prop where
  k : r.key.size ≤ maxLen
  p : r.lp.size ≤ maxLen
  v : r.val.size ≤ maxLen
  s : i64 r.ls
/-- The five cells of a row at an address, and its records. -/
structure RowAt (w : World) (P : Nat → Prop) (b o : Nat) (r : RowM) : Prop where
  ck : w.cell? ⟨b, o, none⟩ = some (.string r.key)
  cs : w.cell? ⟨b, o + 1, none⟩ = some (.int .i64 r.ls)
  cp : w.cell? ⟨b, o + 2, none⟩ = some (.string r.lp)
  cv : w.cell? ⟨b, o + 3, none⟩ = some (.string r.val)
  cr : ∃ A c, w.cell? ⟨b, o + 4, none⟩ = some (.slice A r.recs.length c) ∧ r.recs.length ≤ c ∧ RecsIn w P A r.recs
  ok : RowOk r
theorem RowAt.mono {w w' : World} {P P' : Nat → Prop} {b o : Nat} {r : RowM} (h : RowAt w P b o r) (hP : ∀ b, P b → P' b) (hk : ∀ b k, P b → w'.cell? ⟨b, k, none⟩ = w.cell? ⟨b, k, none⟩) (hb : ∀ k, o ≤ k → k < o + 5 → w'.cell? ⟨b, k, none⟩ = w.cell? ⟨b, k, none⟩) : RowAt w' P' b o r := by
  obtain ⟨A, c, h4, hc, hr⟩ := h.cr
  exact ⟨(hb o (by omega) (by omega)).trans h.ck, (hb _ (by omega) (by omega)).trans h.cs, (hb _ (by omega) (by omega)).trans h.cp, (hb _ (by omega) (by omega)).trans h.cv, ⟨A, c, (hb _ (by omega) (by omega)).trans h4, hc, hr.mono hP hk⟩, h.ok⟩
/-- A row that lies in memory is a row that comes to a function. -/
theorem RowAt.rowIn {w : World} {P : Nat → Prop} {b o : Nat} {r : RowM} (h : RowAt w P b o r) (hP : ∀ b, P b → b < w.heap.size) : ∃ A c, w.cell? ⟨b, o + 4, none⟩ = some (.slice A r.recs.length c) ∧ r.recs.length ≤ c ∧ RowIn w r.key r.lp r.val A r.recs.length r.recs := by
  obtain ⟨A, c, h4, hc, hr⟩ := h.cr
  exact ⟨A, c, h4, hc, rfl, hr.recs hP, h.ok.k, h.ok.p, h.ok.v⟩

/-- The two cells of a write. -/
structure WrAt (w : World) (b o : Nat) (x : WrM) : Prop where
  k : w.cell? ⟨b, o, none⟩ = some (.string x.k)
  v : w.cell? ⟨b, o + 1, none⟩ = some (.string x.v)
  ok : x.k.size ≤ maxLen ∧ x.v.size ≤ maxLen
theorem WrAt.keep {w w' : World} {b o : Nat} {x : WrM} (h : WrAt w b o x) (hk : ∀ k, w'.cell? ⟨b, k, none⟩ = w.cell? ⟨b, k, none⟩) : WrAt w' b o x := ⟨(hk _).trans h.k, (hk _).trans h.v, h.ok⟩
/-- The writes of a client. -/
abbrev WrsAt (w : World) (P : Nat → Prop) (A : Option Addr) (l : List WrM) : Prop := SeqAt P 2 4398046511104 (WrAt w) A l
theorem SeqAt.wrs {w w' : World} {P P' : Nat → Prop} {A : Option Addr} {l : List WrM} (h : WrsAt w P A l) (hP : ∀ b, P b → P' b) (hk : ∀ b k, P b → w'.cell? ⟨b, k, none⟩ = w.cell? ⟨b, k, none⟩) : WrsAt w' P' A l :=
  SeqAt.mono h hP fun b _ _ _ hb hx => hx.keep fun k => hk b k hb

/-- A client's numbers. -/
structure ClOk (c : ClM) : Prop where
  p : i64 c.ph
  s : i64 c.st
  m : i64 c.cm
  a : i64 c.at_
/-- The five cells of a client, and its writes. -/
structure ClAt (w : World) (P : Nat → Prop) (b o : Nat) (c : ClM) : Prop where
  cp : w.cell? ⟨b, o, none⟩ = some (.int .i64 c.ph)
  cs : w.cell? ⟨b, o + 1, none⟩ = some (.int .i64 c.st)
  cm : w.cell? ⟨b, o + 2, none⟩ = some (.int .i64 c.cm)
  cw : ∃ A k, w.cell? ⟨b, o + 3, none⟩ = some (.slice A c.ws.length k) ∧ c.ws.length ≤ k ∧ WrsAt w P A c.ws
  ca : w.cell? ⟨b, o + 4, none⟩ = some (.int .i64 c.at_)
  ok : ClOk c
theorem ClAt.mono {w w' : World} {P P' : Nat → Prop} {b o : Nat} {c : ClM} (h : ClAt w P b o c) (hP : ∀ b, P b → P' b) (hk : ∀ b k, P b → w'.cell? ⟨b, k, none⟩ = w.cell? ⟨b, k, none⟩) (hb : ∀ k, o ≤ k → k < o + 5 → w'.cell? ⟨b, k, none⟩ = w.cell? ⟨b, k, none⟩) : ClAt w' P' b o c := by
  obtain ⟨A, q, h4, hc, hr⟩ := h.cw
  exact ⟨(hb o (by omega) (by omega)).trans h.cp, (hb _ (by omega) (by omega)).trans h.cs, (hb _ (by omega) (by omega)).trans h.cm, ⟨A, q, (hb _ (by omega) (by omega)).trans h4, hc, SeqAt.wrs hr hP hk⟩, (hb _ (by omega) (by omega)).trans h.ca, h.ok⟩

/-- The rows of a world. -/
abbrev RowsAt (w : World) (P : Nat → Prop) (A : Option Addr) (l : List RowM) : Prop := SeqAt P 5 1759218604441 (RowAt w P) A l
/-- The clients of a world. -/
abbrev ClsAt (w : World) (P : Nat → Prop) (A : Option Addr) (l : List ClM) : Prop := SeqAt P 5 2513169434917 (ClAt w P) A l
theorem SeqAt.rows {w w' : World} {P P' : Nat → Prop} {A : Option Addr} {l : List RowM} (h : RowsAt w P A l) (hP : ∀ b, P b → P' b) (hk : ∀ b k, P b → w'.cell? ⟨b, k, none⟩ = w.cell? ⟨b, k, none⟩) : RowsAt w' P' A l :=
  SeqAt.mono h hP fun b _ _ _ hb hx => hx.mono hP hk fun k _ _ => hk b k hb
theorem SeqAt.cls {w w' : World} {P P' : Nat → Prop} {A : Option Addr} {l : List ClM} (h : ClsAt w P A l) (hP : ∀ b, P b → P' b) (hk : ∀ b k, P b → w'.cell? ⟨b, k, none⟩ = w.cell? ⟨b, k, none⟩) : ClsAt w' P' A l :=
  SeqAt.mono h hP fun b _ _ _ hb hx => hx.mono hP hk fun k _ _ => hk b k hb

/-- A world's value. -/
abbrev woV (RA : Option Addr) (n rc : Nat) (k : Int) (CA : Option Addr) (m cc : Nat) : Value := .agg #[.slice RA n rc, .int .i64 k, .slice CA m cc]
/-- A world as it comes to a function. -/
structure WoIn (w : World) (RA : Option Addr) (n rc : Nat) (CA : Option Addr) (m cc : Nat) (wo : WoM) : Prop where
  hn : n = wo.rows.length
  hrc : n ≤ rc
  rows : RowsAt w (· < w.heap.size) RA wo.rows
  hm : m = wo.cls.length
  hcc : m ≤ cc
  cls : ClsAt w (· < w.heap.size) CA wo.cls
  ck : i64 wo.clock
theorem WoIn.upto {w W : World} {RA CA : Option Addr} {n rc m cc : Nat} {wo : WoM} (h : WoIn w RA n rc CA m cc wo) (hb : Below w.heap.size w W) : WoIn W RA n rc CA m cc wo :=
  ⟨h.hn, h.hrc, h.rows.rows (fun _ hp => Nat.lt_of_lt_of_le hp hb.size) (fun _ _ hp => hb.cell (p := ⟨_, _, none⟩) hp), h.hm, h.hcc, h.cls.cls (fun _ hp => Nat.lt_of_lt_of_le hp hb.size) (fun _ _ hp => hb.cell (p := ⟨_, _, none⟩) hp), h.ck⟩
theorem below_mem {w W : World} (hb : Below w.heap.size w W) : (∀ b, b < w.heap.size → b < W.heap.size) ∧ ∀ b k, b < w.heap.size → W.cell? ⟨b, k, none⟩ = w.cell? ⟨b, k, none⟩ :=
  ⟨fun _ hp => Nat.lt_of_lt_of_le hp hb.size, fun _ _ hp => hb.cell (p := ⟨_, _, none⟩) hp⟩
end Go.Proofs.Ytambkjnhfejfaaa
