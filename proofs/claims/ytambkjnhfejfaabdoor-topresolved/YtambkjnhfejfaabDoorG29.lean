/-
  Contracts of functions of the program and words for memory, several texts in one: TRunMem, KActs, KDeed, KConcat, TRun. Conditions: those stated with each.
-/
import Derived.Test.YtambkjnhfejfaabDoorG00
import Derived.Test.YtambkjnhfejfaabDoorG03
import Derived.Test.YtambkjnhfejfaabDoorG28
namespace Go.Proofs.YtambkjnhfejfaabDoor
open Go.RowKit

/-- P2.7: one act of a script. -/
def runA (wo : WoM) (a : ActM) : WoM × AnsM := if actE wo a = 0 then doW wo a else (wo, ansCode (actE wo a))
/-- P2.7: the world behind the acts. -/
def runWo : WoM → List ActM → WoM
  | wo, [] => wo
  | wo, a :: l => runWo (runA wo a).1 l
/-- P2.7: the answers. -/
def runAns : WoM → List ActM → List AnsM
  | _, [] => []
  | wo, a :: l => (runA wo a).2 :: runAns (runA wo a).1 l
/-- P2.7: the first world. -/
def startW (n : Nat) : WoM := ⟨[], 0, List.replicate n idleC⟩
theorem runWo_snoc (l : List ActM) (a : ActM) : ∀ wo, runWo wo (l ++ [a]) = (runA (runWo wo l) a).1 := by
  induction l with
  | nil => intro wo; rfl
  | cons b l ih => intro wo; exact ih _
theorem runAns_snoc (l : List ActM) (a : ActM) : ∀ wo, runAns wo (l ++ [a]) = runAns wo l ++ [(runA (runWo wo l) a).2] := by
  induction l with
  | nil => intro wo; rfl
  | cons b l ih => intro wo; simp only [List.cons_append, runAns, runWo, ih]
theorem runAns_length (l : List ActM) : ∀ wo, (runAns wo l).length = l.length := by
  induction l with
  | nil => intro wo; rfl
  | cons b l ih => intro wo; simp [runAns, ih]

/-- The four cells of an act. -/
structure ActAt (w : World) (b o : Nat) (a : ActM) : Prop where
  k : w.cell? ⟨b, o, none⟩ = some (.int .i64 a.kind)
  c : w.cell? ⟨b, o + 1, none⟩ = some (.int .i64 a.c)
  y : w.cell? ⟨b, o + 2, none⟩ = some (.string a.key)
  v : w.cell? ⟨b, o + 3, none⟩ = some (.string a.val)
  ok : a.key.size ≤ maxLen ∧ a.val.size ≤ maxLen
theorem ActAt.keep {w w' : World} {b o : Nat} {x : ActM} (h : ActAt w b o x) (hk : ∀ k, w'.cell? ⟨b, k, none⟩ = w.cell? ⟨b, k, none⟩) : ActAt w' b o x := ⟨(hk _).trans h.k, (hk _).trans h.c, (hk _).trans h.y, (hk _).trans h.v, h.ok⟩
/-- The acts of a script. -/
abbrev ActsAt (w : World) (P : Nat → Prop) (A : Option Addr) (l : List ActM) : Prop := SeqAt P 4 2932031007402 (ActAt w) A l
theorem SeqAt.acts {w w' : World} {P P' : Nat → Prop} {A : Option Addr} {l : List ActM} (h : ActsAt w P A l) (hP : ∀ b, P b → P' b) (hk : ∀ b k, P b → w'.cell? ⟨b, k, none⟩ = w.cell? ⟨b, k, none⟩) : ActsAt w' P' A l :=
  SeqAt.mono h hP fun b _ _ _ hb hx => hx.keep fun k => hk b k hb
/-- The five cells of an answer. -/
structure AnsAt (w : World) (b o : Nat) (x : AnsM) : Prop where
  c : w.cell? ⟨b, o, none⟩ = some (.int .i64 x.code)
  i : w.cell? ⟨b, o + 1, none⟩ = some (.bool x.is)
  v : w.cell? ⟨b, o + 2, none⟩ = some (.string x.val)
  p : w.cell? ⟨b, o + 3, none⟩ = some (.int .i64 x.ph)
  t : w.cell? ⟨b, o + 4, none⟩ = some (.int .i64 x.time)
theorem AnsAt.keep {w w' : World} {b o : Nat} {x : AnsM} (h : AnsAt w b o x) (hk : ∀ k, o ≤ k → k < o + 5 → w'.cell? ⟨b, k, none⟩ = w.cell? ⟨b, k, none⟩) : AnsAt w' b o x :=
  ⟨(hk _ (by omega) (by omega)).trans h.c, (hk _ (by omega) (by omega)).trans h.i, (hk _ (by omega) (by omega)).trans h.v, (hk _ (by omega) (by omega)).trans h.p, (hk _ (by omega) (by omega)).trans h.t⟩
/-- The answers in a block of their own, n places. -/
structure AnsDone (g n : Nat) (xs : List AnsM) (wr : World) : Prop where
  blk : ∃ cur, wr.heap[g]? = some (.cells cur 59 (0, 0)) ∧ cur.size = n * 5
  ans : ∀ i x, xs[i]? = some x → AnsAt wr g (i * 5) x
section
variable {g n : Nat} {xs : List AnsM} {w w' : World}
theorem AnsDone.lt (h : AnsDone g n xs w) : g < w.heap.size := by obtain ⟨_, h, _⟩ := h.blk; exact (Array.getElem?_eq_some_iff.1 h).1
theorem AnsDone.kept (h : AnsDone g n xs w) (hg : w'.heap[g]? = w.heap[g]?) : AnsDone g n xs w' := by
  obtain ⟨cur, hc, hn⟩ := h.blk
  exact ⟨⟨cur, hg.trans hc, hn⟩, fun i x hx => (h.ans i x hx).keep fun k _ _ => World.cell?_of_block (w := w) (a := ⟨g, k, none⟩) hg⟩
theorem AnsDone.cell (h : AnsDone g n xs w) (hk : xs.length < n) (j : Nat) (hj : j < 5) : ∃ v, w.cell? ⟨g, xs.length * 5 + j, none⟩ = some v ∧ w.frozen? ⟨g, xs.length * 5 + j, none⟩ = false := by
  obtain ⟨cur, hg, hn⟩ := h.blk
  exact block_cell hg hn (by omega)
theorem AnsDone.step (h : AnsDone g n xs w) (hk : xs.length < n) (x : AnsM) : AnsDone g n (xs ++ [x]) (set5 w g (xs.length * 5) (.int .i64 x.code) (.bool x.is) (.string x.val) (.int .i64 x.ph) (.int .i64 x.time)) := by
  have hs := set5_same w g (xs.length * 5) (.int .i64 x.code) (.bool x.is) (.string x.val) (.int .i64 x.ph) (.int .i64 x.time)
  obtain ⟨_, e0, _⟩ := h.cell hk 0 (by omega)
  obtain ⟨_, e1, _⟩ := h.cell hk 1 (by omega)
  obtain ⟨_, e2, _⟩ := h.cell hk 2 (by omega)
  obtain ⟨_, e3, _⟩ := h.cell hk 3 (by omega)
  obtain ⟨_, e4, _⟩ := h.cell hk 4 (by omega)
  obtain ⟨a0, a1, a2, a3, a4⟩ := set5_at e0 e1 e2 e3 e4 (.int .i64 x.code) (.bool x.is) (.string x.val) (.int .i64 x.ph) (.int .i64 x.time)
  refine ⟨block_set (block_set (block_set (block_set (block_set h.blk _) _) _) _) _, fun i y hy => ?_⟩
  have hi := (List.getElem?_eq_some_iff.1 hy).1
  rw [List.length_append, List.length_singleton] at hi
  by_cases e : i < xs.length
  · rw [List.getElem?_append_left e] at hy
    exact (h.ans i y hy).keep fun k h1 h2 => hs.cell _ fun e' => by
      have h3 : xs.length * 5 ≤ k := e'.2.1
      omega
  · have ei : i = xs.length := by omega
    subst ei
    rw [List.getElem?_append_right (Nat.le_refl _), Nat.sub_self, List.getElem?_cons_zero] at hy
    have hy := Option.some.inj hy
    subst hy
    exact ⟨a0, a1, a2, a3, a4⟩
end

/-- A world as it comes to a function, none of its memory in X. -/
structure WoInX (w : World) (X : Nat → Prop) (RA : Option Addr) (n rc : Nat) (CA : Option Addr) (m cc : Nat) (wo : WoM) : Prop where
  hn : n = wo.rows.length
  hrc : n ≤ rc
  rows : RowsAt w (fun b => b < w.heap.size ∧ ¬ X b) RA wo.rows
  hm : m = wo.cls.length
  hcc : m ≤ cc
  cls : ClsAt w (fun b => b < w.heap.size ∧ ¬ X b) CA wo.cls
  ck : i64 wo.clock
section
variable {w w' : World} {X : Nat → Prop} {RA CA : Option Addr} {n rc m cc : Nat} {wo : WoM}
theorem WoInX.in_ (h : WoInX w X RA n rc CA m cc wo) : WoIn w RA n rc CA m cc wo :=
  ⟨h.hn, h.hrc, h.rows.rows (fun _ hp => hp.1) (fun _ _ _ => rfl), h.hm, h.hcc, h.cls.cls (fun _ hp => hp.1) (fun _ _ _ => rfl), h.ck⟩
theorem WoInX.upto (h : WoInX w X RA n rc CA m cc wo) (hb : Below w.heap.size w w') : WoInX w' X RA n rc CA m cc wo :=
  ⟨h.hn, h.hrc, h.rows.rows (fun _ hp => ⟨(below_mem hb).1 _ hp.1, hp.2⟩) (fun _ _ hp => (below_mem hb).2 _ _ hp.1), h.hm, h.hcc, h.cls.cls (fun _ hp => ⟨(below_mem hb).1 _ hp.1, hp.2⟩) (fun _ _ hp => (below_mem hb).2 _ _ hp.1), h.ck⟩
theorem WoInX.same {S : Addr → Prop} (h : WoInX w X RA n rc CA m cc wo) (hs : Same w w' S) (hS : ∀ p, S p → X p.block) : WoInX w' X RA n rc CA m cc wo :=
  ⟨h.hn, h.hrc, h.rows.rows (fun _ hp => by rw [hs.sz]; exact hp) (fun _ _ hp => hs.cell _ fun e => hp.2 (hS _ e)), h.hm, h.hcc, h.cls.cls (fun _ hp => by rw [hs.sz]; exact hp) (fun _ _ hp => hs.cell _ fun e => hp.2 (hS _ e)), h.ck⟩
theorem Core.inX {B bR bC : Nat} {X' : Nat → Prop} {wb : Nat → Nat} (h : Core w B X bR bC wb wo) (hX : ∀ b, ¬ X b → ¬ X' b) {rc cc : Nat} (hr : wo.rows.length ≤ rc) (hc : wo.cls.length ≤ cc) : WoInX w X' (some ⟨bR, 0, none⟩) wo.rows.length rc (some ⟨bC, 0, none⟩) wo.cls.length cc wo :=
  ⟨rfl, hr, SeqAt.block h.rl ⟨h.rB.2.1, hX _ h.rB.2.2⟩ fun i r hr => (h.rows i r hr).mono (fun _ hb => ⟨hb.1, hX _ hb.2.1⟩) (fun _ _ _ => rfl) (fun _ _ _ => rfl), rfl, hc,
    SeqAt.block h.cl ⟨h.cB.2.1, hX _ h.cB.2.2⟩ fun i c hc => (h.cls i c hc).mono (fun _ hb => by rw [hb]; exact ⟨(h.wB i (List.getElem?_eq_some_iff.1 hc).1).2.1, hX _ (h.wB i (List.getElem?_eq_some_iff.1 hc).1).2.2.1⟩) (fun _ _ _ => rfl) (fun _ _ _ => rfl), h.ck⟩
end

theorem ans_info : (Tryd.prog.info? 59).map (fun i => (i.zero, i.size, i.bytes)) = some (some (.agg #[.int .i64 0, .bool false, .string ⟨#[]⟩, .int .i64 0, .int .i64 0]), 5, 48) := by kernel_rfl
/-- make([]Answer, n). -/
theorem make_ans (n : Nat) (hn : n ≤ 400) : ∃ Z : Array Value, Z.size = n * 5 ∧ ∀ W : World, (Instr.makeSlice 55 (.int .i64 (n : Int)) (.int .i64 (n : Int))).run Tryd.prog W =
    .ok (.slice (some ⟨W.heap.size, 0, none⟩) n n) (W.alloc (.cells Z 59)) := by
  obtain ⟨i0, hi0, hz0, hz1, hz2⟩ := info_parts ans_info
  refine ⟨madeCells (Value.agg #[.int .i64 0, .bool false, .string ⟨#[]⟩, .int .i64 0, .int .i64 0]).cells (n * 5), by rw [size_madeCells], fun W => ?_⟩
  have h := run_make (P := Tryd.prog) W 55 59 i0 _ Tryd.underlying55 hi0 hz0 .i64 .i64 (n : Int) (n : Int) (by omega) (by omega) (by rw [hz2]; omega) (by omega)
  simp only [Int.toNat_natCast, hz1] at h
  exact h
theorem made_at (z : Array Value) (n k : Nat) (h : k < n) : (madeCells z n)[k]? = some z[k % z.size]! := by simp [madeCells, h]
/-- The clients of the first world. -/
theorem start_in (w : World) (n : Nat) (hn : n ≤ 5) (Z : Array Value) (hZ : Z = madeCells (Value.agg #[.int .i64 0, .int .i64 0, .int .i64 0, .slice none 0 0, .int .i64 0]).cells (n * 5)) {g : Nat} (hg : w.heap[g]? = some (.cells Z 109 (0, 0))) (X : Nat → Prop) (hX : ¬ X g) :
    WoInX w X none 0 0 (some ⟨g, 0, none⟩) n n (startW n) := by
  have hlt : g < w.heap.size := (Array.getElem?_eq_some_iff.1 hg).1
  refine ⟨rfl, Nat.le_refl _, SeqAt.nil_ _, by simp [startW], Nat.le_refl _, SeqAt.block (by simp [startW]; omega) ⟨hlt, hX⟩ fun i c hc => ?_, i64_zero⟩
  have hi : i < n := by have := (List.getElem?_eq_some_iff.1 hc).1; simpa [startW] using this
  have hc' : c = idleC := by simp [startW, hi] at hc; exact hc.symm
  subst hc'
  have hcell : ∀ j, j < 5 → w.cell? ⟨g, i * 5 + j, none⟩ = ([.int .i64 0, .int .i64 0, .int .i64 0, .slice none 0 0, .int .i64 0] : List Value)[j]? := by
    intro j hj
    have e : (i * 5 + j) % 5 = j := by omega
    rw [Joins.cell_of_block hg, hZ, made_at _ _ _ (by omega), show (Value.agg #[.int .i64 0, .int .i64 0, .int .i64 0, .slice none 0 0, .int .i64 0]).cells.size = 5 from rfl, e]
    match j, hj with
    | 0, _ => rfl
    | 1, _ => rfl
    | 2, _ => rfl
    | 3, _ => rfl
    | 4, _ => rfl
  exact ⟨hcell 0 (by omega), hcell 1 (by omega), hcell 2 (by omega), ⟨none, 0, hcell 3 (by omega), Nat.le_refl _, SeqAt.nil_ _⟩, hcell 4 (by omega), i64_zero, i64_zero, i64_zero, i64_zero⟩
end Go.Proofs.YtambkjnhfejfaabDoor

namespace Go.Proofs.YtambkjnhfejfaabDoor
open Go.RowKit

/-- The cells of an act. -/
def actCells : Cells ActM := ⟨fun a => [.int .i64 a.kind, .int .i64 a.c, .string a.key, .string a.val], 4, fun _ => rfl, fun a v hv => by
  simp only [List.mem_cons, List.not_mem_nil, or_false] at hv
  rcases hv with rfl | rfl | rfl | rfl <;> rfl, by decide⟩
theorem act_info : (Tryd.prog.info? 52).map (fun i => (i.zero, i.size, i.bytes)) = some (some (.agg #[.int .i64 0, .int .i64 0, .string ⟨#[]⟩, .string ⟨#[]⟩]), 4, 48) := by kernel_rfl
/-- The strings of an act are such as a machine holds. -/
def ActOk (a : ActM) : Prop := a.key.size ≤ maxLen ∧ a.val.size ≤ maxLen
/-- A slice value that owns acts. -/
abbrev OwnsActs (w : World) (base : Nat) (v : Value) (l : List ActM) : Prop := actCells.Owns w base 52 v l
theorem acts_at {w : World} {P : Nat → Prop} {mx : Nat} {A : Option Addr} {l : List ActM} (h : SeqAt P 4 mx (actCells.At w) A l) (hl : l.length ≤ 100000) (hok : ∀ a ∈ l, ActOk a) : ActsAt w P A l :=
  ⟨by omega, fun h0 => by
    obtain ⟨b, o, hA, hb, hc⟩ := h.2 h0
    exact ⟨b, o, hA, hb, fun i x hx => ⟨hc i x hx 0 _ rfl, hc i x hx 1 _ rfl, hc i x hx 2 _ rfl, hc i x hx 3 _ rfl, hok x (List.mem_of_getElem? hx)⟩⟩⟩
theorem acts_of {w : World} {P : Nat → Prop} {A : Option Addr} {l : List ActM} (h : ActsAt w P A l) : SeqAt P 4 2932031007402 (actCells.At w) A l :=
  SeqAt.mono h (fun _ h => h) fun b o x _ _ hx j v hj => by
    match j, hj with
    | 0, hj => cases hj; exact hx.k
    | 1, hj => cases hj; exact hx.c
    | 2, hj => cases hj; exact hx.y
    | 3, hj => cases hj; exact hx.v
theorem OwnsActs.acts {w : World} {base n c : Nat} {A : Option Addr} {l : List ActM} (h : OwnsActs w base (.slice A n c) l) (hl : l.length ≤ 100000) (hok : ∀ a ∈ l, ActOk a) : n = l.length ∧ n ≤ c ∧ ActsAt w (fun b => base ≤ b ∧ b < w.heap.size) A l := by
  obtain ⟨A', c', hv, hc, hs⟩ := Cells.Owns.at_ h hl
  injection hv with e1 e2 e3
  subst e1 e2 e3
  exact ⟨rfl, hc, acts_at hs hl hok⟩
/-- append of one act, that lies in a new block. -/
theorem app_act {ty : TypeId} (W w0 : World) (base c : Nat) (A : Option Addr) (l : List ActM) (a : ActM) (hown : OwnsActs W base (.slice A l.length c) l) (hbd : l.length ≤ 1000) (hbase : base ≤ W.heap.size) (hb : Below base w0 W) :
    ∃ v' w', (Builtin.append_ #[49, 49] ty #[.slice A l.length c, .slice (some ⟨W.heap.size, 0, none⟩) 1 1]).run Tryd.prog (W.alloc (.cells #[.int .i64 a.kind, .int .i64 a.c, .string a.key, .string a.val] 52)) = .ok v' w' ∧ ∃ A' c', v' = .slice A' (l.length + 1) c' ∧ OwnsActs w' base (.slice A' (l.length + 1) c') (l ++ [a]) ∧ Below base w0 w' := by
  obtain ⟨i0, hi0, hz0, hz1, hz2⟩ := info_parts act_info
  obtain ⟨v', w', h1, A', c', h2, h3, h4, _⟩ := app_seq (C := actCells) (ty := ty) (bytes := 48) Tryd.underlying49 hi0 hz0 hz1 hz2 rfl (W.alloc (.cells #[.int .i64 a.kind, .int .i64 a.c, .string a.key, .string a.val] 52)) w0 base 1 1 (.slice A l.length c) l _ [a] _ (hown.kept (below_alloc (Below.refl _ _) _)) rfl (one_seq (C := actCells) (e := 52) W a) (by simp; omega) (by omega) (by simp; omega) (hb.alloc hbase _)
  have e : (l ++ [a]).length = l.length + 1 := by simp
  rw [e] at h2 h3
  exact ⟨v', w', h1, A', c', h2, h3, h4⟩
end Go.Proofs.YtambkjnhfejfaabDoor

namespace Go.Proofs.YtambkjnhfejfaabDoor
open Go.RowKit

/-- Short strings in memory. -/
abbrev StrsAt (w : World) (P : Nat → Prop) (A : Option Addr) (l : List ByteArray) : Prop := SeqAt P 1 100000 (fun b o (k : ByteArray) => w.cell? ⟨b, o, none⟩ = some (.string k) ∧ k.size ≤ 6) A l
theorem SeqAt.strs {w w' : World} {P P' : Nat → Prop} {A : Option Addr} {l : List ByteArray} (h : StrsAt w P A l) (hP : ∀ b, P b → P' b) (hk : ∀ b k, P b → w'.cell? ⟨b, k, none⟩ = w.cell? ⟨b, k, none⟩) : StrsAt w' P' A l :=
  SeqAt.mono h hP fun b _ _ _ hb hx => ⟨(hk b _ hb).trans hx.1, hx.2⟩
/-- A slice of acts that goes out. -/
def ActsOut (l : List ActM) (w : World) (e : Ending) (w' : World) : Prop :=
  ∃ A c, e = .returned (.slice A l.length c) ∧ OwnsActs w' w.heap.size (.slice A l.length c) l ∧ Below w.heap.size w w'
def actB (k c : Int) : ActM := ⟨k, c, ⟨#[]⟩, ⟨#[]⟩⟩
/-- look at keys. -/
def lookM (c : Int) (keys : List ByteArray) : List ActM := actB 1 c :: keys.map fun k => ⟨2, c, k, ⟨#[]⟩⟩
theorem map_take_snoc {α β : Type} {d : α} (f : α → β) {l : List α} {k : Nat} (hk : k < l.length) : (l.take (k + 1)).map f = (l.take k).map f ++ [f (l.getD k d)] := by
  rw [List.take_succ_eq_append_getElem hk, List.map_append]
  simp [List.getD, hk]
theorem one_own (w : World) (a : ActM) : OwnsActs (w.alloc (.cells #[.int .i64 a.kind, .int .i64 a.c, .string a.key, .string a.val] 52)) w.heap.size (.slice (some ⟨w.heap.size, 0, none⟩) 1 1) [a] :=
  Cells.Owns.block (C := actCells) (l := [a]) (Nat.le_refl _) (heap_alloc_new w _) rfl (by simp)

set_option maxRecDepth 100000 in
set_option maxHeartbeats 4000000 in
theorem look_any (c : Nat) (A : Option Addr) (q : Nat) (keys : List ByteArray) (w : World) (hk : StrsAt w (· < w.heap.size) A keys) (hl : keys.length ≤ 100) :
    Calls Tryd.prog 29 #[.int .i64 c, .slice A keys.length q] w (ActsOut (lookM c keys) w) := by
  have HK := Lib.hid hk
  have H1 := Lib.hid (one_own w (actB 1 c))
  have HB1 := Lib.hid (show Below w.heap.size w (w.alloc (.cells #[.int .i64 1, .int .i64 c, .string ⟨#[]⟩, .string ⟨#[]⟩] 52)) from below_alloc (Below.refl _ _) _)
  clear hk
  go_enter Tryd.func29, Tryd.ntmps29
  go_wp2
  go_loopw [5, 13] (fun v i wr => ∃ (k : Nat) (As : Option Addr) (cs : Nat), k ≤ keys.length ∧ i = .int .i64 k ∧ v = .slice As (k + 1) cs ∧ OwnsActs wr w.heap.size (.slice As (k + 1) cs) (lookM c (keys.take k)) ∧ Below w.heap.size w wr) (fun _ i _ => keys.length - (intOf i).toNat)
  case atStart => exact ⟨0, _, _, Nat.zero_le _, rfl, rfl, H1.out, HB1.out⟩
  case round =>
    obtain ⟨k, As, cs, hk, rfl, rfl, hown, hb⟩ := hrel
    have HO := Lib.hid hown
    have HB := Lib.hid hb
    by_cases hm : k < keys.length
    · obtain ⟨b, o, hA, hbb, hx⟩ := SeqAt.at_ (HK.out.strs (below_mem hb).1 (below_mem hb).2) (getD_some (d := default) hm)
      subst hA
      obtain ⟨key, hkey⟩ : ∃ key, key = keys.getD k default := ⟨_, rfl⟩
      rw [← hkey] at hx
      obtain ⟨x0, xs⟩ := hx
      rw [Nat.mul_one] at x0
      have hlen : (lookM c (keys.take k)).length = k + 1 := by simp [lookM]; omega
      have HST := Lib.hid (show lookM c (keys.take (k + 1)) = lookM c (keys.take k) ++ [⟨2, c, key, ⟨#[]⟩⟩] by rw [lookM, lookM, map_take_snoc (d := default) _ hm, ← hkey]; rfl)
      have HAP := Lib.hid (fun ty => app_act (ty := ty) wr w w.heap.size cs As (lookM c (keys.take k)) ⟨2, c, key, ⟨#[]⟩⟩ (by rw [hlen]; exact hown) (by rw [hlen]; omega) hb.size hb)
      rw [hlen] at HAP
      have j0 : (0 : Int) ≤ (k : Int) := by omega
      have j1 : (k : Int) < (keys.length : Int) := by omega
      clear hown hb hkey
      go_wp2_with (at_builtin; refine (wpList_append_run _ rfl (.tmp 17) (.tmp 21) 49 rfl (.slice As (k + 1) cs) (.slice (some ⟨wr.heap.size, 0, none⟩) 1 1) rfl rfl (HAP.out _) ?_); rintro v1 w2 ⟨A2, c2, rfl, hown2, hb2⟩; have HO2 := Lib.hid hown2; have HB2 := Lib.hid hb2; clear hown2 hb2)
      go_roundw
      case rel => exact ⟨k + 1, A2, c2, by omega, by go_num, rfl, by rw [HST.out]; exact HO2.out, HB2.out⟩
      case measure => simp [intOf]; omega
    · have hke : k = keys.length := by omega
      subst hke
      rw [List.take_length] at HO
      go_wp2
      go_ret
      refine ⟨As, cs, ?_, ?_, HB.out⟩
      · have : (lookM c keys).length = keys.length + 1 := by simp [lookM]
        rw [this]; rfl
      · have : (lookM c keys).length = keys.length + 1 := by simp [lookM]
        rw [this]; exact HO.out
/-- The value of a write. -/
def ofS (k : ByteArray) (c : Nat) : ByteArray := (⟨#[111, 102, 32]⟩ : ByteArray) ++ k ++ itoaS c
/-- put of keys, and so many steps. -/
def deedM (c : Nat) (steps : Nat) (keys : List ByteArray) : List ActM := (actB 1 c :: keys.map fun k => ⟨3, c, k, ofS k c⟩) ++ List.replicate steps (actB 4 c)
set_option maxRecDepth 100000 in
set_option maxHeartbeats 4000000 in
theorem deed_any (c : Nat) (hc : c < 100) (steps : Nat) (hs : steps ≤ 100) (A : Option Addr) (q : Nat) (keys : List ByteArray) (w : World) (hk : StrsAt w (· < w.heap.size) A keys) (hl : keys.length ≤ 100) :
    Calls Tryd.prog 28 #[.int .i64 c, .int .i64 steps, .slice A keys.length q] w (ActsOut (deedM c steps keys) w) := by
  have HK := Lib.hid hk
  have H1 := Lib.hid (one_own w (actB 1 c))
  have HB1 := Lib.hid (show Below w.heap.size w (w.alloc (.cells #[.int .i64 1, .int .i64 c, .string ⟨#[]⟩, .string ⟨#[]⟩] 52)) from below_alloc (Below.refl _ _) _)
  clear hk
  go_enter Tryd.func28, Tryd.ntmps28
  go_wp2
  go_loopw [7, 15] (fun v i wr => ∃ (k : Nat) (As : Option Addr) (cs : Nat), k ≤ keys.length ∧ i = .int .i64 k ∧ v = .slice As (k + 1) cs ∧ OwnsActs wr w.heap.size (.slice As (k + 1) cs) (deedM c 0 (keys.take k)) ∧ Below w.heap.size w wr) (fun _ i _ => keys.length - (intOf i).toNat)
  case atStart => exact ⟨0, _, _, Nat.zero_le _, rfl, rfl, H1.out, HB1.out⟩
  case round =>
    obtain ⟨k, As, cs, hk, rfl, rfl, hown, hb⟩ := hrel
    have HO := Lib.hid hown
    have HB := Lib.hid hb
    by_cases hm : k < keys.length
    · obtain ⟨b, o, hA, hbb, hx⟩ := SeqAt.at_ (HK.out.strs (below_mem hb).1 (below_mem hb).2) (getD_some (d := default) hm)
      subst hA
      obtain ⟨key, hkey⟩ : ∃ key, key = keys.getD k default := ⟨_, rfl⟩
      rw [← hkey] at hx
      obtain ⟨x0, xs⟩ := hx
      rw [Nat.mul_one] at x0
      have hlen : (deedM c 0 (keys.take k)).length = k + 1 := by simp [deedM]; omega
      have HST := Lib.hid (show deedM c 0 (keys.take (k + 1)) = deedM c 0 (keys.take k) ++ [⟨3, c, key, ofS key c⟩] by rw [deedM, deedM, map_take_snoc (d := default) _ hm, ← hkey]; simp)
      have HAP := Lib.hid (fun ty => app_act (ty := ty) wr w w.heap.size cs As (deedM c 0 (keys.take k)) ⟨3, c, key, ofS key c⟩ (by rw [hlen]; exact hown) (by rw [hlen]; omega) hb.size hb)
      rw [hlen] at HAP
      have HIT := Lib.hid (itoa_any c hc wr)
      have hit := itoa_size c hc
      obtain ⟨it, hitd⟩ : ∃ it, it = itoaS c := ⟨_, rfl⟩
      have HOF := Lib.hid (show ofS key c = (⟨#[111, 102, 32]⟩ : ByteArray) ++ key ++ it by rw [ofS, hitd])
      rw [← hitd] at HIT hit
      rw [HOF.out] at HAP
      have j0 : (0 : Int) ≤ (k : Int) := by omega
      have j1 : (k : Int) < (keys.length : Int) := by omega
      clear hown hb hkey hitd
      go_wp2_with fail
      refine HIT.out.mono ?_
      rintro e w' ⟨rfl, hw⟩
      rw [hw]
      clear hw w'
      go_wp2_with (at_builtin; refine (wpList_append_run _ rfl (.tmp 19) (.tmp 28) 49 rfl (.slice As (k + 1) cs) (.slice (some ⟨wr.heap.size, 0, none⟩) 1 1) rfl rfl (HAP.out _) ?_); rintro v1 w2 ⟨A2, c2, rfl, hown2, hb2⟩; have HO2 := Lib.hid hown2; have HB2 := Lib.hid hb2; clear hown2 hb2)
      go_roundw
      case rel => exact ⟨k + 1, A2, c2, by omega, by go_num, rfl, by rw [HST.out, HOF.out]; exact HO2.out, HB2.out⟩
      case measure => simp [intOf]; omega
    · have hke : k = keys.length := by omega
      subst hke
      rw [List.take_length] at HO
      clear hown hb
      obtain ⟨w3, rfl⟩ : ∃ w3, w3 = wr := ⟨_, rfl⟩
      go_wp2
      go_loopw [7, 32] (fun v i wr => ∃ (j : Nat) (As : Option Addr) (cs : Nat), j ≤ steps ∧ i = .int .i64 j ∧ v = .slice As (keys.length + 1 + j) cs ∧ OwnsActs wr w.heap.size (.slice As (keys.length + 1 + j) cs) (deedM c j keys) ∧ Below w.heap.size w wr) (fun _ i _ => steps - (intOf i).toNat)
      case atStart => exact ⟨0, _, _, Nat.zero_le _, rfl, rfl, HO.out, HB.out⟩
      case round =>
        obtain ⟨j, As, cs, hj, rfl, rfl, hown, hb⟩ := hrel
        have HO := Lib.hid hown
        have HB := Lib.hid hb
        by_cases hm : j < steps
        · have hlen : (deedM c j keys).length = keys.length + 1 + j := by simp [deedM]; omega
          have HST := Lib.hid (show deedM c (j + 1) keys = deedM c j keys ++ [actB 4 c] by rw [deedM, deedM, List.replicate_succ', List.append_assoc])
          have HAP := Lib.hid (fun ty => app_act (ty := ty) wr w w.heap.size cs As (deedM c j keys) (actB 4 c) (by rw [hlen]; exact hown) (by rw [hlen]; omega) hb.size hb)
          rw [hlen] at HAP
          have j0 : decide ((j : Int) < (steps : Int)) = true := decide_eq_true (by omega)
          clear hown hb
          go_wp2_with (at_builtin; refine (wpList_append_run _ rfl (.tmp 34) (.tmp 37) 49 rfl (.slice As (keys.length + 1 + j) cs) (.slice (some ⟨wr.heap.size, 0, none⟩) 1 1) rfl rfl (HAP.out _) ?_); rintro v1 w2 ⟨A2, c2, rfl, hown2, hb2⟩; have HO2 := Lib.hid hown2; have HB2 := Lib.hid hb2; clear hown2 hb2)
          go_roundw
          case rel => exact ⟨j + 1, A2, c2, by omega, by go_num, rfl, by rw [HST.out]; exact HO2.out, HB2.out⟩
          case measure => simp [intOf]; omega
        · have hje : j = steps := by omega
          subst hje
          have j0 : decide ((j : Int) < (j : Int)) = false := decide_eq_false (by omega)
          clear hown hb
          go_wp2
          go_ret
          have hlen : (deedM c j keys).length = keys.length + 1 + j := by simp [deedM]; omega
          refine ⟨As, cs, ?_, ?_, HB.out⟩
          · rw [hlen]; rfl
          · rw [hlen]; exact HO.out
end Go.Proofs.YtambkjnhfejfaabDoor

namespace Go.Proofs.YtambkjnhfejfaabDoor
open Go.RowKit

/-- append(nil, make(S, m)...). -/
theorem run_append_new {P : Program} {t ti ty e : TypeId} {i0 : TypeInfo} {z : Value} (ht : P.underlying t = some (.slice e)) (hti : P.underlying ti = some (.int .i64)) (hi : P.info? e = some i0) (hz : i0.zero = some z) (hs0 : 0 < i0.size) (hb : i0.bytes ≤ 1000)
    (w : World) (m : Nat) (hm0 : 0 < m) (hm : m ≤ 1000) :
    (Builtin.append_ #[t, ti] ty #[.slice none 0 0, .int .i64 m]).run P w =
      .ok (.slice (some ⟨w.heap.size, 0, none⟩) m (grownCap w m 0 e)) (w.drew.alloc (.cells (Builtin.zeroCells z.cells m ++ Builtin.zeroCells z.cells (grownCap w m 0 e - m)) e)) := by
  have h1 : IntKind.i64.wrap (m : Int) = (m : Int) := IntWalk.i64_in _ (by omega)
  have hn2 : ¬ (m = 0) := by omega
  have hnb : (m : Int) * (i0.bytes : Int) ≤ 1000 * 1000 := Int.mul_le_mul (by omega) (by omega) (by omega) (by omega)
  have h48 : ¬ ((281474976710656 : Int) < (m : Int) * (i0.bytes : Int)) := by omega
  have hfit : Builtin.nextslicecap m 0 * i0.bytes ≤ 281474976710656 := growslice_fits (by omega) (by
    have : m * i0.bytes ≤ 1000 * 1000 := Nat.mul_le_mul (by omega) hb
    omega)
  have h48' : ¬ (281474976710656 < Builtin.nextslicecap m 0 * i0.bytes) := by omega
  have h63' : ¬ (9223372036854775807 < (m : Int)) := by omega
  have hms : ¬ (m * i0.size = 0) := by
    intro h
    rcases Nat.mul_eq_zero.1 h with h | h <;> omega
  simp [Builtin.append_, run_underlying ht, run_underlying hti, sizeOf, typeInfo, zeroValue, hi, hz, hn2, h1, h48, h48', h63', Question.forced, newRow, grownCap, asInt, asIntOf, Builtin.firstCells]
  rw [if_neg (by omega)]
  try rw [if_neg hms]
  try rfl

/-- One part of what is joined. -/
structure PartM where
  A : Option Addr
  c : Nat
  l : List ActM
instance : Inhabited PartM := ⟨⟨none, 0, []⟩⟩
def PartAt (w : World) (b o : Nat) (p : PartM) : Prop := w.cell? ⟨b, o, none⟩ = some (.slice p.A p.l.length p.c) ∧ ActsAt w (· < w.heap.size) p.A p.l
abbrev PartsAt (w : World) (A : Option Addr) (l : List PartM) : Prop := SeqAt (· < w.heap.size) 1 100 (PartAt w) A l
theorem SeqAt.parts {w w' : World} {A : Option Addr} {l : List PartM} (h : PartsAt w A l) (hb : Below w.heap.size w w') : PartsAt w' A l :=
  SeqAt.mono h (below_mem hb).1 fun b _ _ _ hb' hx => ⟨((below_mem hb).2 b _ hb').trans hx.1, hx.2.acts (below_mem hb).1 (below_mem hb).2⟩
/-- The acts of parts. -/
def joinM (l : List PartM) : List ActM := l.flatMap PartM.l
theorem join_snoc {l : List PartM} {k : Nat} (hk : k < l.length) : joinM (l.take (k + 1)) = joinM (l.take k) ++ (l.getD k default).l := by
  rw [List.take_succ_eq_append_getElem hk, joinM, joinM, List.flatMap_append]
  simp [List.getD, hk]
theorem join_len (l : List PartM) (k : Nat) : (joinM (l.take k)).length ≤ (joinM l).length := by
  have : joinM l = joinM (l.take k) ++ joinM (l.drop k) := by rw [joinM, joinM, joinM, ← List.flatMap_append, List.take_append_drop]
  rw [this, List.length_append]; omega

set_option maxRecDepth 100000 in
set_option maxHeartbeats 4000000 in
theorem grow_any (m : Nat) (hm0 : 0 < m) (hm : m ≤ 1000) (w : World) :
    Calls Tryd.prog 56 #[.slice none 0 0, .int .i64 m] w fun e w' => ∃ A c, e = .returned (.slice A 0 c) ∧ OwnsActs w' w.heap.size (.slice A 0 c) [] ∧ Below w.heap.size w w' := by
  obtain ⟨i0, hi0, hz0, hz1, hz2⟩ := info_parts act_info
  have hz3 : (Value.agg #[.int .i64 0, .int .i64 0, .string ⟨#[]⟩, .string ⟨#[]⟩]).cells.size = 4 := rfl
  have hrun := fun ty => run_append_new (ty := ty) Tryd.underlying49 Tryd.underlying3 hi0 hz0 (by rw [hz1]; decide) (by rw [hz2]; decide) w m hm0 hm
  have hge := grownCap_ge w m 0 52
  have hle := grownCap_le_maxLen w m 0 52 (by simp only [maxLen]; omega)
  obtain ⟨cap, hcap⟩ : ∃ cap, cap = grownCap w m 0 52 := ⟨_, rfl⟩
  rw [← hcap] at hrun hge hle
  obtain ⟨cur, hcur⟩ : ∃ cur, cur = Builtin.zeroCells (Value.agg #[.int .i64 0, .int .i64 0, .string ⟨#[]⟩, .string ⟨#[]⟩]).cells m ++ Builtin.zeroCells (Value.agg #[.int .i64 0, .int .i64 0, .string ⟨#[]⟩, .string ⟨#[]⟩]).cells (cap - m) := ⟨_, rfl⟩
  rw [← hcur] at hrun
  have hsz : cur.size = cap * 4 := by
    rw [hcur, Array.size_append, size_zeroCells, size_zeroCells, hz3, ← Nat.add_mul]
    congr 1
    omega
  have hg : (w.drew.alloc (.cells cur 52)).heap[w.heap.size]? = some (.cells cur 52 (0, 0)) := heap_alloc_new w.drew _
  have hb : Below w.heap.size w (w.drew.alloc (.cells cur 52)) := below_alloc (below_drew (Below.refl _ _)) _
  obtain ⟨W, hW⟩ : ∃ W, W = w.drew.alloc (.cells cur 52) := ⟨_, rfl⟩
  rw [← hW] at hrun hg hb
  have HOW := Lib.hid (show OwnsActs W w.heap.size (.slice (some ⟨w.heap.size, 0, none⟩) 0 cap) [] from ⟨rfl, .inr ⟨w.heap.size, cap, cur, rfl, Nat.le_refl _, hg, Nat.zero_le _, hle, hsz, by simp [Cells.all]⟩⟩)
  have HB := Lib.hid hb
  have HRUN := Lib.hid hrun
  have q0 : decide ((m : Int) < 0) = false := decide_eq_false (by omega)
  have q1 : decide ((0 : Int) < (m : Int)) = true := decide_eq_true (by omega)
  clear hrun hg hb hW hcur hsz hcap
  go_enter Tryd.func56, Tryd.ntmps56
  go_wp2_with (at_builtin; refine (wpList_append_to rfl (.tmp 20) (.tmp 21) 49 3 rfl (.slice none 0 0) (.int .i64 m) (.slice (some ⟨w.heap.size, 0, none⟩) m cap) rfl rfl (HRUN.out _) ?_))
  go_ret
  exact ⟨_, _, rfl, HOW.out, HB.out⟩
/-- append of a part. -/
theorem app_part {ty : TypeId} (W w0 : World) (base c : Nat) (A : Option Addr) (l : List ActM) (p : PartM) (hown : OwnsActs W base (.slice A l.length c) l) (hp : ActsAt W (· < W.heap.size) p.A p.l) (hbd : l.length + p.l.length ≤ 1000) (hbase : base ≤ W.heap.size) (hb : Below base w0 W) :
    ∃ v' w', (Builtin.append_ #[49, 49] ty #[.slice A l.length c, .slice p.A p.l.length p.c]).run Tryd.prog W = .ok v' w' ∧ ∃ A' c', v' = .slice A' (l ++ p.l).length c' ∧ OwnsActs w' base (.slice A' (l ++ p.l).length c') (l ++ p.l) ∧ Below base w0 w' := by
  obtain ⟨i0, hi0, hz0, hz1, hz2⟩ := info_parts act_info
  obtain ⟨v', w', h1, A', c', h2, h3, h4, _⟩ := app_seq (C := actCells) (ty := ty) (bytes := 48) Tryd.underlying49 hi0 hz0 hz1 hz2 rfl W w0 base p.l.length p.c (.slice A l.length c) l p.A p.l _ hown rfl (acts_of hp) (by omega) (by omega) hbase hb
  exact ⟨v', w', h1, A', c', h2, h3, h4⟩
set_option maxRecDepth 100000 in
set_option maxHeartbeats 4000000 in
theorem concat_any (SA : Option Addr) (q : Nat) (parts : List PartM) (w : World) (hp : PartsAt w SA parts) (h1 : 0 < (joinM parts).length) (h2 : (joinM parts).length ≤ 1000) :
    Calls Tryd.prog 27 #[.slice SA parts.length q] w (ActsOut (joinM parts) w) := by
  have HP := Lib.hid hp
  have hpl := hp.1
  clear hp
  go_enter Tryd.func27, Tryd.ntmps27
  go_wp2
  go_loopw [3, 11] (fun s i wr => ∃ (k : Nat), k ≤ parts.length ∧ i = .int .i64 k ∧ s = .int .i64 (joinM (parts.take k)).length ∧ wr = w) (fun _ i _ => parts.length - (intOf i).toNat)
  case atStart => exact ⟨0, Nat.zero_le _, rfl, rfl, rfl⟩
  case round =>
    obtain ⟨k, hk, rfl, rfl, rfl⟩ := hrel
    by_cases hm : k < parts.length
    · obtain ⟨b, o, hA, hbb, hx⟩ := SeqAt.at_ HP.out (getD_some (d := default) hm)
      subst hA
      have hsn := join_snoc hm
      have hle := join_len parts (k + 1)
      obtain ⟨p, hpd⟩ : ∃ p, p = parts.getD k default := ⟨_, rfl⟩
      rw [← hpd] at hx hsn
      obtain ⟨x0, _⟩ := hx
      rw [Nat.mul_one] at x0
      have hl : (joinM (parts.take (k + 1))).length = (joinM (parts.take k)).length + p.l.length := by rw [hsn, List.length_append]
      obtain ⟨m, hmd⟩ : ∃ m, m = (joinM (parts.take k)).length := ⟨_, rfl⟩
      have HL := Lib.hid (show (joinM (parts.take (k + 1))).length = m + p.l.length by rw [hl, hmd])
      rw [← hmd] at hl ⊢
      have j0 : (0 : Int) ≤ (k : Int) := by omega
      have j1 : (k : Int) < (parts.length : Int) := by omega
      have hlt : decide ((m : Int) + (p.l.length : Int) < 0) = false := decide_eq_false (by omega)
      clear hpd hsn hmd
      go_wp2
      go_roundw
      case rel => exact ⟨k + 1, by omega, by go_num, by rw [HL.out]; go_num, trivial⟩
      case measure => simp [intOf]; omega
    · have hke : k = parts.length := by omega
      subst hke
      rw [List.take_length]
      obtain ⟨m, hmd⟩ : ∃ m, m = (joinM parts).length := ⟨_, rfl⟩
      rw [← hmd] at h1 h2
      rw [← hmd]
      have HG := Lib.hid (grow_any m h1 h2 wr)
      have HM := Lib.hid hmd
      clear hmd
      go_wp2_with fail
      refine HG.out.mono ?_
      rintro e w1 ⟨A1, c1, rfl, hown1, hb1⟩
      have HO1 := Lib.hid hown1
      have HB1 := Lib.hid hb1
      obtain ⟨w3, rfl⟩ : ∃ w3, w3 = wr := ⟨_, rfl⟩
      clear hown1 hb1
      go_wp2
      go_loopw [6, 27] (fun v i wr => ∃ (k : Nat) (As : Option Addr) (cs : Nat), k ≤ parts.length ∧ i = .int .i64 k ∧ v = .slice As (joinM (parts.take k)).length cs ∧ OwnsActs wr w3.heap.size (.slice As (joinM (parts.take k)).length cs) (joinM (parts.take k)) ∧ Below w3.heap.size w3 wr) (fun _ i _ => parts.length - (intOf i).toNat)
      case atStart => exact ⟨0, _, _, Nat.zero_le _, rfl, rfl, HO1.out, HB1.out⟩
      case round =>
        obtain ⟨k, As, cs, hk, rfl, rfl, hown, hb⟩ := hrel
        have HO := Lib.hid hown
        have HB := Lib.hid hb
        by_cases hm : k < parts.length
        · obtain ⟨b, o, hA, hbb, hx⟩ := SeqAt.at_ (HP.out.parts hb) (getD_some (d := default) hm)
          subst hA
          have hsn := join_snoc hm
          have hle := join_len parts (k + 1)
          obtain ⟨p, hpd⟩ : ∃ p, p = parts.getD k default := ⟨_, rfl⟩
          rw [← hpd] at hx hsn
          obtain ⟨x0, xa⟩ := hx
          rw [Nat.mul_one] at x0
          have hl : (joinM (parts.take (k + 1))).length = (joinM (parts.take k)).length + p.l.length := by rw [hsn, List.length_append]
          have HAP := Lib.hid (fun ty => app_part (ty := ty) wr w3 w3.heap.size cs As (joinM (parts.take k)) p hown xa (by rw [← HM.out] at hle; omega) hb.size hb)
          have HSN := Lib.hid hsn
          rw [← hsn] at HAP
          obtain ⟨J, hJ⟩ : ∃ J, J = joinM (parts.take k) := ⟨_, rfl⟩
          rw [← hJ] at HAP HO ⊢
          obtain ⟨J', hJ'⟩ : ∃ J', J' = joinM (parts.take (k + 1)) := ⟨_, rfl⟩
          rw [← hJ'] at HAP
          have HJ' := Lib.hid hJ'
          have j0 : (0 : Int) ≤ (k : Int) := by omega
          have j1 : (k : Int) < (parts.length : Int) := by omega
          obtain ⟨pA, pc, pl⟩ := p
          dsimp only at x0 HAP
          clear hpd hsn hJ hJ' hl hle hown hb HSN
          go_wp2_with (at_builtin; refine (wpList_append_run _ rfl (.tmp 31) (.tmp 32) 49 rfl (.slice As J.length cs) (.slice pA pl.length pc) rfl rfl (HAP.out _) ?_); rintro v1 w2 ⟨A2, c2, rfl, hown2, hb2⟩; have HO2 := Lib.hid hown2; have HB2 := Lib.hid hb2; clear hown2 hb2)
          go_roundw
          case rel => exact ⟨k + 1, A2, c2, by omega, by go_num, by rw [← HJ'.out], by rw [← HJ'.out]; exact HO2.out, HB2.out⟩
          case measure => simp [intOf]; omega
        · have hke : k = parts.length := by omega
          subst hke
          rw [List.take_length] at HO ⊢
          clear hown hb
          go_wp2
          go_ret
          exact ⟨As, cs, rfl, HO.out, HB.out⟩
end Go.Proofs.YtambkjnhfejfaabDoor

namespace Go.Proofs.YtambkjnhfejfaabDoor
open Go.RowKit

theorem WoInX.less {w : World} {X X' : Nat → Prop} {RA CA : Option Addr} {n rc m cc : Nat} {wo : WoM} (h : WoInX w X RA n rc CA m cc wo) (hX : ∀ b, X' b → X b) : WoInX w X' RA n rc CA m cc wo :=
  ⟨h.hn, h.hrc, h.rows.rows (fun _ hp => ⟨hp.1, fun e => hp.2 (hX _ e)⟩) (fun _ _ _ => rfl), h.hm, h.hcc, h.cls.cls (fun _ hp => ⟨hp.1, fun e => hp.2 (hX _ e)⟩) (fun _ _ _ => rfl), h.ck⟩
/-- What a round of txn.Run finds. -/
structure RunInv (w : World) (N : Nat) (l : List ActM) (k : Nat) (wr : World) : Prop where
  bel : Below w.heap.size w wr
  lt : w.heap.size + 1 + 1 + 1 < wr.heap.size
  wo : ∃ RA n rc CA m cc, WoInX wr (fun b => b ≤ w.heap.size ∨ b = w.heap.size + 1 + 1 ∨ b = w.heap.size + 1 + 1 + 1) RA n rc CA m cc (runWo (startW N) (l.take k)) ∧ wr.cell? ⟨w.heap.size + 1 + 1, 0, none⟩ = some (.slice RA n rc) ∧ wr.cell? ⟨w.heap.size + 1 + 1, 1, none⟩ = some (.int .i64 (runWo (startW N) (l.take k)).clock) ∧ wr.cell? ⟨w.heap.size + 1 + 1, 2, none⟩ = some (.slice CA m cc)
  fb : ∀ o, wr.frozen? ⟨w.heap.size + 1 + 1, o, none⟩ = false
  ans : AnsDone (w.heap.size + 1 + 1 + 1) l.length (runAns (startW N) (l.take k)) wr
  r : wr.cell? ⟨w.heap.size, 0, none⟩ = some (.slice none 0 0) ∧ wr.cell? ⟨w.heap.size, 1, none⟩ = some (.int .i64 0) ∧ wr.cell? ⟨w.heap.size, 2, none⟩ = some (.slice none 0 0)
  rf : ∀ o, wr.frozen? ⟨w.heap.size, o, none⟩ = false
section
variable {w wr w' : World} {N k : Nat} {l : List ActM} {a : ActM}
theorem RunInv.upto (h : RunInv w N l k wr) (hb : Below wr.heap.size wr w') : RunInv w N l k w' := by
  obtain ⟨hc, hf⟩ := bcell hb
  have hlt := h.lt
  obtain ⟨RA, n, rc, CA, m, cc, h1, h2, h3, h4⟩ := h.wo
  exact ⟨below_next h.bel hb, Nat.lt_of_lt_of_le h.lt hb.size, ⟨RA, n, rc, CA, m, cc, h1.upto hb, (hc _ _ (by omega)).trans h2, (hc _ _ (by omega)).trans h3, (hc _ _ (by omega)).trans h4⟩, fun o => (hf _ _ (by omega)).trans (h.fb o), h.ans.kept (hb.block _ hlt), ⟨(hc _ _ (by omega)).trans h.r.1, (hc _ _ (by omega)).trans h.r.2.1, (hc _ _ (by omega)).trans h.r.2.2⟩, fun o => (hf _ _ (by omega)).trans (h.rf o)⟩
theorem take_one (hk : l[k]? = some a) : l.take (k + 1) = l.take k ++ [a] := by rw [List.take_add_one, hk]; rfl
theorem RunInv.len (hk : l[k]? = some a) : (runAns (startW N) (l.take k)).length = k := by
  have := (List.getElem?_eq_some_iff.1 hk).1
  rw [runAns_length, List.length_take]; omega
theorem RunInv.err (h : RunInv w N l k wr) (hk : l[k]? = some a) {E : Int} (hE : E = actE (runWo (startW N) (l.take k)) a) (h0 : E ≠ 0) :
    RunInv w N l (k + 1) (set5 wr (w.heap.size + 1 + 1 + 1) (k * 5) (.int .i64 E) (.bool false) (.string ⟨#[]⟩) (.int .i64 0) (.int .i64 0)) := by
  have hkl := (List.getElem?_eq_some_iff.1 hk).1
  have hlen := RunInv.len (N := N) hk
  have hA : runA (runWo (startW N) (l.take k)) a = (runWo (startW N) (l.take k), ansCode E) := by rw [runA, if_neg (by rw [← hE]; exact h0), ← hE]
  have hs := set5_same wr (w.heap.size + 1 + 1 + 1) (k * 5) (.int .i64 E) (.bool false) (.string ⟨#[]⟩) (.int .i64 0) (.int .i64 0)
  have hc : ∀ b o, b ≠ w.heap.size + 1 + 1 + 1 → (set5 wr (w.heap.size + 1 + 1 + 1) (k * 5) (.int .i64 E) (.bool false) (.string ⟨#[]⟩) (.int .i64 0) (.int .i64 0)).cell? ⟨b, o, none⟩ = wr.cell? ⟨b, o, none⟩ := fun b o hb => hs.cell _ fun e => hb e.1
  obtain ⟨RA, n, rc, CA, m, cc, h1, h2, h3, h4⟩ := h.wo
  have hd := h.ans.step (by rw [hlen]; exact hkl) (ansCode E)
  rw [hlen] at hd
  refine ⟨below_set5 h.bel (by omega) _ _ _ _ _ _, by rw [hs.sz]; exact h.lt, ?_, fun o => (hs.fr _).trans (h.fb o), ?_, ⟨(hc _ _ (by omega)).trans h.r.1, (hc _ _ (by omega)).trans h.r.2.1, (hc _ _ (by omega)).trans h.r.2.2⟩, fun o => (hs.fr _).trans (h.rf o)⟩
  · rw [take_one hk, runWo_snoc, hA]
    exact ⟨RA, n, rc, CA, m, cc, h1.same hs (fun p e => .inr (.inr e.1)), (hc _ _ (by omega)).trans h2, (hc _ _ (by omega)).trans h3, (hc _ _ (by omega)).trans h4⟩
  · rw [take_one hk, runAns_snoc, hA]; exact hd
theorem RunInv.ok (h : RunInv w N l k wr) (hk : l[k]? = some a) (he : actE (runWo (startW N) (l.take k)) a = 0) {RA CA : Option Addr} {n rc m cc : Nat} {P : WoM × AnsM} (hP : P = doW (runWo (startW N) (l.take k)) a) (hw : WoInX wr (fun b => b ≤ w.heap.size ∨ b = w.heap.size + 1 + 1 ∨ b = w.heap.size + 1 + 1 + 1) RA n rc CA m cc P.1) :
    RunInv w N l (k + 1) (set5 (set3 wr (w.heap.size + 1 + 1) (.slice RA n rc) (.int .i64 P.1.clock) (.slice CA m cc)) (w.heap.size + 1 + 1 + 1) (k * 5) (.int .i64 P.2.code) (.bool P.2.is) (.string P.2.val) (.int .i64 P.2.ph) (.int .i64 P.2.time)) := by
  have hkl := (List.getElem?_eq_some_iff.1 hk).1
  have hlen := RunInv.len (N := N) hk
  have hA : runA (runWo (startW N) (l.take k)) a = P := by rw [runA, if_pos he, hP]
  have hs3 := set3_same wr (w.heap.size + 1 + 1) (.slice RA n rc) (.int .i64 P.1.clock) (.slice CA m cc)
  obtain ⟨V, hV⟩ : ∃ V, V = set3 wr (w.heap.size + 1 + 1) (.slice RA n rc) (.int .i64 P.1.clock) (.slice CA m cc) := ⟨_, rfl⟩
  obtain ⟨_, _, _, _, _, _, _, h2, h3, h4⟩ := h.wo
  obtain ⟨b0, b1, b2⟩ := set3_at h2 h3 h4 (.slice RA n rc) (.int .i64 P.1.clock) (.slice CA m cc)
  have hbV : Below w.heap.size w V := by
    rw [hV]
    exact (((h.bel.setCell (by show w.heap.size ≤ w.heap.size + 1 + 1; omega) _).setCell (by show w.heap.size ≤ w.heap.size + 1 + 1; omega) _).setCell (by show w.heap.size ≤ w.heap.size + 1 + 1; omega) _)
  have hansV : AnsDone (w.heap.size + 1 + 1 + 1) l.length (runAns (startW N) (l.take k)) V := h.ans.kept (by rw [hV]; exact set3_heap _ _ _ _ _ (by omega))
  rw [← hV] at hs3 b0 b1 b2 ⊢
  have hs := set5_same V (w.heap.size + 1 + 1 + 1) (k * 5) (.int .i64 P.2.code) (.bool P.2.is) (.string P.2.val) (.int .i64 P.2.ph) (.int .i64 P.2.time)
  have hc : ∀ b o, b ≠ w.heap.size + 1 + 1 + 1 → (set5 V (w.heap.size + 1 + 1 + 1) (k * 5) (.int .i64 P.2.code) (.bool P.2.is) (.string P.2.val) (.int .i64 P.2.ph) (.int .i64 P.2.time)).cell? ⟨b, o, none⟩ = V.cell? ⟨b, o, none⟩ := fun b o hb => hs.cell _ fun e => hb e.1
  have hc3 : ∀ b o, b ≠ w.heap.size + 1 + 1 → V.cell? ⟨b, o, none⟩ = wr.cell? ⟨b, o, none⟩ := fun b o hb => hs3.cell _ fun e => hb e
  have hd := hansV.step (by rw [hlen]; exact hkl) P.2
  rw [hlen] at hd
  refine ⟨below_set5 hbV (by omega) _ _ _ _ _ _, by rw [hs.sz, hs3.sz]; exact h.lt, ?_, fun o => ((hs.fr _).trans (hs3.fr _)).trans (h.fb o), ?_, ⟨((hc _ _ (by omega)).trans (hc3 _ _ (by omega))).trans h.r.1, ((hc _ _ (by omega)).trans (hc3 _ _ (by omega))).trans h.r.2.1, ((hc _ _ (by omega)).trans (hc3 _ _ (by omega))).trans h.r.2.2⟩, fun o => ((hs.fr _).trans (hs3.fr _)).trans (h.rf o)⟩
  · rw [take_one hk, runWo_snoc, hA]
    exact ⟨RA, n, rc, CA, m, cc, (hw.same hs3 (fun p e => .inr (.inl e))).same hs (fun p e => .inr (.inr e.1)), (hc _ _ (by omega)).trans b0, (hc _ _ (by omega)).trans b1, (hc _ _ (by omega)).trans b2⟩
  · rw [take_one hk, runAns_snoc, hA]; exact hd
end

/-- What txn.Run returns. -/
def RunOut (N : Int) (l : List ActM) (w : World) (e : Ending) (w' : World) : Prop :=
  Below w.heap.size w w' ∧ ((inB N 1 5 = false ∧ e = .returned (.tuple #[.slice none 0 0, woV none 0 0 0 none 0 0, .int .i64 2])) ∨
    (inB N 1 5 = true ∧ 400 < l.length ∧ e = .returned (.tuple #[.slice none 0 0, woV none 0 0 0 none 0 0, .int .i64 1])) ∨
    (inB N 1 5 = true ∧ l.length ≤ 400 ∧ ∃ g RA n rc CA m cc, e = .returned (.tuple #[.slice (some ⟨g, 0, none⟩) l.length l.length, woV RA n rc (runWo (startW N.toNat) l).clock CA m cc, .int .i64 0]) ∧ WoInX w' (fun b => b < w.heap.size) RA n rc CA m cc (runWo (startW N.toNat) l) ∧ AnsDone g l.length (runAns (startW N.toNat) l) w' ∧ w.heap.size ≤ g))
theorem world_new (w : World) : ∃ W0, W0 = w.alloc (.cells #[.slice none 0 0, .int .i64 0, .slice none 0 0] 67) ∧ Below w.heap.size w W0 ∧ W0.cell? ⟨w.heap.size, 0, none⟩ = some (.slice none 0 0) ∧ W0.cell? ⟨w.heap.size, 1, none⟩ = some (.int .i64 0) ∧ W0.cell? ⟨w.heap.size, 2, none⟩ = some (.slice none 0 0) :=
  ⟨_, rfl, below_alloc (Below.refl _ _) _, by simp, by simp, by simp⟩
set_option maxRecDepth 100000 in
set_option maxHeartbeats 4000000 in
theorem run_range (N : Int) (A : Option Addr) (l : List ActM) (c : Nat) (w : World) (hN : inB N 1 5 = false) :
    Calls Tryd.prog 33 #[.int .i64 N, .slice A l.length c] w (RunOut N l w) := by
  obtain ⟨W0, hW, hb0, p0, p1, p2⟩ := world_new w
  have HB := Lib.hid hb0
  have HN := Lib.hid hN
  have hN' := inB_false.1 hN
  rcases hN' with h | h
  · have q0 : decide (N < 1) = true := decide_eq_true h
    rw [hW] at p0 p1 p2 HB
    clear hb0 hN h hW
    go_enter Tryd.func33, Tryd.ntmps33
    go_wp2
    exact bodyPost_ret (v := .tuple #[.slice none 0 0, woV none 0 0 0 none 0 0, .int .i64 2]) (by simp [results, Tryd.results33, go_sem]) rfl ⟨HB.out, .inl ⟨HN.out, rfl⟩⟩
  · have q0 : decide (N < 1) = false := decide_eq_false (by omega)
    have q1 : decide (5 < N) = true := decide_eq_true h
    rw [hW] at p0 p1 p2 HB
    clear hb0 hN h hW
    go_enter Tryd.func33, Tryd.ntmps33
    go_wp2
    exact bodyPost_ret (v := .tuple #[.slice none 0 0, woV none 0 0 0 none 0 0, .int .i64 2]) (by simp [results, Tryd.results33, go_sem]) rfl ⟨HB.out, .inl ⟨HN.out, rfl⟩⟩
set_option maxRecDepth 100000 in
set_option maxHeartbeats 4000000 in
theorem run_size (N : Int) (A : Option Addr) (l : List ActM) (c : Nat) (w : World) (hN : inB N 1 5 = true) (hl : 400 < l.length) :
    Calls Tryd.prog 33 #[.int .i64 N, .slice A l.length c] w (RunOut N l w) := by
  obtain ⟨W0, hW, hb0, p0, p1, p2⟩ := world_new w
  have HB := Lib.hid hb0
  have HN := Lib.hid hN
  have hN' := inB_true.1 hN
  have q0 : decide (N < 1) = false := decide_eq_false (by omega)
  have q1 : decide (5 < N) = false := decide_eq_false (by omega)
  have q2 : decide ((400 : Int) < (l.length : Int)) = true := decide_eq_true (by omega)
  rw [hW] at p0 p1 p2 HB
  clear hb0 hN hW
  go_enter Tryd.func33, Tryd.ntmps33
  go_wp2
  exact bodyPost_ret (v := .tuple #[.slice none 0 0, woV none 0 0 0 none 0 0, .int .i64 1]) (by simp [results, Tryd.results33, go_sem]) rfl ⟨HB.out, .inr (.inl ⟨HN.out, hl, rfl⟩)⟩
theorem run_boxes (w : World) (m : Nat) (Z Z' : Array Value) : ∃ W, W = (((w.alloc (.cells #[.slice none 0 0, .int .i64 0, .slice none 0 0] 67)).alloc (.cells Z 109)).alloc (.cells #[.slice none 0 0, .int .i64 0, .slice (some ⟨w.heap.size + 1, 0, none⟩) m m] 67)).alloc (.cells Z' 59) ∧ Below w.heap.size w W ∧ W.heap.size = w.heap.size + 4 ∧
    W.heap[w.heap.size]? = some (.cells #[.slice none 0 0, .int .i64 0, .slice none 0 0] 67) ∧ W.heap[w.heap.size + 1]? = some (.cells Z 109) ∧ W.heap[w.heap.size + 1 + 1]? = some (.cells #[.slice none 0 0, .int .i64 0, .slice (some ⟨w.heap.size + 1, 0, none⟩) m m] 67) ∧ W.heap[w.heap.size + 1 + 1 + 1]? = some (.cells Z' 59) := by
  obtain ⟨h1, h2, h3⟩ := three_blocks w (.cells #[.slice none 0 0, .int .i64 0, .slice none 0 0] 67) (.cells Z 109) (.cells #[.slice none 0 0, .int .i64 0, .slice (some ⟨w.heap.size + 1, 0, none⟩) m m] 67)
  obtain ⟨V, hV⟩ : ∃ V, V = ((w.alloc (.cells #[.slice none 0 0, .int .i64 0, .slice none 0 0] 67)).alloc (.cells Z 109)).alloc (.cells #[.slice none 0 0, .int .i64 0, .slice (some ⟨w.heap.size + 1, 0, none⟩) m m] 67) := ⟨_, rfl⟩
  have s3 : V.heap.size = w.heap.size + 3 := by rw [hV]; simp
  have hb3 : Below w.heap.size w V := by rw [hV]; exact below_alloc (below_alloc (below_alloc (Below.refl _ _) _) _) _
  rw [← hV] at h1 h2 h3 ⊢
  have h4 := heap_alloc_new V (.cells Z' 59)
  rw [s3] at h4
  exact ⟨_, rfl, below_alloc hb3 _, by rw [World.size_alloc, s3], (Below.heap_alloc _ _ _ (by rw [s3]; omega)).trans h1, (Below.heap_alloc _ _ _ (by rw [s3]; omega)).trans h2, (Below.heap_alloc _ _ _ (by rw [s3]; omega)).trans h3, h4⟩
theorem next_boxes (w : World) (v0 v1 v2 a0 a1 a2 a3 a4 : Value) : ∃ W, W = (w.alloc (.cells #[v0, v1, v2] 67)).alloc (.cells #[a0, a1, a2, a3, a4] 59) ∧ Below w.heap.size w W ∧ W.cell? ⟨w.heap.size, 0, none⟩ = some v0 ∧ W.cell? ⟨w.heap.size, 1, none⟩ = some v1 ∧ W.cell? ⟨w.heap.size, 2, none⟩ = some v2 ∧
    W.cell? ⟨w.heap.size + 1, 0, none⟩ = some a0 ∧ W.cell? ⟨w.heap.size + 1, 1, none⟩ = some a1 ∧ W.cell? ⟨w.heap.size + 1, 2, none⟩ = some a2 ∧ W.cell? ⟨w.heap.size + 1, 3, none⟩ = some a3 ∧ W.cell? ⟨w.heap.size + 1, 4, none⟩ = some a4 :=
  ⟨_, rfl, below_alloc (below_alloc (Below.refl _ _) _) _, by simp, by simp, by simp, by simp, by simp, by simp, by simp, by simp⟩
set_option maxRecDepth 100000 in
set_option maxHeartbeats 4000000 in
theorem run_ok (N : Nat) (A : Option Addr) (l : List ActM) (c : Nat) (w : World) (hN : inB (N : Int) 1 5 = true) (hl : l.length ≤ 400) (hact : ActsAt w (· < w.heap.size) A l) :
    Calls Tryd.prog 33 #[.int .i64 (N : Int), .slice A l.length c] w (RunOut (N : Int) l w) := by
  have HN := Lib.hid hN
  have hN' := inB_true.1 hN
  have q0 : decide ((N : Int) < 1) = false := decide_eq_false (by omega)
  have q1 : decide (5 < (N : Int)) = false := decide_eq_false (by omega)
  have q2 : decide ((400 : Int) < (l.length : Int)) = false := decide_eq_false (by omega)
  obtain ⟨Z, hZ, hZs, hmk⟩ := make_cls N (by omega)
  obtain ⟨Z', hZ', hmk'⟩ := make_ans l.length hl
  obtain ⟨W4, hW4, hb4, hs4, e0, e1, e2, e3⟩ := run_boxes w N Z Z'
  have inv0 : RunInv w N l 0 W4 := by
    refine ⟨hb4, by omega, ⟨none, 0, 0, some ⟨w.heap.size + 1, 0, none⟩, N, N, ?_, ?_, ?_, ?_⟩, fun o => Joins.unfrozen_of_block e2 _, ⟨⟨Z', e3, hZ'⟩, fun i x hx => ?_⟩, ⟨?_, ?_, ?_⟩, fun o => Joins.unfrozen_of_block e0 _⟩
    · exact start_in W4 N (by omega) Z hZ e1 _ (by omega)
    · rw [Joins.cell_of_block e2]; rfl
    · rw [Joins.cell_of_block e2]; rfl
    · rw [Joins.cell_of_block e2]; rfl
    · simp [runAns] at hx
    · rw [Joins.cell_of_block e0]; rfl
    · rw [Joins.cell_of_block e0]; rfl
    · rw [Joins.cell_of_block e0]; rfl
  have HI0 := Lib.hid inv0
  have HW4 := Lib.hid hW4
  have HA := Lib.hid hact
  clear hN hZ hZs hZ' hW4 hb4 hs4 e0 e1 e2 e3 inv0 hact
  go_enter Tryd.func33, Tryd.ntmps33
  go_wp2
  go_loopw [33] (fun i wr => ∃ k : Nat, k ≤ l.length ∧ i = .int .i64 k ∧ RunInv w N l k wr) (fun i _ => l.length - (intOf i).toNat)
  case atStart =>
    refine ⟨0, Nat.zero_le _, rfl, ?_⟩
    rw [← HW4.out]
    exact HI0.out
  case round =>
    obtain ⟨k, hk, rfl, hinv⟩ := hrel
    by_cases hm : k < l.length
    · have hget : l[k]? = some (l.getD k default) := getD_some hm
      obtain ⟨a, ha⟩ : ∃ a, a = l.getD k default := ⟨_, rfl⟩
      rw [← ha] at hget
      have hactr : ActsAt wr (· < wr.heap.size) A l := HA.out.acts (fun b hb => Nat.lt_of_lt_of_le hb hinv.bel.size) (fun b k hb => hinv.bel.cell (p := ⟨b, k, none⟩) hb)
      obtain ⟨b, o, rfl, hbb, hat⟩ := SeqAt.at_ hactr hget
      obtain ⟨RA, n, rc, CA, m, cc, hwo, x0, x1, x2⟩ := hinv.wo
      obtain ⟨WO, hWO⟩ : ∃ WO, WO = runWo (startW N) (l.take k) := ⟨_, rfl⟩
      rw [← hWO] at hwo x1
      have d0 := hat.k
      have d1 := hat.c
      have d2 := hat.y
      have d3 := hat.v
      have hok := Lib.hid hat.ok
      have HG := Lib.hid hget
      have HV := Lib.hid hinv
      have HWO := Lib.hid hWO
      have HWI := Lib.hid hwo
      have hlt := hinv.lt
      have hlt2 : w.heap.size + 1 + 1 < wr.heap.size := by omega
      have j0 : (0 : Int) ≤ (k : Int) := by omega
      obtain ⟨kind, ac, key, val⟩ := a
      dsimp only at d0 d1 d2 d3
      clear ha hget hactr hat hinv hwo hWO
      go_wp2_with fail
      have hal : Below wr.heap.size wr (wr.alloc (.cells #[.int .i64 kind, .int .i64 ac, .string key, .string val] 52)) := below_alloc (Below.refl _ _) _
      refine (do_any WO ⟨kind, ac, key, val⟩ RA n rc CA m cc _ (HWI.out.upto hal).in_ hok.out.1 hok.out.2).mono ?_
      rintro e w1 ⟨hb1, hor⟩
      have hb01 : Below wr.heap.size wr w1 := below_next hal hb1
      have inv1 := HV.out.upto hb01
      have hlen := RunInv.len (N := N) HG.out
      obtain ⟨u0, e0, f0⟩ := inv1.ans.cell (by rw [hlen]; exact hm) 0 (by omega)
      obtain ⟨u1, e1, f1⟩ := inv1.ans.cell (by rw [hlen]; exact hm) 1 (by omega)
      obtain ⟨u2, e2, f2⟩ := inv1.ans.cell (by rw [hlen]; exact hm) 2 (by omega)
      obtain ⟨u3, e3, f3⟩ := inv1.ans.cell (by rw [hlen]; exact hm) 3 (by omega)
      obtain ⟨u4, e4, f4⟩ := inv1.ans.cell (by rw [hlen]; exact hm) 4 (by omega)
      rw [hlen] at e0 f0 e1 f1 e2 f2 e3 f3 e4 f4
      have e0 : w1.cell? ⟨w.heap.size + 1 + 1 + 1, k * 5, none⟩ = some u0 := e0
      have f0 : w1.frozen? ⟨w.heap.size + 1 + 1 + 1, k * 5, none⟩ = false := f0
      have k1 := Nat.lt_of_lt_of_le hlt hb01.size
      have k2 : w.heap.size + 1 + 1 < w1.heap.size := by omega
      rcases hor with ⟨hne, rfl⟩ | ⟨hz, bR, rc', bC, wb', rfl, hrc', hco⟩
      · obtain ⟨E, hE⟩ : ∃ E, E = actE WO ⟨kind, ac, key, val⟩ := ⟨_, rfl⟩
        have q3 : (E != 0) = true := by rw [hE]; simpa using hne
        have HE := Lib.hid (show E = actE (runWo (startW N) (l.take k)) ⟨kind, ac, key, val⟩ by rw [hE, HWO.out])
        have HNE := Lib.hid (show E ≠ 0 by rw [hE]; exact hne)
        have HV1 := Lib.hid inv1
        rw [← hE]
        clear inv1 hne hE hb1 hb01 hlen hal d0 d1 d2 d3 x0 x1 x2
        go_wp2
        go_roundw
        case rel =>
          refine ⟨k + 1, by omega, by go_num, ?_⟩
          exact ((HV1.out.err HG.out HE.out HNE.out).upto (below_alloc (below_alloc (Below.refl _ _) _) _))
        case measure => simp [intOf]; omega
      · obtain ⟨P, hP⟩ : ∃ P, P = doW WO ⟨kind, ac, key, val⟩ := ⟨_, rfl⟩
        rw [← hP] at hrc' hco ⊢
        have hX : WoInX w1 (fun b => b ≤ w.heap.size ∨ b = w.heap.size + 1 + 1 ∨ b = w.heap.size + 1 + 1 + 1) (some ⟨bR, 0, none⟩) P.1.rows.length rc' (some ⟨bC, 0, none⟩) P.1.cls.length P.1.cls.length P.1 := by
          refine hco.inX (fun b h e => h ?_) hrc' (Nat.le_refl _)
          have hsa : (wr.alloc (.cells #[.int .i64 kind, .int .i64 ac, .string key, .string val] 52)).heap.size = wr.heap.size + 1 := by simp
          show b < _
          rw [hsa]
          omega
        have HP := Lib.hid (show P = doW (runWo (startW N) (l.take k)) ⟨kind, ac, key, val⟩ by rw [hP, HWO.out])
        have HZ := Lib.hid (show actE (runWo (startW N) (l.take k)) ⟨kind, ac, key, val⟩ = 0 by rw [← HWO.out]; exact hz)
        have HV1 := Lib.hid inv1
        have HX := Lib.hid hX
        obtain ⟨y0, y1, y2⟩ : w1.cell? ⟨w.heap.size + 1 + 1, 0, none⟩ = some (.slice RA n rc) ∧ w1.cell? ⟨w.heap.size + 1 + 1, 1, none⟩ = some (.int .i64 WO.clock) ∧ w1.cell? ⟨w.heap.size + 1 + 1, 2, none⟩ = some (.slice CA m cc) :=
          ⟨(hb01.cell (p := ⟨w.heap.size + 1 + 1, 0, none⟩) hlt2).trans x0, (hb01.cell (p := ⟨w.heap.size + 1 + 1, 1, none⟩) hlt2).trans x1, (hb01.cell (p := ⟨w.heap.size + 1 + 1, 2, none⟩) hlt2).trans x2⟩
        have g0 := inv1.fb 0
        have g1 := inv1.fb 1
        have g2 := inv1.fb 2
        clear inv1 hz hP hb1 hb01 hlen hal d0 d1 d2 d3 x0 x1 x2 hX hco hrc'
        obtain ⟨P1, a0, a1, a2, a3, a4⟩ := P
        dsimp only at HX
        obtain ⟨W3, hW3, hb3, b0, b1, b2, c0, c1, c2, c3, c4⟩ := next_boxes w1 (.slice (some ⟨bR, 0, none⟩) P1.rows.length rc') (.int .i64 P1.clock) (.slice (some ⟨bC, 0, none⟩) P1.cls.length P1.cls.length) (.int .i64 a0) (.bool a1) (.string a2) (.int .i64 a3) (.int .i64 a4)
        obtain ⟨hc3, hf3⟩ := bcell hb3
        have y0 := (hc3 _ _ k2).trans y0
        have y1 := (hc3 _ _ k2).trans y1
        have y2 := (hc3 _ _ k2).trans y2
        have g0 := (hf3 _ _ k2).trans g0
        have g1 := (hf3 _ _ k2).trans g1
        have g2 := (hf3 _ _ k2).trans g2
        have e0 := (hc3 _ _ k1).trans e0
        have e1 := (hc3 _ _ k1).trans e1
        have e2 := (hc3 _ _ k1).trans e2
        have e3 := (hc3 _ _ k1).trans e3
        have e4 := (hc3 _ _ k1).trans e4
        have f0 := (hf3 _ _ k1).trans f0
        have f1 := (hf3 _ _ k1).trans f1
        have f2 := (hf3 _ _ k1).trans f2
        have f3 := (hf3 _ _ k1).trans f3
        have f4 := (hf3 _ _ k1).trans f4
        have n1 : w.heap.size + 1 + 1 ≠ w1.heap.size := by omega
        have n2 : w.heap.size + 1 + 1 ≠ w1.heap.size + 1 := by omega
        have n3 : w.heap.size + 1 + 1 + 1 ≠ w1.heap.size := by omega
        have n4 : w.heap.size + 1 + 1 + 1 ≠ w1.heap.size + 1 := by omega
        have HB3 := Lib.hid hb3
        have HW3 := Lib.hid hW3
        clear hW3 hb3 hc3 hf3
        go_wp2
        rw [← HW3.out]
        go_region
        go_wp2
        go_roundw
        case rel =>
          refine ⟨k + 1, by omega, by go_num, ?_⟩
          exact (((HV1.out.upto HB3.out).ok HG.out HZ.out HP.out (HX.out.upto HB3.out)).upto (below_drew (Below.refl _ _)))
        case measure => simp [intOf]; omega
    · have hke : k = l.length := by omega
      subst hke
      have htk : l.take l.length = l := List.take_length
      obtain ⟨RA, n, rc, CA, m, cc, hwo, x0, x1, x2⟩ := hinv.wo
      have hans := hinv.ans
      rw [htk] at hwo x1 hans
      obtain ⟨r0, r1, r2⟩ := hinv.r
      have g0 := hinv.rf 0
      have g1 := hinv.rf 1
      have g2 := hinv.rf 2
      obtain ⟨WO, hWO⟩ : ∃ WO, WO = runWo (startW N) l := ⟨_, rfl⟩
      rw [← hWO] at hwo x1
      have HWO := Lib.hid hWO
      have HWI := Lib.hid hwo
      have HV := Lib.hid hinv
      have HAN := Lib.hid hans
      have n1 : w.heap.size ≠ w.heap.size + 1 + 1 := by omega
      have n2 : w.heap.size + 1 + 1 ≠ w.heap.size := by omega
      clear hwo hWO hinv hans htk
      go_wp2
      go_region
      obtain ⟨m0, m1, m2⟩ := set3_at r0 r1 r2 (.slice RA n rc) (.int .i64 WO.clock) (.slice CA m cc)
      have hs := set3_same wr w.heap.size (.slice RA n rc) (.int .i64 WO.clock) (.slice CA m cc)
      have hg := set3_heap wr w.heap.size (.slice RA n rc) (.int .i64 WO.clock) (.slice CA m cc) (k := w.heap.size + 1 + 1 + 1) (by omega)
      have hbel : Below w.heap.size w (set3 wr w.heap.size (.slice RA n rc) (.int .i64 WO.clock) (.slice CA m cc)) := ((HV.out.bel.setCell (Nat.le_refl w.heap.size) _).setCell (Nat.le_refl w.heap.size) _).setCell (Nat.le_refl w.heap.size) _
      obtain ⟨V, hV⟩ : ∃ V, V = set3 wr w.heap.size (.slice RA n rc) (.int .i64 WO.clock) (.slice CA m cc) := ⟨_, rfl⟩
      rw [← hV] at m0 m1 m2 hs hg hbel
      have hV' : V = ((wr.setCell ⟨w.heap.size, 0, none⟩ (.slice RA n rc)).setCell ⟨w.heap.size, 1, none⟩ (.int .i64 WO.clock)).setCell ⟨w.heap.size, 2, none⟩ (.slice CA m cc) := hV
      rw [← hV']
      have HWV := Lib.hid ((HWI.out.same hs (fun p e => .inl (Nat.le_of_eq e))).upto (below_drew (Below.refl _ _)))
      have HAV := Lib.hid (((HAN.out.kept hg).kept (show V.drew.heap[w.heap.size + 1 + 1 + 1]? = V.heap[w.heap.size + 1 + 1 + 1]? from rfl)))
      have HBV := Lib.hid (below_drew hbel)
      have HRES := Lib.hid (show (N : Int).toNat = N from Int.toNat_natCast N)
      clear hV hV' hs hg hbel r0 r1 r2 x0 x1 x2
      go_wp2
      refine bodyPost_ret (v := .tuple #[.slice (some ⟨w.heap.size + 1 + 1 + 1, 0, none⟩) l.length l.length, woV RA n rc WO.clock CA m cc, .int .i64 0]) (by simp [results, Tryd.results33, go_sem, m0, m1, m2]) rfl ⟨HBV.out, .inr (.inr ⟨HN.out, hl, w.heap.size + 1 + 1 + 1, RA, n, rc, CA, m, cc, ?_, ?_, ?_, by omega⟩)⟩
      · rw [HRES.out, ← HWO.out]
      · rw [HRES.out, ← HWO.out]; exact HWV.out.less fun b e => .inl (Nat.le_of_lt e)
      · rw [HRES.out]; exact HAV.out
theorem run_any (N : Int) (A : Option Addr) (l : List ActM) (c : Nat) (w : World) (hact : ActsAt w (· < w.heap.size) A l) :
    Calls Tryd.prog 33 #[.int .i64 N, .slice A l.length c] w (RunOut N l w) := by
  cases hN : inB N 1 5 with
  | false => exact run_range N A l c w hN
  | true =>
    by_cases hl : 400 < l.length
    · exact run_size N A l c w hN hl
    · obtain ⟨n, hn⟩ : ∃ n : Nat, N = n := ⟨N.toNat, by have := inB_true.1 hN; omega⟩
      subst hn
      exact run_ok n A l c w hN (by omega) hact
end Go.Proofs.YtambkjnhfejfaabDoor
