/-
  Contracts of functions of the program and words for memory, several texts in one: RefCopy, TPure, TMem, TOwn, TCopyMem, TCopyCl, TCopy, TIns, TOpen, Seq. Conditions: those stated with each.
-/
import Derived.Test.YtambkjnhfejfaaaGreatG01
import Derived.Deep.RegionHeld3
import Derived.Lib.Bytealg
import Derived.IntWalk
namespace Go.Proofs.YtambkjnhfejfaaaGreat
open Go.RowKit
theorem boxT {W0 w' : World} {g : Nat} {v0 v1 v2 v3 v4 : Value} (h0 : W0.cell? ⟨g, 0, none⟩ = some v0) (h1 : W0.cell? ⟨g, 1, none⟩ = some v1) (h2 : W0.cell? ⟨g, 2, none⟩ = some v2) (h3 : W0.cell? ⟨g, 3, none⟩ = some v3)
 (h4 : W0.cell? ⟨g, 4, none⟩ = some v4) (hb : Below (g + 1) W0 w') :
 w'.cell? ⟨g, 0, none⟩ = some v0 ∧ w'.cell? ⟨g, 1, none⟩ = some v1 ∧ w'.cell? ⟨g, 2, none⟩ = some v2 ∧ w'.cell? ⟨g, 3, none⟩ = some v3 ∧ w'.cell? ⟨g, 4, none⟩ = some v4 ∧ Below (g + 1) W0 w' := by
 exact ⟨(hb.cell (p := ⟨g, 0, none⟩) (Nat.lt_succ_self g)).trans h0, (hb.cell (p := ⟨g, 1, none⟩) (Nat.lt_succ_self g)).trans h1, (hb.cell (p := ⟨g, 2, none⟩) (Nat.lt_succ_self g)).trans h2, (hb.cell (p := ⟨g, 3, none⟩) (Nat.lt_succ_self g)).trans h3, (hb.cell (p := ⟨g, 4, none⟩) (Nat.lt_succ_self g)).trans h4, hb⟩
structure ZeroRow (w : World) (g : Nat) : Prop where
 block : w.heap[g]? = some (.cells #[.string ⟨#[]⟩, .int .i64 0, .string ⟨#[]⟩, .string ⟨#[]⟩, .slice none 0 0] 45 (0, 0))
theorem ZeroRow.c0 {w : World} {g : Nat} (h : ZeroRow w g) : w.cell? ⟨g, 0, none⟩ = some (.string ⟨#[]⟩) := by rw [Joins.cell_of_block h.block]; rfl
theorem ZeroRow.c1 {w : World} {g : Nat} (h : ZeroRow w g) : w.cell? ⟨g, 1, none⟩ = some (.int .i64 0) := by rw [Joins.cell_of_block h.block]; rfl
theorem ZeroRow.c2 {w : World} {g : Nat} (h : ZeroRow w g) : w.cell? ⟨g, 2, none⟩ = some (.string ⟨#[]⟩) := by rw [Joins.cell_of_block h.block]; rfl
theorem ZeroRow.c3 {w : World} {g : Nat} (h : ZeroRow w g) : w.cell? ⟨g, 3, none⟩ = some (.string ⟨#[]⟩) := by rw [Joins.cell_of_block h.block]; rfl
theorem ZeroRow.c4 {w : World} {g : Nat} (h : ZeroRow w g) : w.cell? ⟨g, 4, none⟩ = some (.slice none 0 0) := by rw [Joins.cell_of_block h.block]; rfl
theorem ZeroRow.f {w : World} {g : Nat} (h : ZeroRow w g) (i : Nat) : w.frozen? ⟨g, i, none⟩ = false := Joins.unfrozen_of_block h.block i
theorem ZeroRow.keep {w w' : World} {g : Nat} (h : ZeroRow w g) (hk : w'.heap[g]? = w.heap[g]?) : ZeroRow w' g := ⟨hk.trans h.block⟩
theorem zero_facts {w : World} {g : Nat} (h : ZeroRow w g) : w.cell? ⟨g, 0, none⟩ = some (.string ⟨#[]⟩) ∧ w.cell? ⟨g, 1, none⟩ = some (.int .i64 0) ∧ w.cell? ⟨g, 2, none⟩ = some (.string ⟨#[]⟩) ∧ w.cell? ⟨g, 3, none⟩ = some (.string ⟨#[]⟩) ∧ w.cell? ⟨g, 4, none⟩ = some (.slice none 0 0) ∧
 w.frozen? ⟨g, 0, none⟩ = false ∧ w.frozen? ⟨g, 1, none⟩ = false ∧ w.frozen? ⟨g, 2, none⟩ = false ∧ w.frozen? ⟨g, 3, none⟩ = false ∧ w.frozen? ⟨g, 4, none⟩ = false :=
 ⟨h.c0, h.c1, h.c2, h.c3, h.c4, h.f 0, h.f 1, h.f 2, h.f 3, h.f 4⟩
set_option maxHeartbeats 4000000 in
theorem refCopy_any (key lp val : ByteArray) (ls : Int) (A : Option Addr) (n c : Nat) (l : List RecM) (w : World) (hn : n = l.length) (hl : RecsAt w w.heap.size A l) :
 Calls Tryz.prog 11 #[rowV key ls lp val A n c] w (RowOut key ls lp val l w) := by
 have hlen := hl.len
 subst hn
 obtain ⟨W0, hW0⟩ : ∃ W0, W0 = (w.alloc (.cells #[.string key, .int .i64 ls, .string lp, .string val, .slice A l.length c] 45)).alloc (.cells #[.string ⟨#[]⟩, .int .i64 0, .string ⟨#[]⟩, .string ⟨#[]⟩, .slice none 0 0] 45) := ⟨_, rfl⟩
 have hb0 : Below w.heap.size w W0 := by rw [hW0]; repeat (first | with_reducible exact Below.refl _ _ | assumption | with_reducible apply below_alloc | with_reducible apply below_drew | with_reducible apply below_drewN | (with_reducible apply below_next; rotate_left; assumption))
 have hs0 : W0.heap.size = w.heap.size + 2 := by rw [hW0]; simp
 have hz0 : ZeroRow W0 (w.heap.size + 1) := ⟨by
  have h := heap_alloc_new (w.alloc (.cells #[.string key, .int .i64 ls, .string lp, .string val, .slice A l.length c] 45)) (.cells #[.string ⟨#[]⟩, .int .i64 0, .string ⟨#[]⟩, .string ⟨#[]⟩, .slice none 0 0] 45)
  rw [hW0]; simpa using h⟩
 have k0 : W0.cell? ⟨w.heap.size, 0, none⟩ = some (.string key) := by rw [hW0]; simp
 have k1 : W0.cell? ⟨w.heap.size, 1, none⟩ = some (.int .i64 ls) := by rw [hW0]; simp
 have k2 : W0.cell? ⟨w.heap.size, 2, none⟩ = some (.string lp) := by rw [hW0]; simp
 have k3 : W0.cell? ⟨w.heap.size, 3, none⟩ = some (.string val) := by rw [hW0]; simp
 have k4 : W0.cell? ⟨w.heap.size, 4, none⟩ = some (.slice A l.length c) := by rw [hW0]; simp
 have hrun := append_recs W0.drew 43 (w.heap.size + 2) W0.heap.size l.length c (.slice none 0 0) [] A l (ownsRecs_nil _ _) rfl ((hl.upto hb0).drew) (by simpa using hlen) (by show _ ≤ W0.heap.size; omega)
 have hrun' : ∃ v' w', (Builtin.append_ #[43, 43] 43 #[.slice none 0 0, .slice A l.length c]).run Tryz.prog W0.drew = .ok v' w' ∧ ∃ A' c', v' = .slice A' l.length c' ∧ OwnsRecs w' (w.heap.size + 2) (.slice A' l.length c') l ∧ Below (w.heap.size + 2) W0 w' := by
  obtain ⟨v', w', h1, h2, h3, _⟩ := hrun
  obtain ⟨A', c', hv, _⟩ := h2.at_ (by simpa using hlen) (fun r hr => hl.ok (by simpa using hr))
  subst hv
  exact ⟨_, w', h1, A', c', by simp, h2, (Below.drew (Below.refl _ _)).grown h3 (by show _ ≤ W0.heap.size; omega) (by simp [Value.ownBlock])⟩
 clear hrun
 have HW := Lib.hid hW0
 have HB0 := Lib.hid hb0
 have HZ := Lib.hid hz0
 have HR := Lib.hid hrun'
 have HL := Lib.hid hl
 have HS := Lib.hid hs0
 clear hW0 hb0 hz0 hrun' hl hs0
 go_enter Tryz.func11, Tryz.ntmps11
 go_wp2_with fail
 rw [← HW.out]
 go_region_held3 (fun w' => w'.cell? ⟨w.heap.size, 0, none⟩ = some (.string key) ∧ w'.cell? ⟨w.heap.size, 1, none⟩ = some (.int .i64 ls) ∧ w'.cell? ⟨w.heap.size, 2, none⟩ = some (.string lp) ∧ w'.cell? ⟨w.heap.size, 3, none⟩ = some (.string val) ∧ w'.cell? ⟨w.heap.size, 4, none⟩ = some (.slice A l.length c) ∧ Below (w.heap.size + 1) W0 w')
  (first | exact boxT k0 k1 k2 k3 k4 (Below.drew (Below.refl _ _)) | exact boxT k0 k1 k2 k3 k4 hq | exact boxT k0 k1 k2 k3 k4 (((((hq.setCell (by simp) _).setCell (by simp) _).setCell (by simp) _).setCell (by simp) _).setCell (by simp) _))
  ((refine step_append_run _ rfl _ _ 43 rfl _ _ rfl rfl HR.out ?_; rintro v1 w1 ⟨A1, c1, rfl, hrec, hq2⟩; have HREC := Lib.hid hrec; have hq := hq2.mono (Nat.le_succ (w.heap.size + 1)); have hz1 : ZeroRow w1 (w.heap.size + 1) := HZ.out.keep (hq2.block _ (by omega)); have r0 := hz1.c0; have r1 := hz1.c1; have r2 := hz1.c2; have r3 := hz1.c3; have r4 := hz1.c4; have f0 := hz1.f 0; have f1 := hz1.f 1; have f2 := hz1.f 2; have f3 := hz1.f 3; have f4 := hz1.f 4))
 clear hrec hq2 hq hz1
 go_split_ands
 go_wp2
 refine bodyPost_ret (v := rowV key ls lp val A1 l.length c1) (by simp [results, Tryz.results11, go_sem, r0, r1, r2, r3, r4]) rfl ⟨A1, c1, rfl, ?_, ⟨fun ad h => by have := HREC.out.new ad h; omega, HREC.out.cap⟩, ?_⟩
 ·refine OwnsRecs.rec (base := w.heap.size + 2) (n := l.length) (c := c1) ?_ HL.out.1 HL.out.2.1
  repeat (refine OwnsRecs.set ?_ (by simp) _)
  exact HREC.out
 ·exact HB0.out.trans (Below.mono (by assumption) (by omega))
structure WrM where
 k : ByteArray
 v : ByteArray
instance : Inhabited WrM := ⟨⟨ByteArray.empty, ByteArray.empty⟩⟩
structure RowM where
 key : ByteArray
 ls : Int
 lp : ByteArray
 val : ByteArray
 recs : List RecM
instance : Inhabited RowM := ⟨⟨⟨#[]⟩, 0, ⟨#[]⟩, ⟨#[]⟩, []⟩⟩
structure ClM where
 ph : Int
 st : Int
 cm : Int
 ws : List WrM
 at_ : Int
instance : Inhabited ClM := ⟨⟨0, 0, 0, [], 0⟩⟩
structure WoM where
 rows : List RowM
 clock : Int
 cls : List ClM
instance : Inhabited WoM := ⟨⟨[], 0, []⟩⟩
structure ActM where
 kind : Int
 c : Int
 key : ByteArray
 val : ByteArray
instance : Inhabited ActM := ⟨⟨0, 0, ⟨#[]⟩, ⟨#[]⟩⟩⟩
structure AnsM where
 code : Int
 is : Bool
 val : ByteArray
 ph : Int
 time : Int
instance : Inhabited AnsM := ⟨⟨0, false, ⟨#[]⟩, 0, 0⟩⟩
def ltS (a b : ByteArray) : Bool := Op.bytesLess a.toList b.toList
theorem toList_data (a : ByteArray) : a.toList = a.data.toList := by
 have : ∀ (i : Nat) (r : List UInt8), ByteArray.toList.loop a i r = r.reverse ++ a.data.toList.drop i := by
  intro i
  induction h : a.size - i generalizing i with
  | zero =>
   intro r
   unfold ByteArray.toList.loop
   rw [if_neg (by omega), List.drop_eq_nil_of_le (by simp; omega), List.append_nil]
  | succ n ih =>
   intro r
   unfold ByteArray.toList.loop
   have hi : i < a.size := by omega
   rw [if_pos hi, ih (i + 1) (by omega)]
   have e : a.get! i = a.data.toList[i]'(by simpa using hi) := by
    have : a.get! i = a.data[i]! := rfl
    rw [this, getElem!_pos a.data i hi]
    simp
   rw [List.drop_eq_getElem_cons (i := i) (by simpa using hi), e]
   simp
 have := this 0 []
 simpa [ByteArray.toList] using this
theorem ba_ext {a b : ByteArray} (h : a.toList = b.toList) : a = b := by
 rw [toList_data, toList_data] at h
 obtain ⟨a⟩ := a
 obtain ⟨b⟩ := b
 simp only [ByteArray.mk.injEq]
 exact Array.toList_inj.1 h
theorem less_irrefl : ∀ l : List UInt8, Op.bytesLess l l = false
 | [] => rfl
 | a :: l => by simp [Op.bytesLess, less_irrefl l]
theorem less_trans : ∀ {a b c : List UInt8}, Op.bytesLess a b = true → Op.bytesLess b c = true → Op.bytesLess a c = true
 | _, [], _, h, _ => by simp [Op.bytesLess] at h
 | _, _ :: _, [], _, h => by simp [Op.bytesLess] at h
 | [], _ :: _, _ :: _, _, _ => by simp [Op.bytesLess]
 | x :: a, y :: b, z :: c, h1, h2 => by
  simp only [Op.bytesLess, Bool.or_eq_true, decide_eq_true_eq, Bool.and_eq_true, beq_iff_eq] at h1 h2 ⊢
  rcases h1 with h1 | ⟨rfl, h1⟩
  ·rcases h2 with h2 | ⟨rfl, h2⟩
   ·exact .inl (UInt8.lt_trans h1 h2)
   ·exact .inl h1
  ·rcases h2 with h2 | ⟨rfl, h2⟩
   ·exact .inl h2
   ·exact .inr ⟨rfl, less_trans h1 h2⟩
theorem less_total : ∀ {a b : List UInt8}, Op.bytesLess a b = false → Op.bytesLess b a = false → a = b
 | [], [], _, _ => rfl
 | [], _ :: _, h, _ => by simp [Op.bytesLess] at h
 | _ :: _, [], _, h => by simp [Op.bytesLess] at h
 | x :: a, y :: b, h1, h2 => by
  simp only [Op.bytesLess, Bool.or_eq_false_iff, decide_eq_false_iff_not, Bool.and_eq_false_imp, beq_iff_eq] at h1 h2
  have e : x = y := UInt8.le_antisymm (UInt8.not_lt.1 h2.1) (UInt8.not_lt.1 h1.1)
  subst e
  rw [less_total (h1.2 rfl) (h2.2 rfl)]
theorem ltS_irrefl (a : ByteArray) : ltS a a = false := less_irrefl _
theorem ltS_trans {a b c : ByteArray} (h : ltS a b = true) (h' : ltS b c = true) : ltS a c = true := less_trans h h'
theorem ltS_total {a b : ByteArray} (h : ltS a b = false) (h' : ltS b a = false) : a = b := ba_ext (less_total h h')
theorem ltS_asymm {a b : ByteArray} (h : ltS a b = true) : ltS b a = false := by
 cases e : ltS b a
 ·rfl
 ·have := ltS_trans h e; rw [ltS_irrefl] at this; cases this
theorem ltS_ne {a b : ByteArray} (h : ltS a b = true) : a ≠ b := fun e => by rw [e, ltS_irrefl] at h; cases h
theorem compare_list : ∀ a b : List UInt8, (Lib.compareBytes a b < 0 ↔ Op.bytesLess a b = true) ∧ (Lib.compareBytes a b = 0 ↔ a = b) ∧ -1 ≤ Lib.compareBytes a b ∧ Lib.compareBytes a b ≤ 1
 | [], [] => by simp [Lib.compareBytes, Op.bytesLess]
 | [], _ :: _ => by simp [Lib.compareBytes, Op.bytesLess]
 | _ :: _, [] => by simp [Lib.compareBytes, Op.bytesLess]
 | x :: a, y :: b => by
  have ih := compare_list a b
  unfold Lib.compareBytes
  by_cases h : x < y
  ·have hne : x ≠ y := fun e => by subst e; exact UInt8.lt_irrefl x h
   simp [h, Op.bytesLess, hne]
  ·by_cases h' : y < x
   ·have hne : x ≠ y := fun e => by subst e; exact UInt8.lt_irrefl x h'
    simp [h, h', Op.bytesLess, hne]
   ·have e : x = y := UInt8.le_antisymm (UInt8.not_lt.1 h') (UInt8.not_lt.1 h)
    subst e
    simp only [h, if_false, Op.bytesLess, decide_false, Bool.false_or, beq_self_eq_true, Bool.true_and, List.cons.injEq, true_and]
    exact ih
def cmpS (a b : ByteArray) : Int := Lib.compareBytes a.data.toList b.data.toList
theorem cmpS_lt {a b : ByteArray} : cmpS a b < 0 ↔ ltS a b = true := by
 unfold cmpS ltS; rw [toList_data, toList_data]; exact (compare_list _ _).1
theorem cmpS_eq {a b : ByteArray} : cmpS a b = 0 ↔ a = b := by
 unfold cmpS
 rw [(compare_list _ _).2.1]
 exact ⟨fun h => ba_ext (by rw [toList_data, toList_data]; exact h), fun h => by rw [h]⟩
def RowM.ok (r : RowM) : Bool := rowB r.key r.ls r.lp r.val r.recs
def RowM.upTo (r : RowM) (clock : Int) : Bool := r.recs.all (fun x => decide (x.s ≤ clock) && decide (x.c ≤ clock)) && decide (r.ls ≤ clock)
def rowAtB (clock : Int) (l : List RowM) (i : Nat) : Bool := (l.getD i default).ok && (i == 0 || ltS (l.getD (i - 1) default).key (l.getD i default).key) && (l.getD i default).upTo clock
def rowsB (clock : Int) (l : List RowM) : Bool := decide (l.length ≤ 40) && (List.range l.length).all (rowAtB clock l)
def wrAtB (l : List WrM) (i : Nat) : Bool := keyB (l.getD i default).k && (i == 0 || ltS (l.getD (i - 1) default).k (l.getD i default).k) && decide ((l.getD i default).v.size ≤ 20)
def wrsB (l : List WrM) : Bool := decide (l.length ≤ 6) && (List.range l.length).all (wrAtB l)
def timesB (c : ClM) (clock : Int) : Bool :=
 if c.ph = 0 then c.st == 0 && c.cm == 0
 else if c.ph = 3 ∨ c.ph = 4 then decide (1 ≤ c.st) && decide (c.st < c.cm) && decide (c.cm ≤ clock)
 else decide (1 ≤ c.st) && decide (c.st ≤ clock) && c.cm == 0
def atB (c : ClM) : Bool :=
 if c.ph = 0 then c.ws.isEmpty && c.at_ == 0
 else if c.ph = 1 then c.at_ == 0
 else if c.ph = 2 then decide (1 ≤ (c.ws.length : Int)) && decide (0 ≤ c.at_) && decide (c.at_ ≤ c.ws.length)
 else if c.ph = 3 then decide (1 ≤ (c.ws.length : Int)) && c.at_ == 0
 else if c.ph = 4 then decide (1 ≤ c.at_) && decide (c.at_ ≤ (c.ws.length : Int) - 1)
 else false
def clB (clock : Int) (c : ClM) : Bool := wrsB c.ws && timesB c clock && atB c
def clsB (clock : Int) (l : List ClM) : Bool := decide (l.length ≤ 5) && (List.range l.length).all (fun i => clB clock (l.getD i default))
def WoM.ok (w : WoM) : Bool := decide (0 ≤ w.clock) && decide (w.clock ≤ 1099511627376) && rowsB w.clock w.rows && clsB w.clock w.cls
theorem all_range_false {n k : Nat} {f : Nat → Bool} (hk : k < n) (h : f k = false) : (List.range n).all f = false := by
 rw [List.all_eq_false]
 exact ⟨k, List.mem_range.2 hk, by simp [h]⟩
theorem all_range_succ {k : Nat} {f : Nat → Bool} (h : (List.range k).all f = true) (h' : f k = true) : (List.range (k + 1)).all f = true := by
 rw [List.range_succ]; simp [h'] ; simpa using h
theorem all_range_iff {n : Nat} {f : Nat → Bool} : (List.range n).all f = true ↔ ∀ i, i < n → f i = true := by
 simp
def SeqAt {α : Type} (P : Nat → Prop) (sz mx : Nat) (E : Nat → Nat → α → Prop) (A : Option Addr) (l : List α) : Prop :=
 l.length ≤ mx ∧ (0 < l.length → ∃ b o, A = some ⟨b, o, none⟩ ∧ P b ∧ ∀ i x, l[i]? = some x → E b (o + i * sz) x)
section
variable {α : Type} {P P' : Nat → Prop} {sz mx : Nat} {E E' : Nat → Nat → α → Prop} {A : Option Addr} {l : List α}
theorem SeqAt.mono (h : SeqAt P sz mx E A l) (hP : ∀ b, P b → P' b) (hE : ∀ b o x, x ∈ l → P b → E b o x → E' b o x) : SeqAt P' sz mx E' A l :=
 ⟨h.1, fun h0 => by
  obtain ⟨b, o, hA, hb, hc⟩ := h.2 h0
  exact ⟨b, o, hA, hP b hb, fun i x hx => hE b _ x (List.mem_of_getElem? hx) hb (hc i x hx)⟩⟩
theorem SeqAt.at_ (h : SeqAt P sz mx E A l) {i : Nat} {x : α} (hx : l[i]? = some x) : ∃ b o, A = some ⟨b, o, none⟩ ∧ P b ∧ E b (o + i * sz) x := by
 have hl : i < l.length := (List.getElem?_eq_some_iff.1 hx).1
 obtain ⟨b, o, hA, hb, hc⟩ := h.2 (by omega)
 exact ⟨b, o, hA, hb, hc i x hx⟩
theorem SeqAt.nil_ (A : Option Addr) : SeqAt P sz mx E A ([] : List α) := ⟨Nat.zero_le _, fun h => absurd h (by simp)⟩
theorem SeqAt.block {g : Nat} (hl : l.length ≤ mx) (hg : P g) (h : ∀ i x, l[i]? = some x → E g (i * sz) x) : SeqAt P sz mx E (some ⟨g, 0, none⟩) l :=
 ⟨hl, fun _ => ⟨g, 0, rfl, hg, fun i x hx => by rw [Nat.zero_add]; exact h i x hx⟩⟩
theorem getD_some {α : Type} {d : α} {l : List α} {k : Nat} (h : k < l.length) : l[k]? = some (l.getD k d) := by simp [List.getD, h]
theorem getD_mem {α : Type} {d : α} {l : List α} {k : Nat} (h : k < l.length) : l.getD k d ∈ l := by simp [List.getD, h]
end
def RecsIn (w : World) (P : Nat → Prop) (A : Option Addr) (l : List RecM) : Prop :=
 l.length ≤ 4398046511104 ∧ (∀ r ∈ l, RecOk r) ∧ (0 < l.length → ∃ b o, A = some ⟨b, o, none⟩ ∧ P b ∧ ∀ i r, l[i]? = some r → RecAt w b (o + i * 3) r)
theorem RecsIn.mono {w w' : World} {P P' : Nat → Prop} {A : Option Addr} {l : List RecM} (h : RecsIn w P A l) (hP : ∀ b, P b → P' b) (hk : ∀ b k, P b → w'.cell? ⟨b, k, none⟩ = w.cell? ⟨b, k, none⟩) : RecsIn w' P' A l :=
 ⟨h.1, h.2.1, fun h0 => by
  obtain ⟨b, o, hA, hb, hc⟩ := h.2.2 h0
  exact ⟨b, o, hA, hP b hb, fun i r hr => (hc i r hr).keep fun k => hk b k hb⟩⟩
theorem RecsIn.recs {w : World} {P : Nat → Prop} {B : Nat} {A : Option Addr} {l : List RecM} (h : RecsIn w P A l) (hP : ∀ b, P b → b < B) : RecsAt w B A l := h.mono hP (fun _ _ _ => rfl)
theorem RecsAt.in_ {w : World} {P : Nat → Prop} {B : Nat} {A : Option Addr} {l : List RecM} (h : RecsAt w B A l) (hP : ∀ ad, A = some ad → ad.block < B → P ad.block) : RecsIn w P A l :=
 ⟨h.1, h.2.1, fun h0 => by
  obtain ⟨b, o, hA, hb, hc⟩ := h.2.2 h0
  exact ⟨b, o, hA, hP _ hA hb, hc⟩⟩
structure RowOk (r : RowM) : Prop where
 k : r.key.size ≤ maxLen
 p : r.lp.size ≤ maxLen
 v : r.val.size ≤ maxLen
 s : i64 r.ls
structure RowAt (w : World) (P : Nat → Prop) (b o : Nat) (r : RowM) : Prop where
 ck : w.cell? ⟨b, o, none⟩ = some (.string r.key)
 cs : w.cell? ⟨b, o + 1, none⟩ = some (.int .i64 r.ls)
 cp : w.cell? ⟨b, o + 2, none⟩ = some (.string r.lp)
 cv : w.cell? ⟨b, o + 3, none⟩ = some (.string r.val)
 cr : ∃ A c, w.cell? ⟨b, o + 4, none⟩ = some (.slice A r.recs.length c) ∧ r.recs.length ≤ c ∧ RecsIn w P A r.recs
 ok : RowOk r
theorem RowAt.mono {w w' : World} {P P' : Nat → Prop} {b o : Nat} {r : RowM} (h : RowAt w P b o r) (hP : ∀ b, P b → P' b) (hk : ∀ b k, P b → w'.cell? ⟨b, k, none⟩ = w.cell? ⟨b, k, none⟩) (hb : ∀ k, o ≤ k → k < o + 5 → w'.cell? ⟨b, k, none⟩ = w.cell? ⟨b, k, none⟩) : RowAt w' P' b o r := by
 obtain ⟨A, c, h4, hc, hr⟩ := h.cr
 exact ⟨(hb o (by omega) (by omega)).trans h.ck, (hb _ (by omega) (by omega)).trans h.cs, (hb _ (by omega) (by omega)).trans h.cp, (hb _ (by omega) (by omega)).trans h.cv, ⟨A, c, (hb _ (by omega) (by omega)).trans h4, hc, hr.mono hP hk⟩, h.ok⟩
theorem RowAt.rowIn {w : World} {P : Nat → Prop} {b o : Nat} {r : RowM} (h : RowAt w P b o r) (hP : ∀ b, P b → b < w.heap.size) : ∃ A c, w.cell? ⟨b, o + 4, none⟩ = some (.slice A r.recs.length c) ∧ r.recs.length ≤ c ∧ RowIn w r.key r.lp r.val A r.recs.length r.recs := by
 obtain ⟨A, c, h4, hc, hr⟩ := h.cr
 exact ⟨A, c, h4, hc, rfl, hr.recs hP, h.ok.k, h.ok.p, h.ok.v⟩
structure WrAt (w : World) (b o : Nat) (x : WrM) : Prop where
 k : w.cell? ⟨b, o, none⟩ = some (.string x.k)
 v : w.cell? ⟨b, o + 1, none⟩ = some (.string x.v)
 ok : x.k.size ≤ maxLen ∧ x.v.size ≤ maxLen
theorem WrAt.keep {w w' : World} {b o : Nat} {x : WrM} (h : WrAt w b o x) (hk : ∀ k, w'.cell? ⟨b, k, none⟩ = w.cell? ⟨b, k, none⟩) : WrAt w' b o x := ⟨(hk _).trans h.k, (hk _).trans h.v, h.ok⟩
abbrev WrsAt (w : World) (P : Nat → Prop) (A : Option Addr) (l : List WrM) : Prop := SeqAt P 2 4398046511104 (WrAt w) A l
theorem SeqAt.wrs {w w' : World} {P P' : Nat → Prop} {A : Option Addr} {l : List WrM} (h : WrsAt w P A l) (hP : ∀ b, P b → P' b) (hk : ∀ b k, P b → w'.cell? ⟨b, k, none⟩ = w.cell? ⟨b, k, none⟩) : WrsAt w' P' A l :=
 SeqAt.mono h hP fun b _ _ _ hb hx => hx.keep fun k => hk b k hb
structure ClOk (c : ClM) : Prop where
 p : i64 c.ph
 s : i64 c.st
 m : i64 c.cm
 a : i64 c.at_
structure ClAt (w : World) (P : Nat → Prop) (b o : Nat) (c : ClM) : Prop where
 cp : w.cell? ⟨b, o, none⟩ = some (.int .i64 c.ph)
 cs : w.cell? ⟨b, o + 1, none⟩ = some (.int .i64 c.st)
 cm : w.cell? ⟨b, o + 2, none⟩ = some (.int .i64 c.cm)
 cw : ∃ A k, w.cell? ⟨b, o + 3, none⟩ = some (.slice A c.ws.length k) ∧ c.ws.length ≤ k ∧ WrsAt w P A c.ws
 ca : w.cell? ⟨b, o + 4, none⟩ = some (.int .i64 c.at_)
 ok : ClOk c
theorem ClAt.mono {w w' : World} {P P' : Nat → Prop} {b o : Nat} {c : ClM} (h : ClAt w P b o c) (hP : ∀ b, P b → P' b) (hk : ∀ b k, P b → w'.cell? ⟨b, k, none⟩ = w.cell? ⟨b, k, none⟩) (hb : ∀ k, o ≤ k → k < o + 5 → w'.cell? ⟨b, k, none⟩ = w.cell? ⟨b, k, none⟩) : ClAt w' P' b o c := by
 obtain ⟨A, q, h4, hc, hr⟩ := h.cw
 exact ⟨(hb o (by omega) (by omega)).trans h.cp, (hb _ (by omega) (by omega)).trans h.cs, (hb _ (by omega) (by omega)).trans h.cm, ⟨A, q, (hb _ (by omega) (by omega)).trans h4, hc, SeqAt.wrs hr hP hk⟩, (hb _ (by omega) (by omega)).trans h.ca, h.ok⟩
abbrev RowsAt (w : World) (P : Nat → Prop) (A : Option Addr) (l : List RowM) : Prop := SeqAt P 5 1759218604441 (RowAt w P) A l
abbrev ClsAt (w : World) (P : Nat → Prop) (A : Option Addr) (l : List ClM) : Prop := SeqAt P 5 2513169434916 (ClAt w P) A l
theorem SeqAt.rows {w w' : World} {P P' : Nat → Prop} {A : Option Addr} {l : List RowM} (h : RowsAt w P A l) (hP : ∀ b, P b → P' b) (hk : ∀ b k, P b → w'.cell? ⟨b, k, none⟩ = w.cell? ⟨b, k, none⟩) : RowsAt w' P' A l :=
 SeqAt.mono h hP fun b _ _ _ hb hx => hx.mono hP hk fun k _ _ => hk b k hb
theorem SeqAt.cls {w w' : World} {P P' : Nat → Prop} {A : Option Addr} {l : List ClM} (h : ClsAt w P A l) (hP : ∀ b, P b → P' b) (hk : ∀ b k, P b → w'.cell? ⟨b, k, none⟩ = w.cell? ⟨b, k, none⟩) : ClsAt w' P' A l :=
 SeqAt.mono h hP fun b _ _ _ hb hx => hx.mono hP hk fun k _ _ => hk b k hb
abbrev woV (RA : Option Addr) (n rc : Nat) (k : Int) (CA : Option Addr) (m cc : Nat) : Value := .agg #[.slice RA n rc, .int .i64 k, .slice CA m cc]
structure WoIn (w : World) (RA : Option Addr) (n rc : Nat) (CA : Option Addr) (m cc : Nat) (wo : WoM) : Prop where
 hn : n = wo.rows.length
 hrc : n ≤ rc
 rows : RowsAt w (· < w.heap.size) RA wo.rows
 hm : m = wo.cls.length
 hcc : m ≤ cc
 cls : ClsAt w (· < w.heap.size) CA wo.cls
 ck : i64 wo.clock
theorem WoIn.upto {w W : World} {RA CA : Option Addr} {n rc m cc : Nat} {wo : WoM} (h : WoIn w RA n rc CA m cc wo) (hb : Below w.heap.size w W) : WoIn W RA n rc CA m cc wo :=
 ⟨h.hn, h.hrc, h.rows.rows (fun _ hp => Nat.lt_of_lt_of_le hp hb.size) (fun _ _ hp => hb.cell (p := ⟨_, _, none⟩) hp), h.hm, h.hcc, h.cls.cls (fun _ hp => Nat.lt_of_lt_of_le hp hb.size) (fun _ _ hp => hb.cell (p := ⟨_, _, none⟩) hp), h.ck⟩
theorem below_mem {w W : World} (hb : Below w.heap.size w W) : (∀ b, b < w.heap.size → b < W.heap.size) ∧ ∀ b k, b < w.heap.size → W.cell? ⟨b, k, none⟩ = w.cell? ⟨b, k, none⟩ :=
 ⟨fun _ hp => Nat.lt_of_lt_of_le hp hb.size, fun _ _ hp => hb.cell (p := ⟨_, _, none⟩) hp⟩
structure Same (W W' : World) (S : Addr → Prop) : Prop where
 cell : ∀ p, ¬ S p → W'.cell? p = W.cell? p
 fr : ∀ p, W'.frozen? p = W.frozen? p
 sz : W'.heap.size = W.heap.size
theorem Same.refl (W : World) (S : Addr → Prop) : Same W W S := ⟨fun _ _ => rfl, fun _ => rfl, rfl⟩
theorem Same.set {W W' : World} {S : Addr → Prop} (h : Same W W' S) {p : Addr} (hp : S p) (u : Value) : Same W (W'.setCell p u) S :=
 ⟨fun q hq => (World.cell?_setCell_other W' p q u (fun e => hq (e ▸ hp))).trans (h.cell q hq), fun q => (by rw [World.frozen?_setCell]; exact h.fr q), (by simp [World.setCell]; exact h.sz)⟩
theorem Same.drewN {W W' : World} {S : Addr → Prop} (h : Same W W' S) (n : Nat) : Same W (W'.drewN n) S := ⟨h.cell, h.fr, h.sz⟩
abbrev set5 (W : World) (g o : Nat) (v0 v1 v2 v3 v4 : Value) : World :=
 ((((W.setCell ⟨g, o, none⟩ v0).setCell ⟨g, o + 1, none⟩ v1).setCell ⟨g, o + 2, none⟩ v2).setCell ⟨g, o + 3, none⟩ v3).setCell ⟨g, o + 4, none⟩ v4
def five (g o : Nat) (p : Addr) : Prop := p.block = g ∧ o ≤ p.off ∧ p.off < o + 5
theorem set5_same (W : World) (g o : Nat) (v0 v1 v2 v3 v4 : Value) : Same W (set5 W g o v0 v1 v2 v3 v4) (five g o) :=
 ((((((Same.refl W _).set ⟨rfl, Nat.le_refl _, by show o < o + 5; omega⟩ _).set ⟨rfl, by show o ≤ o + 1; omega, by show o + 1 < o + 5; omega⟩ _).set ⟨rfl, by show o ≤ o + 2; omega, by show o + 2 < o + 5; omega⟩ _).set ⟨rfl, by show o ≤ o + 3; omega, by show o + 3 < o + 5; omega⟩ _).set ⟨rfl, by show o ≤ o + 4; omega, by show o + 4 < o + 5; omega⟩ _)
theorem set5_at {W : World} {g o : Nat} {u0 u1 u2 u3 u4 : Value} (h0 : W.cell? ⟨g, o, none⟩ = some u0) (h1 : W.cell? ⟨g, o + 1, none⟩ = some u1) (h2 : W.cell? ⟨g, o + 2, none⟩ = some u2) (h3 : W.cell? ⟨g, o + 3, none⟩ = some u3) (h4 : W.cell? ⟨g, o + 4, none⟩ = some u4) (v0 v1 v2 v3 v4 : Value) :
 (set5 W g o v0 v1 v2 v3 v4).cell? ⟨g, o, none⟩ = some v0 ∧ (set5 W g o v0 v1 v2 v3 v4).cell? ⟨g, o + 1, none⟩ = some v1 ∧ (set5 W g o v0 v1 v2 v3 v4).cell? ⟨g, o + 2, none⟩ = some v2 ∧ (set5 W g o v0 v1 v2 v3 v4).cell? ⟨g, o + 3, none⟩ = some v3 ∧ (set5 W g o v0 v1 v2 v3 v4).cell? ⟨g, o + 4, none⟩ = some v4 := by
 have ne : ∀ i j : Nat, i ≠ j → (⟨g, o + i, none⟩ : Addr) ≠ ⟨g, o + j, none⟩ := fun i j h e => h (by injection e with _ e; omega)
 have ne0 : ∀ j : Nat, j ≠ 0 → (⟨g, o + j, none⟩ : Addr) ≠ ⟨g, o, none⟩ := fun j h e => h (by injection e with _ e; omega)
 have ne0' : ∀ j : Nat, j ≠ 0 → (⟨g, o, none⟩ : Addr) ≠ ⟨g, o + j, none⟩ := fun j h e => h (by injection e with _ e; omega)
 refine ⟨?_, ?_, ?_, ?_, ?_⟩
 ·rw [World.cell?_setCell_other _ _ _ _ (ne0 4 (by decide)), World.cell?_setCell_other _ _ _ _ (ne0 3 (by decide)), World.cell?_setCell_other _ _ _ _ (ne0 2 (by decide)), World.cell?_setCell_other _ _ _ _ (ne0 1 (by decide))]
  exact World.cell?_setCell_same _ _ _ h0
 ·rw [World.cell?_setCell_other _ _ _ _ (ne 4 1 (by decide)), World.cell?_setCell_other _ _ _ _ (ne 3 1 (by decide)), World.cell?_setCell_other _ _ _ _ (ne 2 1 (by decide))]
  exact World.cell?_setCell_same _ _ _ (u := u1) (by rw [World.cell?_setCell_other _ _ _ _ (ne0' 1 (by decide))]; exact h1)
 ·rw [World.cell?_setCell_other _ _ _ _ (ne 4 2 (by decide)), World.cell?_setCell_other _ _ _ _ (ne 3 2 (by decide))]
  exact World.cell?_setCell_same _ _ _ (u := u2) (by rw [World.cell?_setCell_other _ _ _ _ (ne 1 2 (by decide)), World.cell?_setCell_other _ _ _ _ (ne0' 2 (by decide))]; exact h2)
 ·rw [World.cell?_setCell_other _ _ _ _ (ne 4 3 (by decide))]
  exact World.cell?_setCell_same _ _ _ (u := u3) (by rw [World.cell?_setCell_other _ _ _ _ (ne 2 3 (by decide)), World.cell?_setCell_other _ _ _ _ (ne 1 3 (by decide)), World.cell?_setCell_other _ _ _ _ (ne0' 3 (by decide))]; exact h3)
 ·exact World.cell?_setCell_same _ _ _ (u := u4) (by rw [World.cell?_setCell_other _ _ _ _ (ne 3 4 (by decide)), World.cell?_setCell_other _ _ _ _ (ne 2 4 (by decide)), World.cell?_setCell_other _ _ _ _ (ne 1 4 (by decide)), World.cell?_setCell_other _ _ _ _ (ne0' 4 (by decide))]; exact h4)
theorem below_set5 {w W : World} {B : Nat} (h : Below B w W) {g : Nat} (hg : B ≤ g) (o : Nat) (v0 v1 v2 v3 v4 : Value) : Below B w (set5 W g o v0 v1 v2 v3 v4) :=
 ((((h.setCell hg _).setCell hg _).setCell hg _).setCell hg _).setCell hg _
theorem set5_heap (W : World) (g o : Nat) (v0 v1 v2 v3 v4 : Value) {k : Nat} (h : k ≠ g) : (set5 W g o v0 v1 v2 v3 v4).heap[k]? = W.heap[k]? := by
 rw [Below.heap_setCell _ _ _ _ h, Below.heap_setCell _ _ _ _ h, Below.heap_setCell _ _ _ _ h, Below.heap_setCell _ _ _ _ h, Below.heap_setCell _ _ _ _ h]
abbrev set3 (W : World) (g : Nat) (v0 v1 v2 : Value) : World := ((W.setCell ⟨g, 0, none⟩ v0).setCell ⟨g, 1, none⟩ v1).setCell ⟨g, 2, none⟩ v2
theorem set3_same (W : World) (g : Nat) (v0 v1 v2 : Value) : Same W (set3 W g v0 v1 v2) (fun p => p.block = g) := by
 refine Same.set (Same.set (Same.set (Same.refl W _) ?_ _) ?_ _) ?_ _ <;> rfl
theorem set3_heap (W : World) (g : Nat) (v0 v1 v2 : Value) {k : Nat} (h : k ≠ g) : (set3 W g v0 v1 v2).heap[k]? = W.heap[k]? := by
 rw [Below.heap_setCell _ _ _ _ h, Below.heap_setCell _ _ _ _ h, Below.heap_setCell _ _ _ _ h]
def OwnP (s : Nat) (X : Nat → Prop) (bR bC : Nat) (wb : Nat → Nat) (m b : Nat) : Prop := b < s ∧ ¬ X b ∧ b ≠ bR ∧ b ≠ bC ∧ ∀ i, i < m → b ≠ wb i
structure Core (w : World) (B : Nat) (X : Nat → Prop) (bR bC : Nat) (wb : Nat → Nat) (wo : WoM) : Prop where
 rB : B ≤ bR ∧ bR < w.heap.size ∧ ¬ X bR
 cB : B ≤ bC ∧ bC < w.heap.size ∧ ¬ X bC
 ne : bR ≠ bC
 wB : ∀ i, i < wo.cls.length → B ≤ wb i ∧ wb i < w.heap.size ∧ ¬ X (wb i) ∧ wb i ≠ bR ∧ wb i ≠ bC
 inj : ∀ i j, i < wo.cls.length → j < wo.cls.length → wb i = wb j → i = j
 rf : ∀ o, w.frozen? ⟨bR, o, none⟩ = false
 cf : ∀ o, w.frozen? ⟨bC, o, none⟩ = false
 wf : ∀ i o, i < wo.cls.length → w.frozen? ⟨wb i, o, none⟩ = false
 rows : ∀ i r, wo.rows[i]? = some r → RowAt w (OwnP w.heap.size X bR bC wb wo.cls.length) bR (i * 5) r
 cls : ∀ i c, wo.cls[i]? = some c → ClAt w (· = wb i) bC (i * 5) c
 rl : wo.rows.length ≤ 1759218604441
 cl : wo.cls.length ≤ 2513169434916
 ck : i64 wo.clock
section
variable {w w' : World} {B : Nat} {X X' : Nat → Prop} {bR bC : Nat} {wb : Nat → Nat} {wo : WoM}
theorem Core.upto (h : Core w B X bR bC wb wo) (hb : Below w.heap.size w w') (hX : ∀ b, b < w.heap.size → ¬ X b → ¬ X' b) : Core w' B X' bR bC wb wo := by
 obtain ⟨h1, h2⟩ := below_mem hb
 have hf : ∀ b o, b < w.heap.size → w'.frozen? ⟨b, o, none⟩ = w.frozen? ⟨b, o, none⟩ := (bcell hb).2
 refine ⟨⟨h.rB.1, h1 _ h.rB.2.1, hX _ h.rB.2.1 h.rB.2.2⟩, ⟨h.cB.1, h1 _ h.cB.2.1, hX _ h.cB.2.1 h.cB.2.2⟩, h.ne, fun i hi => ?_, h.inj, fun o => (hf _ o h.rB.2.1).trans (h.rf o), fun o => (hf _ o h.cB.2.1).trans (h.cf o), fun i o hi => (hf _ o (h.wB i hi).2.1).trans (h.wf i o hi), fun i r hr => ?_, fun i c hc => ?_, h.rl, h.cl, h.ck⟩
 ·obtain ⟨a, b, c, d⟩ := h.wB i hi
  exact ⟨a, h1 _ b, hX _ b c, d⟩
 ·exact (h.rows i r hr).mono (fun b hb => ⟨h1 _ hb.1, hX _ hb.1 hb.2.1, hb.2.2⟩) (fun b k hb => h2 b k hb.1) (fun k _ _ => h2 _ k h.rB.2.1)
 ·have hi := (List.getElem?_eq_some_iff.1 hc).1
  exact (h.cls i c hc).mono (fun b hb => hb) (fun b k hb => h2 b k (by rw [hb]; exact (h.wB i hi).2.1)) (fun k _ _ => h2 _ k h.cB.2.1)
theorem Core.in_ (h : Core w B X bR bC wb wo) {rc cc : Nat} (hr : wo.rows.length ≤ rc) (hc : wo.cls.length ≤ cc) : WoIn w (some ⟨bR, 0, none⟩) wo.rows.length rc (some ⟨bC, 0, none⟩) wo.cls.length cc wo :=
 ⟨rfl, hr, SeqAt.block h.rl h.rB.2.1 fun i r hr => (h.rows i r hr).mono (fun _ hb => hb.1) (fun _ _ _ => rfl) (fun _ _ _ => rfl), rfl, hc,
  SeqAt.block h.cl h.cB.2.1 fun i c hc => (h.cls i c hc).mono (fun _ hb => by rw [hb]; exact (h.wB i (List.getElem?_eq_some_iff.1 hc).1).2.1) (fun _ _ _ => rfl) (fun _ _ _ => rfl), h.ck⟩
theorem Core.tick (h : Core w B X bR bC wb wo) {S : Addr → Prop} (hs : Same w w' S) (hS : ∀ p, S p → X p.block) (k : Int) (hk : i64 k) : Core w' B X bR bC wb { wo with clock := k } := by
 have hc : ∀ b o, ¬ X b → w'.cell? ⟨b, o, none⟩ = w.cell? ⟨b, o, none⟩ := fun b o hb => hs.cell _ fun e => hb (hS _ e)
 refine ⟨⟨h.rB.1, by rw [hs.sz]; exact h.rB.2.1, h.rB.2.2⟩, ⟨h.cB.1, by rw [hs.sz]; exact h.cB.2.1, h.cB.2.2⟩, h.ne, fun i hi => by rw [hs.sz]; exact h.wB i hi, h.inj, fun o => (hs.fr _).trans (h.rf o), fun o => (hs.fr _).trans (h.cf o), fun i o hi => (hs.fr _).trans (h.wf i o hi), fun i r hr => ?_, fun i c hc' => ?_, h.rl, h.cl, hk⟩
 ·rw [hs.sz]
  exact (h.rows i r hr).mono (fun b hb => hb) (fun b k hb => hc b k hb.2.1) (fun k _ _ => hc _ k h.rB.2.2)
 ·have hi := (List.getElem?_eq_some_iff.1 hc').1
  exact (h.cls i c hc').mono (fun b hb => hb) (fun b k hb => hc b k (by rw [hb]; exact (h.wB i hi).2.2.1)) (fun k _ _ => hc _ k h.cB.2.2)
theorem Core.client (h : Core w B X bR bC wb wo) {C : Nat} {c : ClM} (hC : C < wo.cls.length) (hs : Same w w' (five bC (C * 5))) (hc : ClAt w' (· = wb C) bC (C * 5) c) : Core w' B X bR bC wb { wo with cls := wo.cls.set C c } := by
 have hb : ∀ b o, b ≠ bC → w'.cell? ⟨b, o, none⟩ = w.cell? ⟨b, o, none⟩ := fun b o hb => hs.cell _ fun e => hb e.1
 refine ⟨⟨h.rB.1, by rw [hs.sz]; exact h.rB.2.1, h.rB.2.2⟩, ⟨h.cB.1, by rw [hs.sz]; exact h.cB.2.1, h.cB.2.2⟩, h.ne, fun i hi => by rw [hs.sz]; exact h.wB i (by simpa using hi), fun i j hi hj => h.inj i j (by simpa using hi) (by simpa using hj), fun o => (hs.fr _).trans (h.rf o), fun o => (hs.fr _).trans (h.cf o), fun i o hi => (hs.fr _).trans (h.wf i o (by simpa using hi)), fun i r hr => ?_, fun i x hx => ?_, h.rl, by simpa using h.cl, h.ck⟩
 ·rw [hs.sz, List.length_set]
  exact (h.rows i r hr).mono (fun b hb => hb) (fun b k hp => hb b k hp.2.2.2.1) (fun k _ _ => hb _ k h.ne)
 ·rw [List.getElem?_set] at hx
  by_cases e : C = i
  ·subst e
   rw [if_pos rfl, if_pos hC] at hx
   injection hx with hx
   subst hx
   exact hc
  ·rw [if_neg e] at hx
   have hi := (List.getElem?_eq_some_iff.1 hx).1
   exact (h.cls i x hx).mono (fun b hb => hb) (fun b k hp => hb b k (by rw [hp]; exact (h.wB i hi).2.2.2.2)) (fun k h1 h2 => hs.cell _ fun e' => by
    have h3 : C * 5 ≤ k := e'.2.1
    have h4 : k < C * 5 + 5 := e'.2.2
    omega)
theorem Core.writes (h : Core w B X bR bC wb wo) {C g : Nat} {c : ClM} (hC : C < wo.cls.length) (hk : ∀ b o, b < w.heap.size → b ≠ bC → b ≠ wb C → w'.cell? ⟨b, o, none⟩ = w.cell? ⟨b, o, none⟩) (hk' : ∀ o, ¬ (C * 5 ≤ o ∧ o < C * 5 + 5) → w'.cell? ⟨bC, o, none⟩ = w.cell? ⟨bC, o, none⟩)
 (hfr : ∀ b o, b < w.heap.size → w'.frozen? ⟨b, o, none⟩ = w.frozen? ⟨b, o, none⟩) (hsz : w.heap.size ≤ w'.heap.size) (hX : ∀ b, X b → b < w.heap.size) (hg : g = wb C ∨ w.heap.size ≤ g) (hg' : g < w'.heap.size) (hgf : ∀ o, w'.frozen? ⟨g, o, none⟩ = false) (hBg : B ≤ w.heap.size) (hc : ClAt w' (· = g) bC (C * 5) c) :
 Core w' B X bR bC (fun i => if i = C then g else wb i) { wo with cls := wo.cls.set C c } := by
 have old : ∀ i, i < wo.cls.length → i ≠ C → wb i < w.heap.size ∧ wb i ≠ bC ∧ wb i ≠ wb C := fun i hi e => ⟨(h.wB i hi).2.1, (h.wB i hi).2.2.2.2, fun e' => e (h.inj i C hi hC e')⟩
 have gX : ¬ X g := by
  rcases hg with rfl | hg
  ·exact (h.wB C hC).2.2.1
  ·intro e; have := hX g e; omega
 have gR : g ≠ bR ∧ g ≠ bC := by
  rcases hg with rfl | hg
  ·exact ⟨(h.wB C hC).2.2.2.1, (h.wB C hC).2.2.2.2⟩
  ·have := h.rB.2.1; have := h.cB.2.1; omega
 refine ⟨⟨h.rB.1, Nat.lt_of_lt_of_le h.rB.2.1 hsz, h.rB.2.2⟩, ⟨h.cB.1, Nat.lt_of_lt_of_le h.cB.2.1 hsz, h.cB.2.2⟩, h.ne, fun i hi => ?_, fun i j hi hj => ?_, fun o => (hfr _ o h.rB.2.1).trans (h.rf o), fun o => (hfr _ o h.cB.2.1).trans (h.cf o), fun i o hi => ?_, fun i r hr => ?_, fun i x hx => ?_, h.rl, by simpa using h.cl, h.ck⟩
 ·have hi' : i < wo.cls.length := by simpa using hi
  by_cases e : i = C
  ·simp only [e, if_true]
   refine ⟨?_, hg', gX, gR⟩
   rcases hg with rfl | hg
   ·exact (h.wB C hC).1
   ·omega
  ·simp only [e, if_false]
   obtain ⟨a, b, c, d⟩ := h.wB i hi'
   exact ⟨a, Nat.lt_of_lt_of_le b hsz, c, d⟩
 ·have hi' : i < wo.cls.length := by simpa using hi
  have hj' : j < wo.cls.length := by simpa using hj
  by_cases e : i = C <;> by_cases e' : j = C
  ·intro _; rw [e, e']
  ·simp only [e, e', if_true, if_false]
   intro h'
   obtain ⟨o1, _, o3⟩ := old j hj' e'
   rcases hg with rfl | hg
   ·exact absurd h'.symm o3
   ·omega
  ·simp only [e, e', if_true, if_false]
   intro h'
   obtain ⟨o1, _, o3⟩ := old i hi' e
   rcases hg with rfl | hg
   ·exact absurd h' o3
   ·omega
  ·simp only [e, e', if_false]
   exact h.inj i j hi' hj'
 ·have hi' : i < wo.cls.length := by simpa using hi
  by_cases e : i = C
  ·simp only [e, if_true]; exact hgf o
  ·simp only [e, if_false]; exact (hfr _ o (h.wB i hi').2.1).trans (h.wf i o hi')
 ·rw [List.length_set]
  refine (h.rows i r hr).mono (fun b hb => ⟨Nat.lt_of_lt_of_le hb.1 hsz, hb.2.1, hb.2.2.1, hb.2.2.2.1, fun j hj => ?_⟩) (fun b k hp => hk b k hp.1 hp.2.2.2.1 (hp.2.2.2.2 C hC)) (fun k _ _ => hk _ k h.rB.2.1 h.ne (fun e => (h.wB C hC).2.2.2.1 e.symm))
  by_cases e : j = C
  ·simp only [e, if_true]
   rcases hg with rfl | hg
   ·exact hb.2.2.2.2 C hC
   ·have := hb.1; omega
  ·simp only [e, if_false]; exact hb.2.2.2.2 j hj
 ·rw [List.getElem?_set] at hx
  by_cases e : C = i
  ·subst e
   rw [if_pos rfl, if_pos hC] at hx
   injection hx with hx
   subst hx
   simpa using hc
  ·rw [if_neg e] at hx
   have hi := (List.getElem?_eq_some_iff.1 hx).1
   obtain ⟨o1, o2, o3⟩ := old i hi (fun e' => e e'.symm)
   have e' : ¬ i = C := fun e' => e e'.symm
   simp only [e', if_false]
   exact (h.cls i x hx).mono (fun b hb => hb) (fun b k hp => hk b k (by rw [hp]; exact o1) (by rw [hp]; exact o2) (by rw [hp]; exact o3)) (fun k h1 h2 => hk' _ fun e'' => by omega)
theorem Core.row (h : Core w B X bR bC wb wo) {i : Nat} {r : RowM} (hi : i < wo.rows.length) (hs : Same w w' (five bR (i * 5))) (hr : RowAt w' (OwnP w.heap.size X bR bC wb wo.cls.length) bR (i * 5) r) : Core w' B X bR bC wb { wo with rows := wo.rows.set i r } := by
 have hb : ∀ b o, b ≠ bR → w'.cell? ⟨b, o, none⟩ = w.cell? ⟨b, o, none⟩ := fun b o hb => hs.cell _ fun e => hb e.1
 refine ⟨⟨h.rB.1, by rw [hs.sz]; exact h.rB.2.1, h.rB.2.2⟩, ⟨h.cB.1, by rw [hs.sz]; exact h.cB.2.1, h.cB.2.2⟩, h.ne, fun j hj => by rw [hs.sz]; exact h.wB j hj, h.inj, fun o => (hs.fr _).trans (h.rf o), fun o => (hs.fr _).trans (h.cf o), fun j o hj => (hs.fr _).trans (h.wf j o hj), fun j x hx => ?_, fun j c hc => ?_, by simpa using h.rl, h.cl, h.ck⟩
 ·rw [hs.sz]
  rw [List.getElem?_set] at hx
  by_cases e : i = j
  ·subst e
   rw [if_pos rfl, if_pos hi] at hx
   injection hx with hx
   subst hx
   exact hr
  ·rw [if_neg e] at hx
   exact (h.rows j x hx).mono (fun b hb => hb) (fun b k hp => hb b k hp.2.2.1) (fun k h1 h2 => hs.cell _ fun e' => by
    have h3 : i * 5 ≤ k := e'.2.1
    have h4 : k < i * 5 + 5 := e'.2.2
    omega)
 ·have hj := (List.getElem?_eq_some_iff.1 hc).1
  exact (h.cls j c hc).mono (fun b hb => hb) (fun b k hp => hb b k (by rw [hp]; exact (h.wB j hj).2.2.2.1)) (fun k _ _ => hb _ k (fun e => h.ne e.symm))
end
structure Own (w : World) (t : Bool) (Z : Nat → Prop) (B bx bC : Nat) (wo : WoM) : Prop where
 xB : B ≤ bx ∧ bx < w.heap.size
 xZ : ¬ Z bx
 zlt : ∀ b, Z b → b < w.heap.size
 xf : ∀ o, w.frozen? ⟨bx, o, none⟩ = false
 x1 : w.cell? ⟨bx, 1, none⟩ = some (.int .i64 wo.clock)
 x2 : w.cell? ⟨bx, 2, none⟩ = some (.slice (some ⟨bC, 0, none⟩) wo.cls.length wo.cls.length)
 core : ∃ bR rc wb, w.cell? ⟨bx, 0, none⟩ = some (.slice (some ⟨bR, 0, none⟩) wo.rows.length rc) ∧ wo.rows.length ≤ rc ∧ (t = true → rc = wo.rows.length) ∧ Core w B (fun b => b = bx ∨ Z b) bR bC wb wo
theorem Own.turn {w w' : World} {t : Bool} {Z Z' : Nat → Prop} {B bx bC : Nat} {wo : WoM} (h : Own w t Z B bx bC wo) (hb : Below w.heap.size w w') (hz : ∀ b, b < w.heap.size → Z' b → Z b) (hz' : ∀ b, Z' b → b < w'.heap.size) : Own w' t Z' B bx bC wo := by
 obtain ⟨bR, rc, wb, c0, hrc, ht, hco⟩ := h.core
 obtain ⟨h1, h2⟩ := below_mem hb
 exact ⟨⟨h.xB.1, h1 _ h.xB.2⟩, fun e => h.xZ (hz _ h.xB.2 e), hz', fun o => ((bcell hb).2 _ o h.xB.2).trans (h.xf o), (h2 _ _ h.xB.2).trans h.x1, (h2 _ _ h.xB.2).trans h.x2, bR, rc, wb, (h2 _ _ h.xB.2).trans c0, hrc, ht, hco.upto hb fun b hlt h e => h (e.imp id (hz b hlt))⟩
theorem Own.upto {w w' : World} {t : Bool} {Z : Nat → Prop} {B bx bC : Nat} {wo : WoM} (h : Own w t Z B bx bC wo) (hb : Below w.heap.size w w') : Own w' t Z B bx bC wo :=
 h.turn hb (fun _ _ e => e) (fun b e => Nat.lt_of_lt_of_le (h.zlt b e) hb.size)
theorem Own.more {w w' : World} {t : Bool} {Z : Nat → Prop} {B bx bC : Nat} {wo : WoM} (h : Own w t Z B bx bC wo) (hb : Below w.heap.size w w') {g : Nat} (hg : w.heap.size ≤ g) (hg' : g < w'.heap.size) : Own w' t (fun b => Z b ∨ b = g) B bx bC wo :=
 h.turn hb (fun b hlt e => e.elim id fun e => by omega) (fun b e => e.elim (fun e => Nat.lt_of_lt_of_le (h.zlt b e) hb.size) fun e => by omega)
theorem Own.less {w : World} {t : Bool} {Z Z' : Nat → Prop} {B bx bC : Nat} {wo : WoM} (h : Own w t Z B bx bC wo) (hz : ∀ b, Z' b → Z b) : Own w t Z' B bx bC wo :=
 h.turn (Below.refl _ _) (fun b _ e => hz b e) (fun b e => h.zlt b (hz b e))
structure Keeps (B : Nat) (Z : Nat → Prop) (w w' : World) : Prop where
 bel : Below B w w'
 z : ∀ b, b < w.heap.size → Z b → w'.heap[b]? = w.heap[b]?
section
variable {B : Nat} {Z Z' : Nat → Prop} {w w' w'' : World}
theorem Keeps.refl (B : Nat) (Z : Nat → Prop) (w : World) : Keeps B Z w w := ⟨Below.refl _ _, fun _ _ _ => rfl⟩
theorem Keeps.trans (h : Keeps B Z w w') (h' : Keeps B Z w' w'') : Keeps B Z w w'' := ⟨h.bel.trans h'.bel, fun b hb hz => (h'.z b (Nat.lt_of_lt_of_le hb h.bel.size) hz).trans (h.z b hb hz)⟩
theorem Keeps.new (hB : B ≤ w.heap.size) (h : Below w.heap.size w w') : Keeps B Z w w' := ⟨h.mono hB, fun b hb _ => h.block b hb⟩
theorem Keeps.less (h : Keeps B Z w w') (hz : ∀ b, Z' b → Z b) : Keeps B Z' w w' := ⟨h.bel, fun b hb e => h.z b hb (hz b e)⟩
theorem Keeps.next (h : Keeps B Z w w') (h' : Below w'.heap.size w' w'') (hB : B ≤ w.heap.size) : Keeps B Z w w'' := h.trans (Keeps.new (Nat.le_trans hB h.bel.size) h')
theorem Keeps.set (h : Keeps B Z w w') {p : Addr} (hp : B ≤ p.block) (hz : ¬ Z p.block) (u : Value) : Keeps B Z w (w'.setCell p u) :=
 ⟨h.bel.setCell hp u, fun b hb e => (Below.heap_setCell _ _ _ _ (fun e' => hz (e' ▸ e))).trans (h.z b hb e)⟩
theorem Keeps.set5 (h : Keeps B Z w w') {g : Nat} (hp : B ≤ g) (hz : ¬ Z g) (o : Nat) (v0 v1 v2 v3 v4 : Value) : Keeps B Z w (set5 w' g o v0 v1 v2 v3 v4) :=
 ((((h.set hp hz _).set hp hz _).set hp hz _).set hp hz _).set hp hz _
theorem Keeps.cell (h : Keeps B Z w w') {b : Nat} (hb : b < w.heap.size) (hz : Z b) (o : Nat) : w'.cell? ⟨b, o, none⟩ = w.cell? ⟨b, o, none⟩ := World.cell?_of_block (w := w) (a := ⟨b, o, none⟩) (h.z b hb hz)
theorem Keeps.frozen (h : Keeps B Z w w') {b : Nat} (hb : b < w.heap.size) (hz : Z b) (o : Nat) : w'.frozen? ⟨b, o, none⟩ = w.frozen? ⟨b, o, none⟩ := World.frozen?_of_block (w := w) (a := ⟨b, o, none⟩) (h.z b hb hz)
end
def wrC (x : WrM) : List Value := [.string x.k, .string x.v]
def wrsC (l : List WrM) : List Value := l.flatMap wrC
theorem wrsC_cons (r : WrM) (l : List WrM) : wrsC (r :: l) = .string r.k :: .string r.v :: wrsC l := rfl
theorem wrsC_append (a b : List WrM) : wrsC (a ++ b) = wrsC a ++ wrsC b := by simp [wrsC]
theorem wrsC_length (l : List WrM) : (wrsC l).length = l.length * 2 := by
 induction l with
 | nil => rfl
 | cons r l ih => rw [wrsC_cons]; simp [ih]; omega
theorem wrsC_one (l : List WrM) : ∀ v ∈ wrsC l, v.oneCell' = true := by
 induction l with
 | nil => intro v h; cases h
 | cons r l ih =>
  intro v h
  rw [wrsC_cons] at h
  simp only [List.mem_cons] at h
  rcases h with rfl | rfl | h
  ·rfl
  ·rfl
  ·exact ih v h
theorem wrsC_at {l : List WrM} {i : Nat} {r : WrM} (h : l[i]? = some r) : (wrsC l)[i * 2]? = some (.string r.k) ∧ (wrsC l)[i * 2 + 1]? = some (.string r.v) := by
 induction l generalizing i with
 | nil => cases h
 | cons x l ih =>
  rw [wrsC_cons]
  cases i with
  | zero => simp only [List.getElem?_cons_zero, Option.some.injEq] at h; subst h; exact ⟨rfl, rfl⟩
  | succ i =>
   have := ih (i := i) (by simpa using h)
   have e : (i + 1) * 2 = i * 2 + 2 := by omega
   rw [e]
   exact this
theorem SeqAt.wrCells {w : World} {P : Nat → Prop} {b o : Nat} {l : List WrM} (h : WrsAt w P (some ⟨b, o, none⟩) l) : ∀ j v, (wrsC l)[j]? = some v → w.cell? ⟨b, o + j, none⟩ = some v := by
 intro j v hj
 have hjl : j < l.length * 2 := by rw [← wrsC_length]; exact (List.getElem?_eq_some_iff.1 hj).1
 have hi : j / 2 < l.length := by omega
 obtain ⟨b', o', hA, _, hr⟩ := SeqAt.at_ h (i := j / 2) (List.getElem?_eq_getElem hi)
 have hA' : b = b' ∧ o = o' := by injection hA with hA; injection hA with h1 h2; exact ⟨h1, h2⟩
 obtain ⟨rfl, rfl⟩ := hA'
 obtain ⟨a0, a1⟩ := wrsC_at (List.getElem?_eq_getElem hi)
 have hm : j % 2 = 0 ∨ j % 2 = 1 := by omega
 rcases hm with hm | hm
 ·rw [show j / 2 * 2 = j by omega] at a0
  rw [hj] at a0
  rw [a0, show o + j = o + j / 2 * 2 by omega]; exact hr.k
 ·rw [show j / 2 * 2 + 1 = j by omega] at a1
  rw [hj] at a1
  rw [a1, show o + j = o + j / 2 * 2 + 1 by omega]; exact hr.v
theorem wrsAt_block {w : World} {P : Nat → Prop} {g : Nat} {l : List WrM} {cur : Array Value} {t : TypeId} {fr : Nat × Nat} (hlen : l.length ≤ 4398046511104) (hok : ∀ x ∈ l, x.k.size ≤ maxLen ∧ x.v.size ≤ maxLen) (hB : P g) (hg : w.heap[g]? = some (.cells cur t fr))
 (hc : ∀ (j : Nat) v, (wrsC l)[j]? = some v → cur[j]? = some v) : WrsAt w P (some ⟨g, 0, none⟩) l :=
 SeqAt.block hlen hB fun i r hr => by
  obtain ⟨a0, a1⟩ := wrsC_at hr
  exact ⟨by rw [Joins.cell_of_block hg]; exact hc _ _ a0, by rw [Joins.cell_of_block hg]; exact hc _ _ a1, hok r (List.mem_of_getElem? hr)⟩
theorem SeqAt.wrOk {w : World} {P : Nat → Prop} {A : Option Addr} {l : List WrM} (h : WrsAt w P A l) : ∀ x ∈ l, x.k.size ≤ maxLen ∧ x.v.size ≤ maxLen := by
 intro x hx
 obtain ⟨i, hi⟩ := List.getElem?_of_mem hx
 obtain ⟨_, _, _, _, hr⟩ := SeqAt.at_ h hi
 exact hr.ok
theorem wr_info : (Tryz.prog.info? 58).map (fun i => (i.zero, i.size, i.bytes)) = some (some (.agg #[.string ⟨#[]⟩, .string ⟨#[]⟩]), 2, 32) := by kernel_rfl
theorem row_info : (Tryz.prog.info? 45).map (fun i => (i.zero, i.size, i.bytes)) = some (some (.agg #[.string ⟨#[]⟩, .int .i64 0, .string ⟨#[]⟩, .string ⟨#[]⟩, .slice none 0 0]), 5, 80) := by kernel_rfl
theorem cl_info : (Tryz.prog.info? 49).map (fun i => (i.zero, i.size, i.bytes)) = some (some (.agg #[.int .i64 0, .int .i64 0, .int .i64 0, .slice none 0 0, .int .i64 0]), 5, 56) := by kernel_rfl
theorem make_wrs (n : Nat) (hn : n ≤ 4398046511104) : ∃ Z : Array Value, Z.size = n * 2 ∧ ∀ W : World, (Instr.makeSlice 47 (.int .i64 (n : Int)) (.int .i64 (n : Int))).run Tryz.prog W =
 .ok (.slice (some ⟨W.heap.size, 0, none⟩) n n) (W.alloc (.cells Z 58)) := by
 obtain ⟨i0, hi0, hz0, hz1, hz2⟩ := info_parts wr_info
 refine ⟨madeCells (Value.agg #[.string ⟨#[]⟩, .string ⟨#[]⟩]).cells (n * 2), by rw [size_madeCells], fun W => ?_⟩
 have h := run_make (P := Tryz.prog) W 47 58 i0 _ Tryz.underlying47 hi0 hz0 .i64 .i64 (n : Int) (n : Int) (by omega) (by omega) (by rw [hz2]; omega) (by omega)
 simp only [Int.toNat_natCast, hz1] at h
 exact h
theorem make_rows (n : Nat) (hn : n ≤ 1759218604441) : ∃ Z : Array Value, Z.size = n * 5 ∧ ∀ W : World, (Instr.makeSlice 22 (.int .i64 (n : Int)) (.int .i64 (n : Int))).run Tryz.prog W =
 .ok (.slice (some ⟨W.heap.size, 0, none⟩) n n) (W.alloc (.cells Z 45)) := by
 obtain ⟨i0, hi0, hz0, hz1, hz2⟩ := info_parts row_info
 refine ⟨madeCells (Value.agg #[.string ⟨#[]⟩, .int .i64 0, .string ⟨#[]⟩, .string ⟨#[]⟩, .slice none 0 0]).cells (n * 5), by rw [size_madeCells], fun W => ?_⟩
 have h := run_make (P := Tryz.prog) W 22 45 i0 _ Tryz.underlying22 hi0 hz0 .i64 .i64 (n : Int) (n : Int) (by omega) (by omega) (by rw [hz2]; omega) (by omega)
 simp only [Int.toNat_natCast, hz1] at h
 exact h
theorem make_cls (n : Nat) (hn : n ≤ 2513169434916) : ∃ Z : Array Value, Z = madeCells (Value.agg #[.int .i64 0, .int .i64 0, .int .i64 0, .slice none 0 0, .int .i64 0]).cells (n * 5) ∧ Z.size = n * 5 ∧ ∀ W : World, (Instr.makeSlice 23 (.int .i64 (n : Int)) (.int .i64 (n : Int))).run Tryz.prog W =
 .ok (.slice (some ⟨W.heap.size, 0, none⟩) n n) (W.alloc (.cells Z 49)) := by
 obtain ⟨i0, hi0, hz0, hz1, hz2⟩ := info_parts cl_info
 refine ⟨madeCells (Value.agg #[.int .i64 0, .int .i64 0, .int .i64 0, .slice none 0 0, .int .i64 0]).cells (n * 5), rfl, by rw [size_madeCells], fun W => ?_⟩
 have h := run_make (P := Tryz.prog) W 23 49 i0 _ Tryz.underlying23 hi0 hz0 .i64 .i64 (n : Int) (n : Int) (by omega) (by omega) (by rw [hz2]; omega) (by omega)
 simp only [Int.toNat_natCast, hz1] at h
 exact h
theorem copy_wrs (W : World) (ty : TypeId) (g n c : Nat) (P : Nat → Prop) (A : Option Addr) (l : List WrM) (Z : Array Value) (hn : n = l.length) (hl : WrsAt W P A l) (hZ : Z.size = n * 2) (hg : W.heap[g]? = some (.cells Z 58 (0, 0))) :
 (Builtin.copy_ #[47, 47] ty #[.slice (some ⟨g, 0, none⟩) n n, .slice A n c]).run Tryz.prog W = .ok (goInt n) (W.setRow g (wrsC l).toArray) := by
 obtain ⟨i0, hi0, _, hz1, _⟩ := info_parts wr_info
 rcases Nat.eq_zero_or_pos n with h0 | h0
 ·subst h0
  have : l = [] := List.eq_nil_of_length_eq_zero hn.symm
  subst this
  have hZ0 : Z = #[] := Array.eq_empty_of_size_eq_zero (by omega)
  subst hZ0
  have e : W.setRow g (wrsC []).toArray = W := setRow_self W g #[] _ _ hg
  rw [e]
  cases A with
  | none => simp [Builtin.copy_, run_underlying Tryz.underlying47, Builtin.lenOf, Builtin.firstCells, sizeOf, typeInfo, hi0, storeCells]
  | some a =>
   have h1 := run_loadCells_list (P := Tryz.prog) W a [] (by simp)
   simp only [List.length_nil] at h1
   simp [Builtin.copy_, run_underlying Tryz.underlying47, Builtin.lenOf, Builtin.firstCells, sizeOf, typeInfo, hi0, storeCells, h1]
 ·obtain ⟨b, o, rfl, _, _⟩ := hl.2 (by omega)
  have hsrc : ∀ j v, (wrsC l)[j]? = some v → W.cell? ((⟨b, o, none⟩ : Addr).add j) = some v := by
   intro j v hj
   have e : (⟨b, o, none⟩ : Addr).add j = ⟨b, o + j, none⟩ := by unfold Addr.add; split <;> simp_all
   rw [e]
   exact SeqAt.wrCells hl j v hj
  have h1 := run_loadCells_list (P := Tryz.prog) W ⟨b, o, none⟩ (wrsC l) hsrc
  have h2 := run_storeCells_at Tryz.prog g 0 58 (wrsC l) 0 Z W hg (by rw [wrsC_length]; omega) (wrsC_one l)
  have hd : Z.toList.drop (wrsC l).length = [] := List.drop_eq_nil_of_le (by rw [wrsC_length]; simp; omega)
  have hlen : (wrsC l).length = n * 2 := by rw [wrsC_length, hn]
  rw [hlen] at h1
  simp only [Nat.zero_add, List.take_zero, List.nil_append, hd, List.append_nil] at h2
  simp [Builtin.copy_, run_underlying Tryz.underlying47, Builtin.lenOf, Builtin.firstCells, sizeOf, typeInfo, hi0, hz1, h1, h2]
abbrev clV (c : ClM) (A : Option Addr) (n k : Nat) : Value := .agg #[.int .i64 c.ph, .int .i64 c.st, .int .i64 c.cm, .slice A n k, .int .i64 c.at_]
def ClOut (c : ClM) (w : World) (e : Ending) (w' : World) : Prop :=
 e = .returned (clV c (some ⟨w.heap.size + 2, 0, none⟩) c.ws.length c.ws.length) ∧ WrsAt w' (· = w.heap.size + 2) (some ⟨w.heap.size + 2, 0, none⟩) c.ws ∧ w.heap.size + 2 < w'.heap.size ∧ (∀ o, w'.frozen? ⟨w.heap.size + 2, o, none⟩ = false) ∧ Below w.heap.size w w'
set_option maxHeartbeats 2000000 in
theorem copyClient_any (c : ClM) (A : Option Addr) (n k : Nat) (w : World) (hn : n = c.ws.length) (hl : WrsAt w (· < w.heap.size) A c.ws) :
 Calls Tryz.prog 28 #[clV c A n k] w (ClOut c w) := by
 have hlen := hl.1
 subst hn
 obtain ⟨ph, st, cm, l, a⟩ := c
 dsimp only at hl hlen ⊢
 obtain ⟨Z, hZ, hmk⟩ := make_wrs l.length hlen
 obtain ⟨W3, hW3⟩ : ∃ W3, W3 = ((w.alloc (.cells #[.int .i64 ph, .int .i64 st, .int .i64 cm, .slice A l.length k, .int .i64 a] 49)).alloc (.cells #[.int .i64 0, .int .i64 0, .int .i64 0, .slice none 0 0, .int .i64 0] 49)).alloc (.cells Z 58) := ⟨_, rfl⟩
 have hb3 : Below w.heap.size w W3 := by rw [hW3]; repeat (first | with_reducible exact Below.refl _ _ | assumption | with_reducible apply below_alloc | with_reducible apply below_drew | with_reducible apply below_drewN | (with_reducible apply below_next; rotate_left; assumption))
 have hs3 : W3.heap.size = w.heap.size + 3 := by rw [hW3]; simp
 obtain ⟨hB0, hB1, hg3⟩ := three_blocks w (.cells #[.int .i64 ph, .int .i64 st, .int .i64 cm, .slice A l.length k, .int .i64 a] 49) (.cells #[.int .i64 0, .int .i64 0, .int .i64 0, .slice none 0 0, .int .i64 0] 49) (.cells Z 58)
 rw [← hW3] at hB0 hB1 hg3
 have hl3 : WrsAt W3 (· < W3.heap.size) A l := SeqAt.wrs hl (below_mem hb3).1 (below_mem hb3).2
 have hcp := copy_wrs W3 3 (w.heap.size + 2) l.length k _ A l Z rfl hl3 hZ hg3
 obtain ⟨W4, hW4⟩ : ∃ W4, W4 = W3.setRow (w.heap.size + 2) (wrsC l).toArray := ⟨_, rfl⟩
 rw [← hW4] at hcp
 have hg4 : W4.heap[w.heap.size + 2]? = some (.cells (wrsC l).toArray 58 (0, 0)) := by rw [hW4]; exact setRow_heap _ _ _ _ _ _ hg3
 have hb4 : Below (w.heap.size + 2) W3 W4 := by rw [hW4]; exact below_setRow (Below.refl _ _) (Nat.le_refl _) _
 have hD0 := (hb4.block w.heap.size (by omega)).trans hB0
 have hD1 := (hb4.block (w.heap.size + 1) (by omega)).trans hB1
 have hs4 : w.heap.size + 2 < W4.heap.size := by have := hb4.size; omega
 have hbw4 : Below w.heap.size w W4 := hb3.trans (hb4.mono (by omega))
 rw [hW3] at hcp
 have p0 : W4.cell? ⟨w.heap.size, 0, none⟩ = some (.int .i64 ph) := by rw [Joins.cell_of_block hD0]; rfl
 have p1 : W4.cell? ⟨w.heap.size, 1, none⟩ = some (.int .i64 st) := by rw [Joins.cell_of_block hD0]; rfl
 have p2 : W4.cell? ⟨w.heap.size, 2, none⟩ = some (.int .i64 cm) := by rw [Joins.cell_of_block hD0]; rfl
 have p3 : W4.cell? ⟨w.heap.size, 3, none⟩ = some (.slice A l.length k) := by rw [Joins.cell_of_block hD0]; rfl
 have p4 : W4.cell? ⟨w.heap.size, 4, none⟩ = some (.int .i64 a) := by rw [Joins.cell_of_block hD0]; rfl
 have p5 : W4.frozen? ⟨w.heap.size, 3, none⟩ = false := Joins.unfrozen_of_block hD0 _
 have q0 : W4.cell? ⟨w.heap.size + 1, 0, none⟩ = some (.int .i64 0) := by rw [Joins.cell_of_block hD1]; rfl
 have q1 : W4.cell? ⟨w.heap.size + 1, 1, none⟩ = some (.int .i64 0) := by rw [Joins.cell_of_block hD1]; rfl
 have q2 : W4.cell? ⟨w.heap.size + 1, 2, none⟩ = some (.int .i64 0) := by rw [Joins.cell_of_block hD1]; rfl
 have q3 : W4.cell? ⟨w.heap.size + 1, 3, none⟩ = some (.slice none 0 0) := by rw [Joins.cell_of_block hD1]; rfl
 have q4 : W4.cell? ⟨w.heap.size + 1, 4, none⟩ = some (.int .i64 0) := by rw [Joins.cell_of_block hD1]; rfl
 have f0 : W4.frozen? ⟨w.heap.size + 1, 0, none⟩ = false := Joins.unfrozen_of_block hD1 _
 have f1 : W4.frozen? ⟨w.heap.size + 1, 1, none⟩ = false := Joins.unfrozen_of_block hD1 _
 have f2 : W4.frozen? ⟨w.heap.size + 1, 2, none⟩ = false := Joins.unfrozen_of_block hD1 _
 have f3 : W4.frozen? ⟨w.heap.size + 1, 3, none⟩ = false := Joins.unfrozen_of_block hD1 _
 have f4 : W4.frozen? ⟨w.heap.size + 1, 4, none⟩ = false := Joins.unfrozen_of_block hD1 _
 have HG := Lib.hid hg4
 have HB4 := Lib.hid hbw4
 have HL := Lib.hid hl
 have HOK := Lib.hid (SeqAt.wrOk hl)
 clear hg4 hb4 hbw4 hD0 hD1 hW4 hW3 hB0 hB1 hg3 hb3 hs3 hl hl3 W3
 go_enter Tryz.func28, Tryz.ntmps28
 go_wp2
 refine bodyPost_ret (v := clV ⟨ph, st, cm, l, a⟩ (some ⟨w.heap.size + 2, 0, none⟩) l.length l.length) (by simp [results, Tryz.results28, go_sem, q0, q1, q2, q3, q4]) rfl ⟨rfl, ?_, ?_, ?_, ?_⟩
 ·refine wrsAt_block HL.out.1 HOK.out rfl (cur := (wrsC l).toArray) (t := 58) (fr := (0, 0)) ?_ (fun j v h => by simpa using h)
  repeat (rw [Below.heap_setCell _ _ _ _ (by simp)])
  exact HG.out
 ·simp [World.setCell]; omega
 ·intro o
  simp only [World.frozen?_setCell]
  exact Joins.unfrozen_of_block HG.out _
 ·repeat (refine below_set ?_ (by simp) _)
  exact HB4.out
structure RowsDone (g : Nat) (l : List RowM) (k : Nat) (wr : World) : Prop where
 blk : ∃ cur, wr.heap[g]? = some (.cells cur 45 (0, 0)) ∧ cur.size = l.length * 5
 rows : ∀ i r, i < k → l[i]? = some r → RowAt wr (fun b => g < b ∧ b < wr.heap.size) g (i * 5) r
structure ClsDone (g : Nat) (l : List ClM) (k : Nat) (wb : Nat → Nat) (wr : World) : Prop where
 blk : ∃ cur, wr.heap[g]? = some (.cells cur 49 (0, 0)) ∧ cur.size = l.length * 5
 cls : ∀ i c, i < k → l[i]? = some c → ClAt wr (· = wb i) g (i * 5) c
 wB : ∀ i, i < k → g < wb i ∧ wb i < wr.heap.size
 inc : ∀ i j, i < j → j < k → wb i < wb j
 wf : ∀ i o, i < k → wr.frozen? ⟨wb i, o, none⟩ = false
 tight : ∀ i c, i < k → l[i]? = some c → wr.cell? ⟨g, i * 5 + 3, none⟩ = some (.slice (some ⟨wb i, 0, none⟩) c.ws.length c.ws.length)
theorem block_cell {w : World} {g j n : Nat} {cur : Array Value} {t : TypeId} (hg : w.heap[g]? = some (.cells cur t (0, 0))) (hn : cur.size = n) (hj : j < n) : ∃ v, w.cell? ⟨g, j, none⟩ = some v ∧ w.frozen? ⟨g, j, none⟩ = false :=
 ⟨cur[j]'(by omega), by rw [Joins.cell_of_block hg]; simp [hn, hj], Joins.unfrozen_of_block hg _⟩
theorem block_set {w : World} {g o n : Nat} {t : TypeId} (h : ∃ cur, w.heap[g]? = some (.cells cur t (0, 0)) ∧ cur.size = n) (u : Value) : ∃ cur, (w.setCell ⟨g, o, none⟩ u).heap[g]? = some (.cells cur t (0, 0)) ∧ cur.size = n := by
 obtain ⟨cur, hg, hn⟩ := h
 refine ⟨cur.modify o (fun _ => u), ?_, by simpa using hn⟩
 simp only [World.setCell, Array.getElem?_modify, if_true, hg, Option.map_some]
 rfl
section
variable {g k : Nat} {l : List RowM} {m : List ClM} {wb : Nat → Nat} {w w' : World}
theorem RowsDone.lt (h : RowsDone g l k w) : g < w.heap.size := by obtain ⟨_, h, _⟩ := h.blk; exact (Array.getElem?_eq_some_iff.1 h).1
theorem RowsDone.upto (h : RowsDone g l k w) (hb : Below w.heap.size w w') : RowsDone g l k w' := by
 obtain ⟨cur, hg, hn⟩ := h.blk
 obtain ⟨h1, h2⟩ := below_mem hb
 exact ⟨⟨cur, (hb.block g h.lt).trans hg, hn⟩, fun i r hi hr => (h.rows i r hi hr).mono (fun b hb => ⟨hb.1, h1 b hb.2⟩) (fun b k hb => h2 b k hb.2) (fun k _ _ => h2 g k h.lt)⟩
theorem RowsDone.cell (h : RowsDone g l k w) (hk : k < l.length) (j : Nat) (hj : j < 5) : ∃ v, w.cell? ⟨g, k * 5 + j, none⟩ = some v ∧ w.frozen? ⟨g, k * 5 + j, none⟩ = false := by
 obtain ⟨cur, hg, hn⟩ := h.blk
 exact block_cell hg hn (by omega)
theorem RowsDone.step (h : RowsDone g l k w) {r : RowM} {A : Option Addr} {c : Nat} (hr : l[k]? = some r) (hl : RecsAt w w.heap.size A r.recs) (hn : NewAt (g + 1) A) (hc : r.recs.length ≤ c) (hok : RowOk r) :
 RowsDone g l (k + 1) (set5 w g (k * 5) (.string r.key) (.int .i64 r.ls) (.string r.lp) (.string r.val) (.slice A r.recs.length c)) := by
 have hk := (List.getElem?_eq_some_iff.1 hr).1
 have hs := set5_same w g (k * 5) (.string r.key) (.int .i64 r.ls) (.string r.lp) (.string r.val) (.slice A r.recs.length c)
 obtain ⟨_, e0, _⟩ := h.cell hk 0 (by omega)
 obtain ⟨_, e1, _⟩ := h.cell hk 1 (by omega)
 obtain ⟨_, e2, _⟩ := h.cell hk 2 (by omega)
 obtain ⟨_, e3, _⟩ := h.cell hk 3 (by omega)
 obtain ⟨_, e4, _⟩ := h.cell hk 4 (by omega)
 obtain ⟨a0, a1, a2, a3, a4⟩ := set5_at e0 e1 e2 e3 e4 (.string r.key) (.int .i64 r.ls) (.string r.lp) (.string r.val) (.slice A r.recs.length c)
 refine ⟨block_set (block_set (block_set (block_set (block_set h.blk _) _) _) _) _, fun i x hi hx => ?_⟩
 rw [hs.sz]
 by_cases e : i = k
 ·subst e
  rw [hr] at hx
  injection hx with hx
  subst hx
  refine ⟨a0, a1, a2, a3, ⟨A, c, a4, hc, ?_⟩, hok⟩
  refine (RecsAt.in_ (P := fun b => g < b ∧ b < w.heap.size) hl fun ad hA hb => ⟨by have := hn ad hA; omega, hb⟩).mono (fun _ hb => hb) fun b k' hb => hs.cell _ fun e => ?_
  have : b = g := e.1
  omega
 ·refine (h.rows i x (by omega) hx).mono (fun _ hb => hb) (fun b k' hb => hs.cell _ fun e => ?_) (fun k' h1 h2 => hs.cell _ fun e' => ?_)
  ·have : b = g := e.1
   omega
  ·have h3 : k * 5 ≤ k' := e'.2.1
   have h4 : k' < k * 5 + 5 := e'.2.2
   omega
theorem ClsDone.lt (h : ClsDone g m k wb w) : g < w.heap.size := by obtain ⟨_, h, _⟩ := h.blk; exact (Array.getElem?_eq_some_iff.1 h).1
theorem ClsDone.upto (h : ClsDone g m k wb w) (hb : Below w.heap.size w w') : ClsDone g m k wb w' := by
 obtain ⟨cur, hg, hn⟩ := h.blk
 obtain ⟨h1, h2⟩ := below_mem hb
 exact ⟨⟨cur, (hb.block g h.lt).trans hg, hn⟩, fun i r hi hr => (h.cls i r hi hr).mono (fun b hb => hb) (fun b k hp => h2 b k (by rw [hp]; exact (h.wB i hi).2)) (fun k _ _ => h2 g k h.lt), fun i hi => ⟨(h.wB i hi).1, h1 _ (h.wB i hi).2⟩, h.inc, fun i o hi => ((bcell hb).2 _ o (h.wB i hi).2).trans (h.wf i o hi), fun i c hi hc => (h2 g _ h.lt).trans (h.tight i c hi hc)⟩
theorem ClsDone.cell (h : ClsDone g m k wb w) (hk : k < m.length) (j : Nat) (hj : j < 5) : ∃ v, w.cell? ⟨g, k * 5 + j, none⟩ = some v ∧ w.frozen? ⟨g, k * 5 + j, none⟩ = false := by
 obtain ⟨cur, hg, hn⟩ := h.blk
 exact block_cell hg hn (by omega)
theorem ClsDone.step (h : ClsDone g m k wb w) {c : ClM} {b : Nat} (hr : m[k]? = some c) (hl : WrsAt w (· = b) (some ⟨b, 0, none⟩) c.ws) (hg : g < b) (hb : b < w.heap.size) (hi : ∀ i, i < k → wb i < b) (hf : ∀ o, w.frozen? ⟨b, o, none⟩ = false) (hok : ClOk c) :
 ClsDone g m (k + 1) (fun i => if i = k then b else wb i) (set5 w g (k * 5) (.int .i64 c.ph) (.int .i64 c.st) (.int .i64 c.cm) (.slice (some ⟨b, 0, none⟩) c.ws.length c.ws.length) (.int .i64 c.at_)) := by
 have hk := (List.getElem?_eq_some_iff.1 hr).1
 have hs := set5_same w g (k * 5) (.int .i64 c.ph) (.int .i64 c.st) (.int .i64 c.cm) (.slice (some ⟨b, 0, none⟩) c.ws.length c.ws.length) (.int .i64 c.at_)
 obtain ⟨_, e0, _⟩ := h.cell hk 0 (by omega)
 obtain ⟨_, e1, _⟩ := h.cell hk 1 (by omega)
 obtain ⟨_, e2, _⟩ := h.cell hk 2 (by omega)
 obtain ⟨_, e3, _⟩ := h.cell hk 3 (by omega)
 obtain ⟨_, e4, _⟩ := h.cell hk 4 (by omega)
 obtain ⟨a0, a1, a2, a3, a4⟩ := set5_at e0 e1 e2 e3 e4 (.int .i64 c.ph) (.int .i64 c.st) (.int .i64 c.cm) (.slice (some ⟨b, 0, none⟩) c.ws.length c.ws.length) (.int .i64 c.at_)
 refine ⟨block_set (block_set (block_set (block_set (block_set h.blk _) _) _) _) _, fun i x hi' hx => ?_, fun i hi' => ?_, fun i j hij hj => ?_, fun i o hi' => ?_, fun i x hi' hx => ?_⟩
 ·by_cases e : i = k
  ·subst e
   rw [hr] at hx
   injection hx with hx
   subst hx
   simp only [if_true]
   refine ⟨a0, a1, a2, ⟨_, _, a3, Nat.le_refl _, ?_⟩, a4, hok⟩
   refine SeqAt.wrs hl (fun _ hb => hb) fun b' k' hb' => hs.cell _ fun e => ?_
   have : b' = g := e.1
   omega
  ·simp only [e, if_false]
   have hik : i < k := by omega
   refine (h.cls i x hik hx).mono (fun _ hb => hb) (fun b' k' hb' => hs.cell _ fun e => ?_) (fun k' h1 h2 => hs.cell _ fun e' => ?_)
   ·have : b' = g := e.1
    have := (h.wB i hik).1
    omega
   ·have h3 : k * 5 ≤ k' := e'.2.1
    have h4 : k' < k * 5 + 5 := e'.2.2
    omega
 ·rw [hs.sz]
  by_cases e : i = k
  ·simp only [e, if_true]; exact ⟨hg, hb⟩
  ·simp only [e, if_false]; exact h.wB i (by omega)
 ·by_cases e : j = k
  ·have e' : ¬ i = k := by omega
   simp only [e, e', if_true, if_false]; exact hi i (by omega)
  ·have e' : ¬ i = k := by omega
   simp only [e, e', if_false]; exact h.inc i j hij (by omega)
 ·rw [hs.fr]
  by_cases e : i = k
  ·simp only [e, if_true]; exact hf o
  ·simp only [e, if_false]; exact h.wf i o (by omega)
 ·by_cases e : i = k
  ·subst e
   have hx := Option.some.inj (hr.symm.trans hx)
   subst hx
   rw [if_pos rfl]
   exact a3
  ·simp only [e, if_false]
   refine (hs.cell _ fun e' => ?_).trans (h.tight i x (by omega) hx)
   have h3 : k * 5 ≤ i * 5 + 3 := e'.2.1
   have h4 : i * 5 + 3 < k * 5 + 5 := e'.2.2
   omega
end
theorem RowsDone.same {g k : Nat} {l : List RowM} {w w' : World} {S : Addr → Prop} (h : RowsDone g l k w) (hs : Same w w' S) (hS : ∀ p, S p → p.block < g) (hg : w'.heap[g]? = w.heap[g]?) : RowsDone g l k w' := by
 obtain ⟨cur, hc, hn⟩ := h.blk
 refine ⟨⟨cur, hg.trans hc, hn⟩, fun i r hi hr => ?_⟩
 rw [hs.sz]
 refine (h.rows i r hi hr).mono (fun b hb => hb) (fun b k hb => hs.cell _ fun e => ?_) (fun k _ _ => hs.cell _ fun e => ?_)
 ·have := hS _ e
  have : b < g := this
  omega
 ·have := hS _ e
  have : g < g := this
  omega
theorem ClsDone.same {g k : Nat} {m : List ClM} {wb : Nat → Nat} {w w' : World} {S : Addr → Prop} (h : ClsDone g m k wb w) (hs : Same w w' S) (hS : ∀ p, S p → p.block < g) (hg : w'.heap[g]? = w.heap[g]?) : ClsDone g m k wb w' := by
 obtain ⟨cur, hc, hn⟩ := h.blk
 refine ⟨⟨cur, hg.trans hc, hn⟩, fun i c hi hr => ?_, fun i hi => by rw [hs.sz]; exact h.wB i hi, h.inc, fun i o hi => (hs.fr _).trans (h.wf i o hi), fun i c hi hc => (hs.cell _ fun e => by have : g < g := hS _ e; omega).trans (h.tight i c hi hc)⟩
 refine (h.cls i c hi hr).mono (fun b hb => hb) (fun b k hb => hs.cell _ fun e => ?_) (fun k _ _ => hs.cell _ fun e => ?_)
 ·have : b < g := hS _ e
  have := (h.wB i hi).1
  omega
 ·have : g < g := hS _ e
  omega
def WoOut (wo : WoM) (w : World) (e : Ending) (w' : World) : Prop :=
 ∃ bR bC wb, e = .returned (woV (some ⟨bR, 0, none⟩) wo.rows.length wo.rows.length wo.clock (some ⟨bC, 0, none⟩) wo.cls.length wo.cls.length) ∧ Core w' w.heap.size (fun b => b < w.heap.size) bR bC wb wo ∧ Below w.heap.size w w' ∧ ∀ i c, wo.cls[i]? = some c → w'.cell? ⟨bC, i * 5 + 3, none⟩ = some (.slice (some ⟨wb i, 0, none⟩) c.ws.length c.ws.length)
theorem core_of {w : World} {B bR bC : Nat} {wb : Nat → Nat} {wo : WoM} (hR : RowsDone bR wo.rows wo.rows.length w) (hC : ClsDone bC wo.cls wo.cls.length wb w) (hB : B ≤ bR) (hlt : bR < bC) (hrecs : ∀ i r, wo.rows[i]? = some r → RowAt w (fun b => bR < b ∧ b < bC) bR (i * 5) r) (rl : wo.rows.length ≤ 1759218604441) (cl : wo.cls.length ≤ 2513169434916) (ck : i64 wo.clock) :
 Core w B (fun b => b < B) bR bC wb wo := by
 obtain ⟨cur, hg, _⟩ := hR.blk
 obtain ⟨cur', hg', _⟩ := hC.blk
 refine ⟨⟨hB, hR.lt, by omega⟩, ⟨by omega, hC.lt, by omega⟩, by omega, fun i hi => ?_, fun i j hi hj e => ?_, fun o => Joins.unfrozen_of_block hg o, fun o => Joins.unfrozen_of_block hg' o, hC.wf, fun i r hr => ?_, fun i c hc => hC.cls i c (List.getElem?_eq_some_iff.1 hc).1 hc, rl, cl, ck⟩
 ·obtain ⟨a, b⟩ := hC.wB i hi
  exact ⟨by omega, b, by omega, by omega, by omega⟩
 ·rcases Nat.lt_trichotomy i j with h | h | h
  ·have := hC.inc i j h hj; omega
  ·exact h
  ·have := hC.inc j i h hi; omega
 ·have hlt' := hC.lt
  refine (hrecs i r hr).mono (fun b hb => ⟨by omega, by omega, by omega, by omega, fun j hj => ?_⟩) (fun _ _ _ => rfl) (fun _ _ _ => rfl)
  have := (hC.wB j hj).1
  omega
def CellsAt (w : World) (b o : Nat) (cs : List Value) : Prop := ∀ j v, cs[j]? = some v → w.cell? ⟨b, o + j, none⟩ = some v
theorem add_none (b o j : Nat) : (⟨b, o, none⟩ : Addr).add j = ⟨b, o + j, none⟩ := by unfold Addr.add; split <;> simp_all
theorem CellsAt.add {w : World} {b o : Nat} {cs : List Value} (h : CellsAt w b o cs) : ∀ j v, cs[j]? = some v → w.cell? ((⟨b, o, none⟩ : Addr).add j) = some v := fun j v hj => by rw [add_none]; exact h j v hj
theorem CellsAt.keep {w w' : World} {b o : Nat} {cs : List Value} (h : CellsAt w b o cs) (hk : ∀ k, w'.cell? ⟨b, k, none⟩ = w.cell? ⟨b, k, none⟩) : CellsAt w' b o cs := fun j v hj => (hk _).trans (h j v hj)
theorem CellsAt.drop {w : World} {b : Nat} {cs : List Value} (h : CellsAt w b 0 cs) (k : Nat) : CellsAt w b k (cs.drop k) := fun j v hj => by
 rw [List.getElem?_drop] at hj
 have := h _ v hj
 rwa [Nat.zero_add] at this
theorem CellsAt.take {w : World} {b o : Nat} {cs : List Value} (h : CellsAt w b o cs) (k : Nat) : CellsAt w b o (cs.take k) := fun j v hj => by
 rw [List.getElem?_take] at hj
 split at hj
 ·exact h j v hj
 ·cases hj
theorem cellsAt_block {w : World} {g : Nat} {cur : Array Value} {t : TypeId} {fr : Nat × Nat} (hg : w.heap[g]? = some (.cells cur t fr)) {cs rest : List Value} (h : cur.toList = cs ++ rest) : CellsAt w g 0 cs := fun j v hj => by
 rw [Nat.zero_add, Joins.cell_of_block hg]
 have : cur.toList[j]? = some v := by
  rw [h, List.getElem?_append_left (List.getElem?_eq_some_iff.1 hj).1]; exact hj
 simpa using this
section
variable {P : Program} {t ti ty e : TypeId} {i0 : TypeInfo} {z : Value} {sz bytes : Nat}
theorem run_append_make (ht : P.underlying t = some (.slice e)) (hti : P.underlying ti = some (.int .i64)) (hi : P.info? e = some i0) (hz : i0.zero = some z) (hsz : i0.size = sz) (hby : i0.bytes = bytes) (hs0 : 0 < sz) (hb : bytes ≤ 1000)
 (w : World) (b i n : Nat) (k : Int) (olds : List Value) (hlo : olds.length = i * sz) (holds : CellsAt w b 0 olds) (hin : i ≤ n) (hn : n ≤ 1000) (hk : k = (n : Int) + 1 - i) :
 (Builtin.append_ #[t, ti] ty #[.slice (some ⟨b, 0, none⟩) i n, .int .i64 k]).run P w =
  .ok (.slice (some ⟨w.heap.size, 0, none⟩) (n + 1) (grownCap w (n + 1) n e)) (w.drew.alloc (.cells (olds.toArray ++ Builtin.zeroCells z.cells (n + 1 - i) ++ Builtin.zeroCells z.cells (grownCap w (n + 1) n e - (n + 1))) e)) := by
 subst hsz hby
 obtain ⟨m, rfl⟩ : ∃ m : Nat, k = (m : Int) := ⟨n + 1 - i, by omega⟩
 have hm : m = n + 1 - i := by omega
 have h1 : IntKind.i64.wrap (m : Int) = (m : Int) := IntWalk.i64_in _ (by omega)
 have hn1 : ¬ (i + m ≤ n) := by omega
 have hnb : (m : Int) * (i0.bytes : Int) ≤ 1001 * 1000 := Int.mul_le_mul (by omega) (by omega) (by omega) (by omega)
 have h48 : ¬ ((281474976710656 : Int) < (m : Int) * (i0.bytes : Int)) := by omega
 have hfit : Builtin.nextslicecap (i + m) n * i0.bytes ≤ 281474976710656 := growslice_fits (by omega) (by
  have : (i + m) * i0.bytes ≤ 1001 * 1000 := Nat.mul_le_mul (by omega) hb
  omega)
 have h48' : ¬ (281474976710656 < Builtin.nextslicecap (i + m) n * i0.bytes) := by omega
 have h63' : ¬ (9223372036854775807 < ((i : Int) + (m : Int))) := by omega
 have hm0 : ¬ (m * i0.size = 0) := by
  intro h
  rcases Nat.mul_eq_zero.1 h with h | h <;> omega
 have hfo := run_firstCells_some (P := P) w.drew i0.size i ⟨b, 0, none⟩ i n olds hlo (by simpa using holds.add)
 simp [Builtin.append_, run_underlying ht, run_underlying hti, sizeOf, typeInfo, zeroValue, hi, hz, hn1, h1, h48, h48', h63', Question.forced, hfo, newRow, grownCap, asInt, asIntOf]
 rw [if_neg (by omega), if_neg hm0]
 have e : i + m = n + 1 := by omega
 rw [e, ← hm]
theorem run_copy_mid (ht : P.underlying t = some (.slice e)) (hi : P.info? e = some i0) (hsz : i0.size = sz)
 (W : World) (g o b o2 n1 c1 n2 c2 k : Nat) (cur : Array Value) (L : List Value) (hg : W.heap[g]? = some (.cells cur e (0, 0))) (hk : k = min n1 n2) (hL : L.length = k * sz) (hsrc : CellsAt W b o2 L) (hfit : o + k * sz ≤ cur.size) (h1 : ∀ v ∈ L, v.oneCell' = true) :
 (Builtin.copy_ #[t, t] ty #[.slice (some ⟨g, o, none⟩) n1 c1, .slice (some ⟨b, o2, none⟩) n2 c2]).run P W = .ok (goInt k) (W.setRow g (cur.toList.take o ++ L ++ cur.toList.drop (o + L.length)).toArray) := by
 subst hsz
 have r1 := run_loadCells_list (P := P) W ⟨b, o2, none⟩ L hsrc.add
 have r2 := run_storeCells_at P g o e L 0 cur W hg (by omega) h1
 rw [hL] at r1
 simp only [Nat.add_zero] at r2
 have hmin : n2.min n1 = k := by rw [hk]; exact Nat.min_comm _ _
 simp [Builtin.copy_, run_underlying ht, Builtin.lenOf, Builtin.firstCells, sizeOf, typeInfo, hi, hmin, r1, r2]
end
theorem wpList_append_to {P : Program} {ops : Array Oper} {rest : List Oper} {o : Oper} {a : Act} {w w' : World} {Q : Exit → Act → World → Prop} (hgd : o.guard = none) (s x : Operand) (t u : TypeId)
 (ho : o.op = .call { callee := .builtin .append, args := #[s, x], argTypes := #[t, u] }) (v y v' : Value) (hs : a.eval s = v) (hx : a.eval x = y) (hrun : (Builtin.append_ #[t, u] o.type #[v, y]).run P w = .ok v' w')
 (h : wpList P ops Q rest (a.put o.dst v') w') : wpList P ops Q (o :: rest) a w := by
 refine wpList_plain hgd fun K hK => ?_
 unfold Oper.wp execOp
 simp only [ho, resolve, invoke, builtin, Sem.run_bind, Sem.run_pure, Result.andThen_ok, List.map_toArray, List.map_cons, List.map_nil, hs, hx, hrun]
 exact hK _ _ h
structure InsRuns (P : Program) (t ti e : TypeId) (sz : Nat) (w : World) (b bv n i : Nat) (cs vs : List Value) (c : Nat) (W2 W3 W4 : World) : Prop where
 r1 : (Builtin.append_ #[t, ti] t #[.slice (some ⟨b, 0, none⟩) i n, .int .i64 ((n : Int) + 1 - i)]).run P w = .ok (.slice (some ⟨w.heap.size, 0, none⟩) (n + 1) c) W2
 r2 : (Builtin.copy_ #[t, t] ti #[.slice (some ⟨w.heap.size, i * sz, none⟩) (n + 1 - i) (c - i), .slice (some ⟨bv, 0, none⟩) 1 1]).run P W2 = .ok (goInt 1) W3
 r3 : (Builtin.copy_ #[t, t] ti #[.slice (some ⟨w.heap.size, (i + 1) * sz, none⟩) (n + 1 - (i + 1)) (c - (i + 1)), .slice (some ⟨b, i * sz, none⟩) (n - i) (n - i)]).run P W3.drew = .ok (goInt ((n - i : Nat) : Int)) W4
 cap : n + 1 ≤ c
 blk : ∃ cur rest, W4.heap[w.heap.size]? = some (.cells cur e (0, 0)) ∧ cur.toList = (cs.take (i * sz) ++ vs ++ cs.drop (i * sz)) ++ rest
 bel : Below w.heap.size w W4
theorem ins_runs {P : Program} {t ti e : TypeId} {i0 : TypeInfo} {z : Value} {sz bytes : Nat} (ht : P.underlying t = some (.slice e)) (hti : P.underlying ti = some (.int .i64)) (hi : P.info? e = some i0) (hz : i0.zero = some z) (hsz : i0.size = sz) (hby : i0.bytes = bytes) (hzs : z.cells.size = sz) (hs0 : 0 < sz) (hb : bytes ≤ 1000)
 (w : World) (b bv n i : Nat) (cs vs : List Value) (hcl : cs.length = n * sz) (hvl : vs.length = sz) (hc : CellsAt w b 0 cs) (hv : CellsAt w bv 0 vs) (hbw : b < w.heap.size) (hbvw : bv < w.heap.size) (hc1 : ∀ v ∈ cs, v.oneCell' = true) (hv1 : ∀ v ∈ vs, v.oneCell' = true) (hin : i < n) (hn : n ≤ 1000) :
 ∃ c W2 W3 W4, InsRuns P t ti e sz w b bv n i cs vs c W2 W3 W4 := by
 have him : i * sz ≤ n * sz := Nat.mul_le_mul_right _ (by omega)
 have hol : (cs.take (i * sz)).length = i * sz := by rw [List.length_take, hcl]; omega
 have r1 := run_append_make (ty := t) ht hti hi hz hsz hby hs0 hb w b i n ((n : Int) + 1 - i) (cs.take (i * sz)) hol (hc.take _) (by omega) hn rfl
 have hge := grownCap_ge w (n + 1) n e
 generalize hcap : grownCap w (n + 1) n e = c at r1 hge
 clear hcap
 generalize hcur : (cs.take (i * sz)).toArray ++ Builtin.zeroCells z.cells (n + 1 - i) ++ Builtin.zeroCells z.cells (c - (n + 1)) = cur at r1
 have hsize : cur.size = c * sz := by
  rw [← hcur]
  simp only [Array.size_append, List.size_toArray, size_zeroCells, hol, hzs]
  rw [← Nat.add_mul, ← Nat.add_mul]
  congr 1
  omega
 have htk : cur.toList.take (i * sz) = cs.take (i * sz) := by
  rw [← hcur]
  simp only [Array.toList_append, List.append_assoc]
  rw [List.take_append_of_le_length (by rw [hol]; omega), List.take_of_length_le (by rw [hol]; omega)]
 clear hcur
 have hg2 : (w.drew.alloc (.cells cur e)).heap[w.heap.size]? = some (.cells cur e (0, 0)) := heap_alloc_new w.drew _
 have hb2 : Below w.heap.size w (w.drew.alloc (.cells cur e)) := below_alloc (below_drew (Below.refl _ _)) _
 generalize w.drew.alloc (.cells cur e) = W2 at r1 hg2 hb2
 have old : ∀ {W : World}, Below w.heap.size w W → ∀ {b' o : Nat} {L : List Value}, b' < w.heap.size → CellsAt w b' o L → CellsAt W b' o L := fun hb b' _ _ hlt h => h.keep fun k => hb.cell (p := ⟨b', k, none⟩) hlt
 have hfit1 : i * sz + 1 * sz ≤ cur.size := by rw [hsize, ← Nat.add_mul]; exact Nat.mul_le_mul_right _ (by omega)
 have r2 := run_copy_mid (ty := ti) ht hi hsz W2 w.heap.size (i * sz) bv 0 (n + 1 - i) (c - i) 1 1 1 cur vs hg2 (by omega) (by rw [hvl, Nat.one_mul]) (old hb2 hbvw hv) hfit1 hv1
 have hg3 := setRow_heap W2 w.heap.size cur (cur.toList.take (i * sz) ++ vs ++ cur.toList.drop (i * sz + vs.length)).toArray e (0, 0) hg2
 have hb3 : Below w.heap.size w (W2.setRow w.heap.size (cur.toList.take (i * sz) ++ vs ++ cur.toList.drop (i * sz + vs.length)).toArray) := below_setRow hb2 (Nat.le_refl _) _
 generalize W2.setRow w.heap.size (cur.toList.take (i * sz) ++ vs ++ cur.toList.drop (i * sz + vs.length)).toArray = W3 at r2 hg3 hb3
 generalize hcur3 : (cur.toList.take (i * sz) ++ vs ++ cur.toList.drop (i * sz + vs.length)).toArray = cur3 at hg3
 have h3l : cur3.toList = cs.take (i * sz) ++ vs ++ cur.toList.drop (i * sz + vs.length) := by rw [← hcur3, htk]
 have h3s : cur3.size = c * sz := by
  have e : cur3.size = cur3.toList.length := by simp
  rw [e, h3l]
  simp only [List.length_append, hol, hvl, List.length_drop, Array.length_toList, hsize]
  have : (i + 1) * sz ≤ c * sz := Nat.mul_le_mul_right _ (by omega)
  rw [Nat.add_mul, Nat.one_mul] at this
  omega
 have hdl : (cs.drop (i * sz)).length = (n - i) * sz := by rw [List.length_drop, hcl, Nat.sub_mul]
 have hfit2 : (i + 1) * sz + (n - i) * sz ≤ cur3.size := by rw [h3s, ← Nat.add_mul]; exact Nat.mul_le_mul_right _ (by omega)
 have r3 := run_copy_mid (ty := ti) ht hi hsz W3.drew w.heap.size ((i + 1) * sz) b (i * sz) (n + 1 - (i + 1)) (c - (i + 1)) (n - i) (n - i) (n - i) cur3 (cs.drop (i * sz)) hg3 (by omega) hdl (old (below_drew hb3) hbw (hc.drop _)) hfit2 (fun v hv => hc1 v (List.mem_of_mem_drop hv))
 have hg4 := setRow_heap W3.drew w.heap.size cur3 (cur3.toList.take ((i + 1) * sz) ++ cs.drop (i * sz) ++ cur3.toList.drop ((i + 1) * sz + (cs.drop (i * sz)).length)).toArray e (0, 0) hg3
 have hb4 : Below w.heap.size w (W3.drew.setRow w.heap.size (cur3.toList.take ((i + 1) * sz) ++ cs.drop (i * sz) ++ cur3.toList.drop ((i + 1) * sz + (cs.drop (i * sz)).length)).toArray) := below_setRow (below_drew hb3) (Nat.le_refl _) _
 refine ⟨c, W2, W3, _, r1, r2, r3, hge, ⟨_, cur3.toList.drop ((i + 1) * sz + (cs.drop (i * sz)).length), hg4, ?_⟩, hb4⟩
 congr 2
 rw [h3l, List.take_append_of_le_length (by simp only [List.length_append, hol, hvl, Nat.add_mul, Nat.one_mul]; omega), List.take_of_length_le (by simp only [List.length_append, hol, hvl, Nat.add_mul, Nat.one_mul]; omega)]
end Go.Proofs.YtambkjnhfejfaaaGreat
namespace Go.Proofs.YtambkjnhfejfaaaGreat
open Go.ChangeShapes Go.WideShapes Go.ChangeAt Go.RowKit Go.Deep
set_option maxRecDepth 100000
theorem cells_world : Tryz.prog.cellsOf 25 = 3 := by kernel_rfl
theorem cells_client : Tryz.prog.cellsOf 49 = 5 := by kernel_rfl
theorem cells_write : Tryz.prog.cellsOf 58 = 2 := by kernel_rfl
theorem cells_rowsS : Tryz.prog.cellsOf 22 = 1 := by kernel_rfl
theorem cells_clientsS : Tryz.prog.cellsOf 23 = 1 := by kernel_rfl
theorem cells_writesS : Tryz.prog.cellsOf 47 = 1 := by kernel_rfl
theorem bytes_row : Tryz.prog.bytesOf 45 = 80 := by kernel_rfl
theorem bytes_client : Tryz.prog.bytesOf 49 = 56 := by kernel_rfl
theorem bytes_write : Tryz.prog.bytesOf 58 = 32 := by kernel_rfl
section
variable {H : Type} {enc : TypeId × Value → H} {W : World}
theorem weights_all {P : Program} {e : TypeId} {l : List (DataW H)} {d : DataW H} (hd : d ∈ l) : ∀ k ∈ d.weights P e, k ∈ DataW.weightsAll P e l := by
 induction l with
 | nil => cases hd
 | cons x l ih =>
  intro k hk
  simp only [DataW.weightsAll, List.mem_append]
  rcases List.mem_cons.1 hd with rfl | hd
  ·exact .inl hk
  ·exact .inr (ih hd k hk)
theorem open_seq {α : Type} [Inhabited α] {E : Nat → Nat → α → Prop} {t e : TypeId} {sz by_ mx : Nat} (hu : Tryz.prog.underlying t = some (.slice e)) (hce : Tryz.prog.cellsOf e = sz) (hs0 : 0 < sz) (hbe : Tryz.prog.bytesOf e = by_) (hmx : ∀ n, n * by_ ≤ reachBytes → n ≤ mx)
 {fuel : Nat} {A : Option Addr} {n c : Nat} {x : DataW H × List MemPlace} (h : DataW.trod enc Tryz.prog W 0 (fun _ => true) true fuel t [.slice A n c] = some x) (hz : ∀ k ∈ x.1.weights Tryz.prog t, k ≤ reachBytes)
 (hE : ∀ (b o n' : Nat) (cs : List Value) (y : DataW H × List MemPlace), W.cells? 0 ⟨b, o, none⟩ sz = some cs → DataW.trod enc Tryz.prog W 0 (fun _ => true) true n' e cs = some y → (∀ k ∈ y.1.weights Tryz.prog e, k ≤ reachBytes) → ∃ r, E b o r) :
 ∃ l : List α, n = l.length ∧ SeqAt (· < W.heap.size) sz mx E A l ∧ n ≤ c := by
 rcases open_slice hu h with ⟨hcs, _⟩ | ⟨a, len, cap, m, n', D, Pl, hcs, hb, hl, hm, hmm, hx, hi⟩
 ·simp only [List.cons.injEq, Value.slice.injEq, and_true] at hcs
  obtain ⟨_, rfl, rfl⟩ := hcs
  exact ⟨[], rfl, SeqAt.nil_ _, Nat.le_refl _⟩
 ·simp only [List.cons.injEq, Value.slice.injEq, and_true] at hcs
  obtain ⟨rfl, rfl, rfl⟩ := hcs
  simp only [if_true] at hmm
  subst hmm
  have hw : (n + (m - n)) * by_ ≤ reachBytes := by
   have := hz ((n + (m - n)) * Tryz.prog.bytesOf e) (by
    rw [hx]
    simp only [DataW.weights, hu]
    simp)
   rwa [hbe] at this
  have hn : n ≤ mx := hmx n (Nat.le_trans (Nat.mul_le_mul_right _ (by omega)) hw)
  rcases Nat.eq_zero_or_pos n with h0 | h0
  ·subst h0
   exact ⟨[], rfl, SeqAt.nil_ _, Nat.zero_le _⟩
  ·obtain ⟨b, o, spot⟩ := a
   rw [hce] at hi
   have hone : ∀ i, i < n → ∃ cs v, W.cells? 0 ((⟨b, o, spot⟩ : Addr).add (i * sz)) sz = some cs ∧ W.cell? (((⟨b, o, spot⟩ : Addr).add (i * sz)).add 0) = some v := by
    intro i hin
    obtain ⟨cs, hc, _⟩ := hi i (by omega)
    obtain ⟨_, hcl, hat⟩ := World.cells?_some hc
    have h3 := hat 0 (by omega)
    have : cs[0]? = some (cs[0]'(by omega)) := List.getElem?_eq_getElem (by omega)
    rw [this] at h3
    exact ⟨cs, _, hc, h3⟩
   have hsp : spot = none := by
    obtain ⟨cs, v, _, h3⟩ := hone 0 h0
    simpa [Addr.add] using World.cell?_spot h3
   subst hsp
   have ea : ∀ j, (⟨b, o, none⟩ : Addr).add j = ⟨b, o + j, none⟩ := by
    intro j
    unfold Addr.add
    split
    ·rename_i h; rw [h]; rfl
    ·rfl
   have hr : ∀ i, i < n → ∃ r : α, E b (o + i * sz) r := by
    intro i hin
    obtain ⟨cs, hc, ht⟩ := hi i (by omega)
    rw [ea] at hc
    refine hE b _ _ cs _ hc ht fun k hk => hz k ?_
    rw [hx]
    simp only [DataW.weights, hu]
    refine List.mem_cons_of_mem _ (List.mem_append_left _ (weights_all (List.mem_map.2 ⟨i, List.mem_range.2 hin, rfl⟩) k hk))
   obtain ⟨f, hf⟩ := choose_lt hr
   refine ⟨(List.range n).map f, by simp, ⟨by simpa using hn, fun _ => ⟨b, o, rfl, ?_, fun i r hir => ?_⟩⟩, hl⟩
   ·obtain ⟨cs, v, _, h3⟩ := hone 0 h0
    have h4 := World.block_lt_of_cell? W _ h3
    rw [ea] at h4
    rw [show (⟨b, o + 0 * sz, none⟩ : Addr).add 0 = ⟨b, o + 0 * sz, none⟩ from by unfold Addr.add; split <;> simp_all] at h4
    exact h4
   ·have hin : i < n := by have := (List.getElem?_eq_some_iff.1 hir).1; simpa using this
    have : r = f i := by simpa [hin] using hir.symm
    rw [this]
    exact hf i hin
theorem open_rowAt {n b o : Nat} {cs : List Value} {x : DataW H × List MemPlace} (hc : W.cells? 0 ⟨b, o, none⟩ 5 = some cs) (h : DataW.trod enc Tryz.prog W 0 (fun _ => true) true n 45 cs = some x) (hz : ∀ k ∈ x.1.weights Tryz.prog 45, k ≤ reachBytes) :
 ∃ r : RowM, RowAt W (· < W.heap.size) b o r := by
 obtain ⟨_, hcl, hat⟩ := World.cells?_some hc
 obtain ⟨ys, n', _, hx, hlen, hyl, hg⟩ := DataW.trod_struct Tryz.underlying45 h
 match cs, hcl with
 | [v0, v1, v2, v3, v4], _ =>
  have f0 : DataW.trod enc Tryz.prog W 0 (fun _ => true) true n' 9 (([v0, v1, v2, v3, v4].drop 0).take (Tryz.prog.cellsOf 9)) = ys[0]? := hg 0 _ rfl
  have f1 : DataW.trod enc Tryz.prog W 0 (fun _ => true) true n' 42 (([v0, v1, v2, v3, v4].drop 1).take (Tryz.prog.cellsOf 42)) = ys[1]? := hg 1 _ rfl
  have f2 : DataW.trod enc Tryz.prog W 0 (fun _ => true) true n' 9 (([v0, v1, v2, v3, v4].drop 3).take (Tryz.prog.cellsOf 9)) = ys[2]? := hg 2 _ rfl
  have f3 : DataW.trod enc Tryz.prog W 0 (fun _ => true) true n' 43 (([v0, v1, v2, v3, v4].drop 4).take (Tryz.prog.cellsOf 43)) = ys[3]? := hg 3 _ rfl
  rw [cells_string] at f0 f2
  rw [cells_lock] at f1
  rw [cells_recs] at f3
  match ys, hyl with
  | [y0, y1, y2, y3], _ =>
   simp only [List.drop_zero, List.take_succ_cons, List.take_zero, List.drop_succ_cons, List.getElem?_cons_zero, List.getElem?_cons_succ] at f0 f1 f2 f3
   obtain ⟨key, e0, _, wk⟩ := DataW.trod_string Tryz.underlying9 f0
   obtain ⟨val, e2, _, wv⟩ := DataW.trod_string Tryz.underlying9 f2
   obtain ⟨zs, n'', _, _, _, hzl, hg'⟩ := DataW.trod_struct Tryz.underlying42 f1
   have g0 : DataW.trod enc Tryz.prog W 0 (fun _ => true) true n'' 3 (([v1, v2].drop 0).take (Tryz.prog.cellsOf 3)) = zs[0]? := hg' 0 _ rfl
   have g1 : DataW.trod enc Tryz.prog W 0 (fun _ => true) true n'' 9 (([v1, v2].drop 1).take (Tryz.prog.cellsOf 9)) = zs[1]? := hg' 1 _ rfl
   rw [cells_int] at g0
   rw [cells_string] at g1
   match zs, hzl with
   | [z0, z1], _ =>
    simp only [List.drop_zero, List.take_succ_cons, List.take_zero, List.drop_succ_cons, List.getElem?_cons_zero, List.getElem?_cons_succ] at g0 g1
    obtain ⟨ls, e3, _, wl⟩ := DataW.trod_int Tryz.underlying3 g0
    obtain ⟨lp, e4, _, wp⟩ := DataW.trod_string Tryz.underlying9 g1
    simp only [List.cons.injEq, and_true] at e0 e2 e3 e4
    subst e0 e2 e3 e4
    have hd : x.1 = .agg [y0.1, y1.1, y2.1, y3.1] := by rw [hx]; simp
    have hz3 : ∀ k ∈ y3.1.weights Tryz.prog 43, k ≤ reachBytes := by
     intro k hk
     refine hz k ?_
     rw [hd]
     simp only [DataW.weights, Tryz.underlying45]
     exact DataW.weights_mem_each (j := 3) (t := 43) (d := y3.1) (by simp) (by simp) k hk
    have a0 : W.cell? ⟨b, o, none⟩ = some (.string key) := by simpa [Addr.add] using hat 0 (by omega)
    have a1 : W.cell? ⟨b, o + 1, none⟩ = some (.int .i64 ls) := by simpa [Addr.add] using hat 1 (by omega)
    have a2 : W.cell? ⟨b, o + 2, none⟩ = some (.string lp) := by simpa [Addr.add] using hat 2 (by omega)
    have a3 : W.cell? ⟨b, o + 3, none⟩ = some (.string val) := by simpa [Addr.add] using hat 3 (by omega)
    have a4 : W.cell? ⟨b, o + 4, none⟩ = some v4 := by simpa [Addr.add] using hat 4 (by omega)
    have hv4 : ∃ A m c, v4 = .slice A m c := by
     rcases open_slice Tryz.underlying43 f3 with ⟨hcs, _⟩ | ⟨a, len, cap, _, _, _, _, hcs, _⟩
     ·simp only [List.cons.injEq, and_true] at hcs; exact ⟨_, _, _, hcs⟩
     ·simp only [List.cons.injEq, and_true] at hcs; exact ⟨_, _, _, hcs⟩
    obtain ⟨A, m, c, rfl⟩ := hv4
    obtain ⟨l, hl, hr, hcap⟩ := open_recs f3 hz3
    subst hl
    exact ⟨⟨key, ls, lp, val, l⟩, a0, a1, a2, a3, ⟨A, c, a4, hcap, hr⟩, wk, wp, wv, i64_of_wf wl⟩
theorem open_wrAt {n b o : Nat} {cs : List Value} {x : DataW H × List MemPlace} (hc : W.cells? 0 ⟨b, o, none⟩ 2 = some cs) (h : DataW.trod enc Tryz.prog W 0 (fun _ => true) true n 58 cs = some x) : ∃ r : WrM, WrAt W b o r := by
 obtain ⟨_, hcl, hat⟩ := World.cells?_some hc
 obtain ⟨ys, n', _, hx, hlen, hyl, hg⟩ := DataW.trod_struct Tryz.underlying58 h
 match cs, hcl with
 | [v0, v1], _ =>
  have f0 : DataW.trod enc Tryz.prog W 0 (fun _ => true) true n' 9 (([v0, v1].drop 0).take (Tryz.prog.cellsOf 9)) = ys[0]? := hg 0 _ rfl
  have f1 : DataW.trod enc Tryz.prog W 0 (fun _ => true) true n' 9 (([v0, v1].drop 1).take (Tryz.prog.cellsOf 9)) = ys[1]? := hg 1 _ rfl
  rw [cells_string] at f0 f1
  match ys, hyl with
  | [y0, y1], _ =>
   simp only [List.drop_zero, List.take_succ_cons, List.take_zero, List.drop_succ_cons, List.getElem?_cons_zero, List.getElem?_cons_succ] at f0 f1
   obtain ⟨k, e0, _, wk⟩ := DataW.trod_string Tryz.underlying9 f0
   obtain ⟨v, e1, _, wv⟩ := DataW.trod_string Tryz.underlying9 f1
   simp only [List.cons.injEq, and_true] at e0 e1
   subst e0 e1
   exact ⟨⟨k, v⟩, by simpa [Addr.add] using hat 0 (by omega), by simpa [Addr.add] using hat 1 (by omega), wk, wv⟩
theorem open_clAt {n b o : Nat} {cs : List Value} {x : DataW H × List MemPlace} (hc : W.cells? 0 ⟨b, o, none⟩ 5 = some cs) (h : DataW.trod enc Tryz.prog W 0 (fun _ => true) true n 49 cs = some x) (hz : ∀ k ∈ x.1.weights Tryz.prog 49, k ≤ reachBytes) :
 ∃ r : ClM, ClAt W (· < W.heap.size) b o r := by
 obtain ⟨_, hcl, hat⟩ := World.cells?_some hc
 obtain ⟨ys, n', _, hx, hlen, hyl, hg⟩ := DataW.trod_struct Tryz.underlying49 h
 match cs, hcl with
 | [v0, v1, v2, v3, v4], _ =>
  have f0 : DataW.trod enc Tryz.prog W 0 (fun _ => true) true n' 3 (([v0, v1, v2, v3, v4].drop 0).take (Tryz.prog.cellsOf 3)) = ys[0]? := hg 0 _ rfl
  have f1 : DataW.trod enc Tryz.prog W 0 (fun _ => true) true n' 3 (([v0, v1, v2, v3, v4].drop 1).take (Tryz.prog.cellsOf 3)) = ys[1]? := hg 1 _ rfl
  have f2 : DataW.trod enc Tryz.prog W 0 (fun _ => true) true n' 3 (([v0, v1, v2, v3, v4].drop 2).take (Tryz.prog.cellsOf 3)) = ys[2]? := hg 2 _ rfl
  have f3 : DataW.trod enc Tryz.prog W 0 (fun _ => true) true n' 47 (([v0, v1, v2, v3, v4].drop 3).take (Tryz.prog.cellsOf 47)) = ys[3]? := hg 3 _ rfl
  have f4 : DataW.trod enc Tryz.prog W 0 (fun _ => true) true n' 3 (([v0, v1, v2, v3, v4].drop 4).take (Tryz.prog.cellsOf 3)) = ys[4]? := hg 4 _ rfl
  rw [cells_int] at f0 f1 f2 f4
  rw [cells_writesS] at f3
  match ys, hyl with
  | [y0, y1, y2, y3, y4], _ =>
   simp only [List.drop_zero, List.take_succ_cons, List.take_zero, List.drop_succ_cons, List.getElem?_cons_zero, List.getElem?_cons_succ] at f0 f1 f2 f3 f4
   obtain ⟨p, e0, _, w0⟩ := DataW.trod_int Tryz.underlying3 f0
   obtain ⟨s, e1, _, w1⟩ := DataW.trod_int Tryz.underlying3 f1
   obtain ⟨m, e2, _, w2⟩ := DataW.trod_int Tryz.underlying3 f2
   obtain ⟨a, e4, _, w4⟩ := DataW.trod_int Tryz.underlying3 f4
   simp only [List.cons.injEq, and_true] at e0 e1 e2 e4
   subst e0 e1 e2 e4
   have hd : x.1 = .agg [y0.1, y1.1, y2.1, y3.1, y4.1] := by rw [hx]; simp
   have hz3 : ∀ k ∈ y3.1.weights Tryz.prog 47, k ≤ reachBytes := by
    intro k hk
    refine hz k ?_
    rw [hd]
    simp only [DataW.weights, Tryz.underlying49]
    exact DataW.weights_mem_each (j := 3) (t := 47) (d := y3.1) (by simp) (by simp) k hk
   have a0 : W.cell? ⟨b, o, none⟩ = some (.int .i64 p) := by simpa [Addr.add] using hat 0 (by omega)
   have a1 : W.cell? ⟨b, o + 1, none⟩ = some (.int .i64 s) := by simpa [Addr.add] using hat 1 (by omega)
   have a2 : W.cell? ⟨b, o + 2, none⟩ = some (.int .i64 m) := by simpa [Addr.add] using hat 2 (by omega)
   have a3 : W.cell? ⟨b, o + 3, none⟩ = some v3 := by simpa [Addr.add] using hat 3 (by omega)
   have a4 : W.cell? ⟨b, o + 4, none⟩ = some (.int .i64 a) := by simpa [Addr.add] using hat 4 (by omega)
   have hv3 : ∃ A m c, v3 = .slice A m c := by
    rcases open_slice Tryz.underlying47 f3 with ⟨hcs, _⟩ | ⟨a, len, cap, _, _, _, _, hcs, _⟩
    ·simp only [List.cons.injEq, and_true] at hcs; exact ⟨_, _, _, hcs⟩
    ·simp only [List.cons.injEq, and_true] at hcs; exact ⟨_, _, _, hcs⟩
   obtain ⟨A, q, c, rfl⟩ := hv3
   obtain ⟨l, hl, hr, hcap⟩ := open_seq (E := WrAt W) (sz := 2) (by_ := 32) (mx := 4398046511104) Tryz.underlying47 cells_write (by omega) bytes_write (fun n h => by unfold reachBytes at h; omega) f3 hz3 (fun b o n' cs y hc ht _ => open_wrAt hc ht)
   subst hl
   exact ⟨⟨p, s, m, l, a⟩, a0, a1, a2, ⟨A, c, a3, hcap, hr⟩, a4, i64_of_wf w0, i64_of_wf w1, i64_of_wf w2, i64_of_wf w4⟩
theorem open_world {r0 : Reach} {base : Nat} {v : Value} {d : DataW H} {p : List MemPlace} (hv : Value.okWide Tryz.prog W r0 base 25 v) (h : DataW.Trod enc Tryz.prog W 0 (fun _ => true) true 25 v d p)
 (hz : ∀ k ∈ d.weights Tryz.prog 25, k ≤ reachBytes) :
 ∃ (wo : WoM) (RA : Option Addr) (n rc : Nat) (CA : Option Addr) (m cc : Nat), v = woV RA n rc wo.clock CA m cc ∧ WoIn W RA n rc CA m cc wo := by
 obtain ⟨cs, rfl, hsz⟩ := okWide_struct Tryz.underlying25 hv
 obtain ⟨lst⟩ := cs
 match lst, hsz.trans cells_world with
 | [v0, v1, v2], _ =>
  obtain ⟨fuel, hf⟩ := h
  obtain ⟨ys, n', _, hx, hlen, hyl, hg⟩ := DataW.trod_struct Tryz.underlying25 hf
  have f0 : DataW.trod enc Tryz.prog W 0 (fun _ => true) true n' 22 (([v0, v1, v2].drop 0).take (Tryz.prog.cellsOf 22)) = ys[0]? := hg 0 _ rfl
  have f1 : DataW.trod enc Tryz.prog W 0 (fun _ => true) true n' 3 (([v0, v1, v2].drop 1).take (Tryz.prog.cellsOf 3)) = ys[1]? := hg 1 _ rfl
  have f2 : DataW.trod enc Tryz.prog W 0 (fun _ => true) true n' 23 (([v0, v1, v2].drop 2).take (Tryz.prog.cellsOf 23)) = ys[2]? := hg 2 _ rfl
  rw [cells_rowsS] at f0
  rw [cells_int] at f1
  rw [cells_clientsS] at f2
  match ys, hyl with
  | [y0, y1, y2], _ =>
   simp only [List.drop_zero, List.take_succ_cons, List.take_zero, List.drop_succ_cons, List.getElem?_cons_zero, List.getElem?_cons_succ] at f0 f1 f2
   obtain ⟨k, e1, _, w1⟩ := DataW.trod_int Tryz.underlying3 f1
   simp only [List.cons.injEq, and_true] at e1
   subst e1
   have hd : d = .agg [y0.1, y1.1, y2.1] := by simp only [Prod.mk.injEq] at hx; simpa using hx.1
   have hz0 : ∀ k ∈ y0.1.weights Tryz.prog 22, k ≤ reachBytes := by
    intro k hk
    refine hz k ?_
    rw [hd]
    simp only [DataW.weights, Tryz.underlying25]
    exact DataW.weights_mem_each (j := 0) (t := 22) (d := y0.1) (by simp) (by simp) k hk
   have hz2 : ∀ k ∈ y2.1.weights Tryz.prog 23, k ≤ reachBytes := by
    intro k hk
    refine hz k ?_
    rw [hd]
    simp only [DataW.weights, Tryz.underlying25]
    exact DataW.weights_mem_each (j := 2) (t := 23) (d := y2.1) (by simp) (by simp) k hk
   have hv0 : ∃ A m c, v0 = .slice A m c := by
    rcases open_slice Tryz.underlying22 f0 with ⟨hcs, _⟩ | ⟨a, len, cap, _, _, _, _, hcs, _⟩
    ·simp only [List.cons.injEq, and_true] at hcs; exact ⟨_, _, _, hcs⟩
    ·simp only [List.cons.injEq, and_true] at hcs; exact ⟨_, _, _, hcs⟩
   have hv2 : ∃ A m c, v2 = .slice A m c := by
    rcases open_slice Tryz.underlying23 f2 with ⟨hcs, _⟩ | ⟨a, len, cap, _, _, _, _, hcs, _⟩
    ·simp only [List.cons.injEq, and_true] at hcs; exact ⟨_, _, _, hcs⟩
    ·simp only [List.cons.injEq, and_true] at hcs; exact ⟨_, _, _, hcs⟩
   obtain ⟨RA, n, rc, rfl⟩ := hv0
   obtain ⟨CA, m, cc, rfl⟩ := hv2
   obtain ⟨l, hl, hr, hcap⟩ := open_seq (E := RowAt W (· < W.heap.size)) (sz := 5) (by_ := 80) (mx := 1759218604441) Tryz.underlying22 cells_row (by omega) bytes_row (fun n h => by unfold reachBytes at h; omega) f0 hz0 (fun b o n' cs y hc ht hz => open_rowAt hc ht hz)
   obtain ⟨l', hl', hr', hcap'⟩ := open_seq (E := ClAt W (· < W.heap.size)) (sz := 5) (by_ := 56) (mx := 2513169434916) Tryz.underlying23 cells_client (by omega) bytes_client (fun n h => by unfold reachBytes at h; omega) f2 hz2 (fun b o n' cs y hc ht hz => open_clAt hc ht hz)
   exact ⟨⟨l, k, l'⟩, RA, n, rc, CA, m, cc, rfl, hl, hcap, hr, hl', hcap', hr', i64_of_wf w1⟩
end
end Go.Proofs.YtambkjnhfejfaaaGreat
namespace Go.Proofs.YtambkjnhfejfaaaGreat
open Go.RowKit
structure Cells (α : Type) where
 cs : α → List Value
 sz : Nat
 len : ∀ a, (cs a).length = sz
 one : ∀ a, ∀ v ∈ cs a, v.oneCell' = true
 pos : 0 < sz
section
variable {α : Type} (C : Cells α)
def Cells.all (l : List α) : List Value := l.flatMap C.cs
theorem Cells.all_append (a b : List α) : C.all (a ++ b) = C.all a ++ C.all b := by simp [Cells.all]
theorem Cells.all_length (l : List α) : (C.all l).length = l.length * C.sz := by
 induction l with
 | nil => simp [Cells.all]
 | cons x l ih =>
  have : C.all (x :: l) = C.cs x ++ C.all l := rfl
  rw [this, List.length_append, ih, C.len, List.length_cons, Nat.succ_mul]; omega
theorem Cells.all_one (l : List α) : ∀ v ∈ C.all l, v.oneCell' = true := by
 intro v hv
 obtain ⟨a, _, ha⟩ := List.mem_flatMap.1 hv
 exact C.one a v ha
theorem Cells.all_at {l : List α} {i j : Nat} {a : α} (h : l[i]? = some a) (hj : j < C.sz) : (C.all l)[i * C.sz + j]? = (C.cs a)[j]? := by
 induction l generalizing i with
 | nil => cases h
 | cons x l ih =>
  have e : C.all (x :: l) = C.cs x ++ C.all l := rfl
  rw [e]
  cases i with
  | zero =>
   simp only [List.getElem?_cons_zero, Option.some.injEq] at h
   subst h
   rw [Nat.zero_mul, Nat.zero_add, List.getElem?_append_left (by rw [C.len]; exact hj)]
  | succ i =>
   rw [List.getElem?_append_right (by rw [C.len, Nat.succ_mul]; omega), C.len, show (i + 1) * C.sz + j - C.sz = i * C.sz + j by rw [Nat.succ_mul]; omega]
   exact ih (by simpa using h)
def Cells.At (w : World) (b o : Nat) (a : α) : Prop := ∀ j v, (C.cs a)[j]? = some v → w.cell? ⟨b, o + j, none⟩ = some v
def Cells.Owns (w : World) (base : Nat) (e : TypeId) (v : Value) (l : List α) : Prop := w.ownsRow base e C.sz v l.length (C.all l)
variable {C}
theorem Cells.Owns.nil (w : World) (base : Nat) (e : TypeId) : C.Owns w base e (.slice none 0 0) [] := World.ownsRow_nil _ _ _ _
theorem Cells.Owns.at_ {w : World} {base : Nat} {e : TypeId} {v : Value} {l : List α} (h : C.Owns w base e v l) {mx : Nat} (hlen : l.length ≤ mx) :
 ∃ A c, v = .slice A l.length c ∧ l.length ≤ c ∧ SeqAt (fun b => base ≤ b ∧ b < w.heap.size) C.sz mx (C.At w) A l := by
 rcases h.2 with ⟨hv, h0⟩ | ⟨g, cap, cur, hv, hb, hh, hc, _, _, ht⟩
 ·have : l = [] := List.eq_nil_of_length_eq_zero h0
  subst this
  exact ⟨none, 0, hv, Nat.le_refl _, SeqAt.nil_ _⟩
 ·refine ⟨some ⟨g, 0, none⟩, cap, hv, hc, SeqAt.block hlen ⟨hb, (Array.getElem?_eq_some_iff.1 hh).1⟩ fun i x hx j u hj => ?_⟩
  have hjs : j < C.sz := by rw [← C.len x]; exact (List.getElem?_eq_some_iff.1 hj).1
  have h1 := C.all_at hx hjs
  rw [hj, ← ht, List.getElem?_take] at h1
  split at h1
  ·rw [Joins.cell_of_block hh]; simpa using h1
  ·cases h1
theorem Cells.Owns.kept {w w' : World} {base : Nat} {e : TypeId} {v : Value} {l : List α} (h : C.Owns w base e v l) (hb : Below w.heap.size w w') : C.Owns w' base e v l := by
 rcases h.2 with h0 | ⟨g, cap, cur, hv, hg, hh, r⟩
 ·exact ⟨h.1, .inl h0⟩
 ·exact ⟨h.1, .inr ⟨g, cap, cur, hv, hg, (hb.block g (Array.getElem?_eq_some_iff.1 hh).1).trans hh, r⟩⟩
theorem Cells.Owns.blk {w w' : World} {base : Nat} {e : TypeId} {v : Value} {l : List α} (h : C.Owns w base e v l) (hk : ∀ g, base ≤ g → g < w.heap.size → w'.heap[g]? = w.heap[g]?) : C.Owns w' base e v l := by
 rcases h.2 with h0 | ⟨g, cap, cur, hv, hg, hh, r⟩
 ·exact ⟨h.1, .inl h0⟩
 ·exact ⟨h.1, .inr ⟨g, cap, cur, hv, hg, (hk g hg (Array.getElem?_eq_some_iff.1 hh).1).trans hh, r⟩⟩
theorem Cells.src {w : World} {P : Nat → Prop} {mx b o : Nat} {l : List α} (h : SeqAt P C.sz mx (C.At w) (some ⟨b, o, none⟩) l) : ∀ j u, (C.all l)[j]? = some u → w.cell? ((⟨b, o, none⟩ : Addr).add j) = some u := by
 intro j u hj
 have hp := C.pos
 have hjl : j < l.length * C.sz := by rw [← C.all_length]; exact (List.getElem?_eq_some_iff.1 hj).1
 have hi : j / C.sz < l.length := Nat.div_lt_of_lt_mul (by rw [Nat.mul_comm]; exact hjl)
 obtain ⟨b', o', hA, _, hx⟩ := SeqAt.at_ h (List.getElem?_eq_getElem hi)
 obtain ⟨rfl, rfl⟩ : b = b' ∧ o = o' := by injection hA with e; injection e with e1 e2; exact ⟨e1, e2⟩
 have hm : j % C.sz < C.sz := Nat.mod_lt _ hp
 have hdm : j / C.sz * C.sz + j % C.sz = j := by rw [Nat.mul_comm]; exact Nat.div_add_mod j C.sz
 have h1 := C.all_at (List.getElem?_eq_getElem hi) hm
 rw [hdm, hj] at h1
 rw [add_none, ← hdm, ← Nat.add_assoc]
 exact hx _ _ h1.symm
theorem one_seq {e : TypeId} (w : World) (a : α) : SeqAt (fun b => b = w.heap.size) C.sz 100000 (C.At (w.alloc (.cells (C.cs a).toArray e))) (some ⟨w.heap.size, 0, none⟩) [a] :=
 SeqAt.block (by simp) rfl fun i x hx j v hj => by
  have hi : i = 0 := by have := (List.getElem?_eq_some_iff.1 hx).1; simp at this; exact this
  subst hi
  simp only [List.getElem?_cons_zero, Option.some.injEq] at hx
  subst hx
  rw [World.cell?_alloc_new, Nat.zero_mul, Nat.zero_add]
  simpa using hj
theorem Cells.Owns.block {w : World} {base g : Nat} {e : TypeId} {l : List α} {cur : Array Value} (hb : base ≤ g) (hh : w.heap[g]? = some (.cells cur e (0, 0))) (hc : cur.toList = C.all l) (hl : l.length ≤ 100000) : C.Owns w base e (.slice (some ⟨g, 0, none⟩) l.length l.length) l :=
 ⟨C.all_length l, .inr ⟨g, l.length, cur, rfl, hb, hh, Nat.le_refl _, by simp only [maxLen]; omega, by rw [← Array.length_toList, hc, C.all_length], by rw [hc, ← C.all_length]; exact List.take_length⟩⟩
end
end Go.Proofs.YtambkjnhfejfaaaGreat
