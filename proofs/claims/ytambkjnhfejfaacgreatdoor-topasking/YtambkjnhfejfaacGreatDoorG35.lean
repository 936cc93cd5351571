/-
  Contracts of functions of the program and words for memory, several texts in one: KComm. Conditions: those stated with each.
-/
import Derived.Test.YtambkjnhfejfaacGreatDoorG34
import Derived.BigQuiet
import Derived.Deep.QuietTactic
import Derived.Deep.RegionHeld3
namespace Go.Proofs.YtambkjnhfejfaacGreatDoor
open Go.RowKit Go.Maps

/-- The track of the act's client, ahead of the act. -/
def seenT (l : List ActM) (x : List AnsM) (k : Nat) : TrackM := (ghostL l x k).ts.getD (l.getD k default).c.toNat default
def seenL (l : List ActM) (x : List AnsM) (k : Nat) : List TrackM := (List.range k).map (seenT l x)
theorem seenL_succ (l : List ActM) (x : List AnsM) (k : Nat) : seenL l x (k + 1) = seenL l x k ++ [seenT l x k] := by rw [seenL, seenL, List.range_succ, List.map_append]; rfl
/-- What is asked of a script. -/
structure CommIn (l : List ActM) (x : List AnsM) : Prop where
  len : l.length ≤ 400
  same : x.length = l.length
  c : ∀ k, k < l.length → 0 ≤ (l.getD k default).c ∧ (l.getD k default).c < 4
  ok : ∀ a ∈ l, ActOk a
  put : ∀ k, k < l.length → (l.getD k default).kind = 3 → (x.getD k default).code = 0 → (seenT l x k).ph ≠ 0 ∧ Inc (wrKeys (seenT l x k).ws)
  zero : ∀ k, k < l.length → (seenT l x k).ph = 0 → ¬ ((l.getD k default).kind = 1 ∧ (x.getD k default).code = 0) → (x.getD k default).ph = 0
structure TrackAt (w : World) (b o : Nat) (t : TrackM) : Prop where
  p : w.cell? ⟨b, o, none⟩ = some (.int .i64 t.ph)
  s : w.cell? ⟨b, o + 1, none⟩ = some (.int .i64 t.st)
  c : w.cell? ⟨b, o + 2, none⟩ = some (.int .i64 t.cm)
  m : ∃ bm n, w.cell? ⟨b, o + 3, none⟩ = some (.map (some bm)) ∧ MapAt w bm n t.ws
abbrev TracksAt (w : World) (A : Option Addr) (ts : List TrackM) : Prop := SeqAt (· < w.heap.size) 4 1000 (TrackAt w) A ts
def CommOut (l : List ActM) (x : List AnsM) (w : World) (e : Ending) (w' : World) : Prop :=
  ∃ A1 c1 A2 c2, e = .returned (.tuple #[.slice A1 (ghostL l x l.length).ds.length c1, .slice A2 l.length c2]) ∧ DealsAt w' A1 (ghostL l x l.length).ds ∧ TracksAt w' A2 (seenL l x l.length) ∧ Below w.heap.size w w' ∧ (ghostL l x l.length).ds.length ≤ c1
/-- Where the loop stands. -/
def CommInv (l : List ActM) (x : List AnsM) (gA k : Nat) (ov sv : Value) (w wr : World) : Prop :=
  ∃ mb ds sn, dealCells.Owns wr (gA + 1) 51 ov ds ∧ trackCells.Owns wr (gA + 1) 64 sv sn ∧ ds.map Prod.fst = (ghostL l x k).ds ∧ sn.map Prod.fst = seenL l x k ∧ Live wr gA k (ghostL l x k).ts mb ∧ Cold wr mb ds sn ∧ Below w.heap.size w wr ∧ ∀ C b, C < 4 → mb C = some b → gA ≤ b
theorem live_start (w : World) (Z : Array Value) (hZ : Z = madeCells (Value.agg #[.int .i64 0, .int .i64 0, .int .i64 0, .map none]).cells (4 * 4)) : Live (w.alloc (.cells Z 64)) w.heap.size 0 (List.replicate 4 default) (fun _ => none) := by
  have hcell : ∀ C j, C < 4 → j < 4 → (w.alloc (.cells Z 64)).cell? ⟨w.heap.size, C * 4 + j, none⟩ = ([.int .i64 0, .int .i64 0, .int .i64 0, .map none] : List Value)[j]? := by
    intro C j hC hj
    have e : (C * 4 + j) % 4 = j := by omega
    rw [World.cell?_alloc_new, hZ, made_at _ _ _ (by omega), show (Value.agg #[.int .i64 0, .int .i64 0, .int .i64 0, .map none]).cells.size = 4 from rfl, e]
    match j, hj with
    | 0, _ => rfl
    | 1, _ => rfl
    | 2, _ => rfl
    | 3, _ => rfl
  have hd : ∀ C, C < 4 → (List.replicate 4 (default : TrackM)).getD C default = default := fun C hC => by rw [List.getD, List.getElem?_replicate, if_pos hC]; rfl
  refine ⟨fun C hC => ?_, fun C hC => ?_, fun C hC => ?_, fun C hC => ?_, fun o => by simp, fun C hC _ => ?_, fun C b _ h => (by cases h), fun C C' b _ _ _ h => (by cases h)⟩
  · rw [hd C hC]; exact hcell C 0 hC (by omega)
  · rw [hd C hC]; exact hcell C 1 hC (by omega)
  · rw [hd C hC]; exact hcell C 2 hC (by omega)
  · exact hcell C 3 hC (by omega)
  · rw [hd C hC]; exact ⟨rfl, rfl⟩
theorem owns_other {α : Type} {C : Cells α} {w w' : World} {base : Nat} {e : TypeId} {v : Value} {l : List α} {row : Option Nat} (h : C.Owns w base e v l) (hg : w.grownBy w' row) (hr : ∀ g, row = some g → ∃ cur e' fr, w.heap[g]? = some (.cells cur e' fr) ∧ e' ≠ e) : C.Owns w' base e v l := by
  rcases h.2 with h0 | ⟨g, cap, cur, hv, hb, hh, r⟩
  · exact ⟨h.1, .inl h0⟩
  · refine ⟨h.1, .inr ⟨g, cap, cur, hv, hb, (hg.block g (Array.getElem?_eq_some_iff.1 hh).1 fun e' => ?_).trans hh, r⟩⟩
    obtain ⟨cur', e'', fr, h1, h2⟩ := hr g e'.symm
    rw [hh] at h1
    injection h1 with h1
    injection h1 with _ h1 _
    exact h2 h1.symm
theorem owns_tag {α : Type} {C : Cells α} {w : World} {base : Nat} {e : TypeId} {v : Value} {l : List α} (h : C.Owns w base e v l) : ∀ g, v.ownBlock = some g → base ≤ g ∧ g < w.heap.size ∧ ∃ cur fr, w.heap[g]? = some (.cells cur e fr) := by
  intro g hg
  rcases h.2 with ⟨hv, _⟩ | ⟨g', cap, cur, hv, hb, hh, _⟩
  · rw [hv] at hg; cases hg
  · rw [hv] at hg
    have : g' = g := by simpa [Value.ownBlock] using hg
    subst this
    exact ⟨hb, (Array.getElem?_eq_some_iff.1 hh).1, cur, (0, 0), hh⟩
/-- What stands when the track's copy is laid onto the list. -/
structure CommMid (w wq w8 : World) (k C : Nat) (ts : List TrackM) (mb : Nat → Option Nat) (ds : List (DealM × Nat)) (sn : List (TrackM × Nat)) (ov : Value) (ak : Int) (ay av : ByteArray) (bq : Nat) (T : TrackM) : Prop where
  live : Live w8 w.heap.size k ts mb
  cold : Cold w8 mb ds sn
  own : dealCells.Owns w8 (w.heap.size + 1) 51 ov ds
  bel : Below w.heap.size w w8
  z0 : w8.cell? ⟨wq.heap.size, 0, none⟩ = some (.int .i64 ak)
  z1 : w8.cell? ⟨wq.heap.size, 1, none⟩ = some (.int .i64 C)
  z2 : w8.cell? ⟨wq.heap.size, 2, none⟩ = some (.string ay)
  z3 : w8.cell? ⟨wq.heap.size, 3, none⟩ = some (.string av)
  p3 : w8.cell? ⟨wq.heap.size + 1, 3, none⟩ = some (.map (some bq))
  map : ∃ n, MapAt w8 bq n T.ws
  fresh : ∀ C, C < 4 → mb C ≠ some bq
theorem comm_next {w wq wr w8 : World} {k C : Nat} {ts : List TrackM} {mb : Nat → Option Nat} {ds : List (DealM × Nat)} {sn : List (TrackM × Nat)} {ov sv : Value} {ak : Int} {ay av : ByteArray} {bq nn : Nat} {T : TrackM} {o : Obj} (hq : Live wq w.heap.size k ts mb) (hot : trackCells.Owns wq (w.heap.size + 1) 64 sv sn)
    (hbq : wq.heap.size ≤ bq) (hlt : wq.heap.size + 1 < wr.heap.size) (hcold : Cold wr mb ds sn) (hlive : Live wr w.heap.size k ts mb) (hod : dealCells.Owns wr (w.heap.size + 1) 51 ov ds) (hot1 : trackCells.Owns wr (w.heap.size + 1) 64 sv sn) (hb : Below w.heap.size w wr)
    (z0 : wr.cell? ⟨wq.heap.size, 0, none⟩ = some (.int .i64 ak)) (z1 : wr.cell? ⟨wq.heap.size, 1, none⟩ = some (.int .i64 C)) (z2 : wr.cell? ⟨wq.heap.size, 2, none⟩ = some (.string ay)) (z3 : wr.cell? ⟨wq.heap.size, 3, none⟩ = some (.string av)) (p3 : wr.cell? ⟨wq.heap.size + 1, 3, none⟩ = some (.map (some bq))) (hmap : MapAt wr bq nn T.ws)
    (hg8 : (wr.alloc o).grownBy w8 sv.ownBlock) : CommMid w wq w8 k C ts mb ds (sn ++ [(T, bq)]) ov ak ay av bq T := by
  have hba : Below wr.heap.size wr (wr.alloc o) := below_alloc (Below.refl _ _) _
  have hot2 := hot1.kept hba
  have hst : Still (wr.alloc o) w8 w.heap.size := Still.grown hg8 (own_block hot2 (Nat.lt_succ_self _))
  have hfresh : ∀ C, C < 4 → mb C ≠ some bq := fun C hC e => by have := (hq.yes C bq hC e).lt; omega
  have hcell : ∀ bk o', bk = wq.heap.size ∨ bk = wq.heap.size + 1 → w8.cell? ⟨bk, o', none⟩ = wr.cell? ⟨bk, o', none⟩ := by
    intro bk o' hbk
    have hl : bk < wr.heap.size := by omega
    have e1 : w8.heap[bk]? = (wr.alloc o).heap[bk]? := hg8.block bk (Nat.lt_of_lt_of_le hl hba.size) fun e => by
      have := (owns_tag hot bk e.symm).2.1
      omega
    exact (World.cell?_of_block (w := wr.alloc o) (a := ⟨bk, o', none⟩) e1).trans (hba.cell (p := ⟨bk, o', none⟩) hl)
  have hc8 := (hcold.still (Still.below (gA := w.heap.size) hba)).still hst
  have hm8 : MapAt w8 bq nn T.ws := (hmap.upto hba).blk (hst bq (hmap.upto hba).lt (.inr (hmap.upto hba).obj))
  refine ⟨(hlive.still (Still.below hba)).still hst, ⟨hc8.d, fun x hx => ?_⟩, owns_other (hod.kept hba) hg8 (fun g hg => ?_), (below_next hb hba).grown hg8 (below_next hb hba).size (fun g hg => ?_), (hcell _ 0 (.inl rfl)).trans z0, (hcell _ 1 (.inl rfl)).trans z1, (hcell _ 2 (.inl rfl)).trans z2, (hcell _ 3 (.inl rfl)).trans z3, (hcell _ 3 (.inr rfl)).trans p3, ⟨nn, hm8⟩, hfresh⟩
  · rcases List.mem_append.1 hx with hx | hx
    · exact hc8.s x hx
    · rw [List.mem_singleton.1 hx]; exact ⟨⟨nn, hm8⟩, hfresh⟩
  · obtain ⟨_, _, cur, fr, h⟩ := owns_tag hot2 g hg
    exact ⟨cur, _, fr, h, by decide⟩
  · have := (owns_tag hot2 g hg).1
    omega
/-- What stands when a deal is laid onto the list. -/
theorem comm_deal {w V w10 : World} {k : Nat} {ts : List TrackM} {mb : Nat → Option Nat} {ds : List (DealM × Nat)} {sn : List (TrackM × Nat)} {ov sv : Value} {d : DealM} {bq n : Nat} {o : Obj} (hl : Live V w.heap.size k ts mb) (hc : Cold V mb ds sn) (hod : dealCells.Owns V (w.heap.size + 1) 51 ov ds) (hot : trackCells.Owns V (w.heap.size + 1) 64 sv sn)
    (hb : Below w.heap.size w V) (hm : MapAt V bq n d.ws) (hfresh : ∀ C, C < 4 → mb C ≠ some bq) (hg : (V.alloc o).grownBy w10 ov.ownBlock) :
    Live w10 w.heap.size k ts mb ∧ Cold w10 mb (ds ++ [(d, bq)]) sn ∧ trackCells.Owns w10 (w.heap.size + 1) 64 sv sn ∧ Below w.heap.size w w10 ∧ ∀ bk o', bk < V.heap.size → ov.ownBlock ≠ some bk → w10.cell? ⟨bk, o', none⟩ = V.cell? ⟨bk, o', none⟩ := by
  have hba : Below V.heap.size V (V.alloc o) := below_alloc (Below.refl _ _) _
  have hod2 := hod.kept hba
  have hst : Still (V.alloc o) w10 w.heap.size := Still.grown hg (own_block hod2 (Nat.lt_succ_self _))
  have hc10 := (hc.still (Still.below (gA := w.heap.size) hba)).still hst
  have hm10 : MapAt w10 bq n d.ws := (hm.upto hba).blk (hst bq (hm.upto hba).lt (.inr (hm.upto hba).obj))
  refine ⟨(hl.still (Still.below hba)).still hst, ⟨fun x hx => ?_, hc10.s⟩, owns_other (hot.kept hba) hg (fun g hg' => ?_), (below_next hb hba).grown hg (below_next hb hba).size (fun g hg' => ?_), fun bk o' hlt hne => ?_⟩
  · rcases List.mem_append.1 hx with hx | hx
    · exact hc10.d x hx
    · rw [List.mem_singleton.1 hx]; exact ⟨⟨n, hm10⟩, hfresh⟩
  · obtain ⟨_, _, cur, fr, h⟩ := owns_tag hod2 g hg'
    exact ⟨cur, _, fr, h, by decide⟩
  · have := (owns_tag hod2 g hg').1
    omega
  · have e1 : w10.heap[bk]? = (V.alloc o).heap[bk]? := hg.block bk (Nat.lt_of_lt_of_le hlt hba.size) (fun e => hne e.symm)
    exact (World.cell?_of_block (w := V.alloc o) (a := ⟨bk, o', none⟩) e1).trans (hba.cell (p := ⟨bk, o', none⟩) hlt)
/-- The lists, when all is gathered. -/
theorem comm_end {w : World} {base : Nat} {e e' : TypeId} {ov sv : Value} {mb : Nat → Option Nat} {ds : List (DealM × Nat)} {sn : List (TrackM × Nat)} {DS : List DealM} {SN : List TrackM} (hod : dealCells.Owns w base e ov ds) (hot : trackCells.Owns w base e' sv sn) (hc : Cold w mb ds sn) (hds : ds.map Prod.fst = DS) (hsn : sn.map Prod.fst = SN) (hl : DS.length ≤ 1000) (hs : SN.length ≤ 1000) :
    ∃ A1 c1 A2 c2, ov = .slice A1 DS.length c1 ∧ sv = .slice A2 SN.length c2 ∧ DealsAt w A1 DS ∧ TracksAt w A2 SN ∧ DS.length ≤ c1 := by
  have e1 : DS.length = ds.length := by rw [← hds, List.length_map]
  have e2 : SN.length = sn.length := by rw [← hsn, List.length_map]
  obtain ⟨A1, c1, h1, h1c, h2⟩ := hod.at_ (mx := 1000) (by omega)
  obtain ⟨A2, c2, h3, _, h4⟩ := hot.at_ (mx := 1000) (by omega)
  refine ⟨A1, c1, A2, c2, by rw [e1]; exact h1, by rw [e2]; exact h3, ⟨hl, fun h0 => ?_⟩, ⟨hs, fun h0 => ?_⟩, by omega⟩
  · obtain ⟨b, o, hA, hb, hx⟩ := h2.2 (by omega)
    refine ⟨b, o, hA, hb.2, fun i d hd => ?_⟩
    rw [← hds, List.getElem?_map] at hd
    obtain ⟨p, hp, rfl⟩ := Option.map_eq_some_iff.1 hd
    have hcs := hx i p hp
    obtain ⟨n, hm⟩ := (hc.d p (List.mem_of_getElem? hp)).1
    exact ⟨hcs 0 _ rfl, hcs 1 _ rfl, hcs 2 _ rfl, ⟨p.2, n, hcs 3 _ rfl, hm⟩⟩
  · obtain ⟨b, o, hA, hb, hx⟩ := h4.2 (by omega)
    refine ⟨b, o, hA, hb.2, fun i d hd => ?_⟩
    rw [← hsn, List.getElem?_map] at hd
    obtain ⟨p, hp, rfl⟩ := Option.map_eq_some_iff.1 hd
    have hcs := hx i p hp
    obtain ⟨n, hm⟩ := (hc.s p (List.mem_of_getElem? hp)).1
    exact ⟨hcs 0 _ rfl, hcs 1 _ rfl, hcs 2 _ rfl, ⟨p.2, n, hcs 3 _ rfl, hm⟩⟩
theorem ghost_few (l : List ActM) (x : List AnsM) : ∀ k, (ghostL l x k).ds.length ≤ k
  | 0 => Nat.le_refl _
  | k + 1 => by
    have ih := ghost_few l x k
    show (ghostOf k (ghostL l x k) _ _).ds.length ≤ k + 1
    simp only [ghostOf]
    split
    · simp; exact ih
    · omega
theorem ghost_len (l : List ActM) (x : List AnsM) : ∀ k, (ghostL l x k).ts.length = 4
  | 0 => by simp [ghostL]
  | k + 1 => by
    show (ghostOf k (ghostL l x k) _ _).ts.length = 4
    simp only [ghostOf, List.length_set]
    exact ghost_len l x k
/-- The boxes of a round: the act, the track's copy, its map. -/
theorem comm_boxes (wr : World) (ak : Int) (C : Nat) (ay av : ByteArray) (p s c : Int) : ∃ W3, W3 = ((wr.alloc (.cells #[.int .i64 ak, .int .i64 C, .string ay, .string av] 35)).alloc (.cells #[.int .i64 p, .int .i64 s, .int .i64 c, .map (some (wr.heap.size + 1 + 1))] 64)).alloc (.map #[] 0) ∧ Below wr.heap.size wr W3 ∧ W3.heap.size = wr.heap.size + 1 + 1 + 1 ∧
    W3.cell? ⟨wr.heap.size + 1, 0, none⟩ = some (.int .i64 p) ∧ W3.cell? ⟨wr.heap.size + 1, 1, none⟩ = some (.int .i64 s) ∧ W3.cell? ⟨wr.heap.size + 1, 2, none⟩ = some (.int .i64 c) ∧ W3.cell? ⟨wr.heap.size + 1, 3, none⟩ = some (.map (some (wr.heap.size + 1 + 1))) ∧
    W3.cell? ⟨wr.heap.size, 0, none⟩ = some (.int .i64 ak) ∧ W3.cell? ⟨wr.heap.size, 1, none⟩ = some (.int .i64 C) ∧ W3.cell? ⟨wr.heap.size, 2, none⟩ = some (.string ay) ∧ W3.cell? ⟨wr.heap.size, 3, none⟩ = some (.string av) ∧ W3.frozen? ⟨wr.heap.size + 1, 3, none⟩ = false ∧
    W3.ownsMap (H := Unit) Tryz.prog 9 (plainElem Tryz.prog 9) (wr.heap.size + 1 + 1) 0 (.map []) := by
  refine ⟨_, rfl, ?_⟩
  have s1 : (wr.alloc (.cells #[.int .i64 ak, .int .i64 C, .string ay, .string av] 35)).heap.size = wr.heap.size + 1 := by simp
  have s2 : ((wr.alloc (.cells #[.int .i64 ak, .int .i64 C, .string ay, .string av] 35)).alloc (.cells #[.int .i64 p, .int .i64 s, .int .i64 c, .map (some (wr.heap.size + 1 + 1))] 64)).heap.size = wr.heap.size + 1 + 1 := by simp
  have h1 := (Below.heap_alloc ((wr.alloc (.cells #[.int .i64 ak, .int .i64 C, .string ay, .string av] 35)).alloc (.cells #[.int .i64 p, .int .i64 s, .int .i64 c, .map (some (wr.heap.size + 1 + 1))] 64)) (.map #[] 0) wr.heap.size (by omega)).trans ((Below.heap_alloc (wr.alloc (.cells #[.int .i64 ak, .int .i64 C, .string ay, .string av] 35)) (.cells #[.int .i64 p, .int .i64 s, .int .i64 c, .map (some (wr.heap.size + 1 + 1))] 64) wr.heap.size (by omega)).trans (heap_alloc_new wr _))
  have h2 := heap_alloc_new (wr.alloc (.cells #[.int .i64 ak, .int .i64 C, .string ay, .string av] 35)) (.cells #[.int .i64 p, .int .i64 s, .int .i64 c, .map (some (wr.heap.size + 1 + 1))] 64)
  rw [s1] at h2
  have h2 := (Below.heap_alloc ((wr.alloc (.cells #[.int .i64 ak, .int .i64 C, .string ay, .string av] 35)).alloc (.cells #[.int .i64 p, .int .i64 s, .int .i64 c, .map (some (wr.heap.size + 1 + 1))] 64)) (.map #[] 0) (wr.heap.size + 1) (by omega)).trans h2
  refine ⟨below_alloc (below_alloc (below_alloc (Below.refl _ _) _) _) _, by simp, by rw [Joins.cell_of_block h2]; rfl, by rw [Joins.cell_of_block h2]; rfl, by rw [Joins.cell_of_block h2]; rfl, by rw [Joins.cell_of_block h2]; rfl, by rw [Joins.cell_of_block h1]; rfl, by rw [Joins.cell_of_block h1]; rfl, by rw [Joins.cell_of_block h1]; rfl, by rw [Joins.cell_of_block h1]; rfl, Joins.unfrozen_of_block h2 _, ?_⟩
  have h := World.ownsMap_made (H := Unit) ((wr.alloc (.cells #[.int .i64 ak, .int .i64 C, .string ay, .string av] 35)).alloc (.cells #[.int .i64 p, .int .i64 s, .int .i64 c, .map (some (wr.heap.size + 1 + 1))] 64)) Tryz.prog 9 (plainElem Tryz.prog 9)
  have e : ((wr.alloc (.cells #[.int .i64 ak, .int .i64 C, .string ay, .string av] 35)).alloc (.cells #[.int .i64 p, .int .i64 s, .int .i64 c, .map (some (wr.heap.size + 1 + 1))] 64)).heap.size = wr.heap.size + 1 + 1 := by simp
  rw [e] at h
  exact h
set_option maxRecDepth 100000 in
set_option maxHeartbeats 4000000 in
theorem committed_any (A : Option Addr) (q : Nat) (l : List ActM) (g cx : Nat) (x : List AnsM) (w : World) (hin : CommIn l x) (hact : ActsAt w (· < w.heap.size) A l) (hg : g < w.heap.size) (hans : ∀ i y, x[i]? = some y → AnsAt w g (i * 5) y) :
    Calls Tryz.prog 8 #[.slice A l.length q, .slice (some ⟨g, 0, none⟩) x.length cx] w (CommOut l x w) := by
  have hlen := hin.len
  have hsame := hin.same
  have t0 : ((x.length : Int) != (l.length : Int)) = false := by rw [hsame]; simp
  have HIN := Lib.hid hin
  have HACT := Lib.hid hact
  have HANS := Lib.hid hans
  obtain ⟨Z, hZ, hmk⟩ : ∃ Z : Array Value, Z = madeCells (Value.agg #[.int .i64 0, .int .i64 0, .int .i64 0, .map none]).cells (4 * 4) ∧ ∀ W : World, (Instr.makeSlice 38 (.int .i64 4) (.int .i64 4)).run Tryz.prog W = .ok (.slice (some ⟨W.heap.size, 0, none⟩) 4 4) (W.alloc (.cells Z 64)) := by
    obtain ⟨i0, hi0, hz0, hz1, hz2⟩ := info_parts track_info
    refine ⟨_, rfl, fun W => ?_⟩
    have h := run_make (P := Tryz.prog) W 38 64 i0 _ Tryz.underlying38 hi0 hz0 .i64 .i64 4 4 (by omega) (by omega) (by rw [hz2]; omega) (by omega)
    rw [hz1] at h
    exact h
  have HZ := Lib.hid hZ
  clear hin hact hans hsame hZ
  go_enter Tryz.func8, Tryz.ntmps8
  go_wp2
  go_loopw [6, 7, 23] (fun ov sv i wr => ∃ k : Nat, k ≤ l.length ∧ i = .int .i64 k ∧ CommInv l x w.heap.size k ov sv w wr) (fun _ _ i _ => l.length - (intOf i).toNat)
  case atStart =>
    refine ⟨0, Nat.zero_le _, rfl, fun _ => none, [], [], Cells.Owns.nil _ _ _, Cells.Owns.nil _ _ _, rfl, rfl, ?_, ⟨fun _ h => (by cases h), fun _ h => (by cases h)⟩, below_alloc (Below.refl _ _) _, fun _ _ _ h => (by cases h)⟩
    exact live_start w Z HZ.out
  case round =>
    obtain ⟨k, hk, rfl, mb, ds, sn, hod, hot, hds, hsn, hlive, hcold, hb, hlo⟩ := hrel
    by_cases hm : k < l.length
    · obtain ⟨b, o, rfl, hbb, hax⟩ := SeqAt.at_ (SeqAt.acts HACT.out (P' := (· < w.heap.size)) (fun _ h => h) (fun b j hb' => hb.cell (p := ⟨b, j, none⟩) hb')) (getD_some (d := default) hm)
      obtain ⟨a, had⟩ : ∃ a, a = l.getD k default := ⟨_, rfl⟩
      rw [← had] at hax
      obtain ⟨hc0, hc4⟩ := HIN.out.c k hm
      rw [← had] at hc0 hc4
      obtain ⟨C, hC⟩ : ∃ C : Nat, a.c = C := ⟨a.c.toNat, by omega⟩
      have hC4 : C < 4 := by omega
      have x0 := hax.k
      have x1 := hax.c
      have x2 := hax.y
      have x3 := hax.v
      rw [hC] at x1
      have HAOK := Lib.hid hax.ok
      have hbw : b < wr.heap.size := Nat.lt_of_lt_of_le hbb hb.size
      have j0 : (0 : Int) ≤ (k : Int) := by omega
      have j1 : (k : Int) < (l.length : Int) := by omega
      have i0 : (0 : Int) ≤ (C : Int) := by omega
      have i1 : (C : Int) < 4 := by omega
      have c0 := hlive.p C hC4
      have c1 := hlive.s C hC4
      have c2 := hlive.c C hC4
      have c3 := hlive.m C hC4
      have hgl : w.heap.size < wr.heap.size := hlive.lt
      have hgl1 : w.heap.size < wr.heap.size + 1 := by omega
      have hgl2 : w.heap.size < wr.heap.size + 1 + 1 := by omega
      have hmm := @run_makeMap Tryz.prog
      obtain ⟨T, hTd⟩ : ∃ T, T = (ghostL l x k).ts.getD C default := ⟨_, rfl⟩
      rw [← hTd] at c0 c1 c2
      have HOD := Lib.hid hod
      have HOT := Lib.hid hot
      have HDS := Lib.hid hds
      have HSN := Lib.hid hsn
      have HLV := Lib.hid hlive
      have HCD := Lib.hid hcold
      have HB := Lib.hid hb
      have HLO := Lib.hid hlo
      have HA := Lib.hid had
      have HT := Lib.hid hTd
      have HCC := Lib.hid hC
      clear hod hot hds hsn hlive hcold hb hlo had hTd hax hC hc0 hc4
      obtain ⟨ak, ac, ay, av⟩ := a
      dsimp only at x0 x1 x2 x3
      have hkx : k < x.length := by rw [HIN.out.same]; exact hm
      obtain ⟨y, hyd⟩ : ∃ y, y = x.getD k default := ⟨_, rfl⟩
      have HY := Lib.hid (show AnsAt w g (k * 5) y from HANS.out k y (by rw [hyd]; exact getD_some hkx))
      have HTS := Lib.hid (show T = seenT l x k by rw [HT.out, seenT, ← HA.out]; show _ = (ghostL l x k).ts.getD ac.toNat default; rw [show ac = (C : Int) from HCC.out, Int.toNat_natCast])
      have HG1 := Lib.hid (show ghostL l x (k + 1) = ⟨if y.code = 0 ∧ ak = 4 ∧ T.ph = 3 then (ghostL l x k).ds ++ [⟨T.st, (trackOf T ⟨ak, ac, ay, av⟩ y).cm, k, T.ws⟩] else (ghostL l x k).ds, (ghostL l x k).ts.set C { trackOf T ⟨ak, ac, ay, av⟩ y with ph := y.ph }⟩ by
        show ghostOf k (ghostL l x k) (l.getD k default) (x.getD k default) = _
        rw [← HA.out, ← hyd, ghostOf]
        dsimp only
        rw [show ac = (C : Int) from HCC.out, Int.toNat_natCast, ← HT.out])
      have HZ0 := Lib.hid (show mb C = none → ¬ (ak = 1 ∧ y.code = 0) → y.ph = 0 from fun hn h1 => by
        rw [hyd]
        refine HIN.out.zero k hm ?_ ?_
        · rw [← HTS.out, HT.out]; exact (HLV.out.no C hC4 hn).2
        · rw [← HA.out, ← hyd]; exact h1)
      have HPT := Lib.hid (show ak = 3 → y.code = 0 → T.ph ≠ 0 ∧ Inc (wrKeys T.ws) from fun h1 h2 => by
        rw [HTS.out]
        exact HIN.out.put k hm (by rw [← HA.out]; exact h1) (by rw [← hyd]; exact h2))
      have HTL := Lib.hid (show (ghostL l x k).ts.length = 4 from ghost_len l x k)
      have j2 : (k : Int) < (x.length : Int) := by omega
      clear hyd hkx
      obtain ⟨yc, yi, yv, yp, yt⟩ := y
      dsimp only at HG1 HZ0 HPT
      cases hmb : mb C with
      | none =>
        rw [hmb] at c3
        have hTws : T.ws = [] := by rw [HT.out]; exact (HLV.out.no C hC4 hmb).1
        obtain ⟨W3, hW3, hb3, hs3, o0, o1, o2, o3, y0, y1, y2, y3, of3, hmade⟩ := comm_boxes wr ak C ay av T.ph T.st T.cm
        have HW3 := Lib.hid hW3
        have HB3 := Lib.hid hb3
        have hrg := run_range_nilMap (P := Tryz.prog) W3 49 9 9 Tryz.underlying49
        have hnx0 : ∀ ty, (Instr.next (.pointer (some ⟨W3.heap.size, 0, none⟩)) false ty).run Tryz.prog (W3.alloc (.mapIter none 0 #[] 0)) = _ := fun ty => run_next_nilMap _ ty 0 0 #[]
        rw [hs3] at hrg hnx0
        have c3' := (hb3.cell (p := ⟨w.heap.size, C * 4 + 3, none⟩) hgl).trans c3
        clear hb3 hW3
        go_wp2_with (rw [show ((wr.alloc (.cells #[.int .i64 ak, .int .i64 C, .string ay, .string av] 35)).alloc (.cells #[.int .i64 T.ph, .int .i64 T.st, .int .i64 T.cm, .map (some (wr.heap.size + 1 + 1))] 64)).alloc (.map #[] 0) = W3 from HW3.out.symm])
        obtain ⟨wq, rfl⟩ : ∃ wq, wq = wr := ⟨_, rfl⟩
        have hnx : Below (wq.heap.size + 1 + 1) W3 (W3.alloc (.mapIter none 0 #[] 0)) := (below_alloc (Below.refl _ _) _).mono (by omega)
        have hmap : MapAt (W3.alloc (.mapIter none 0 #[] 0)) (wq.heap.size + 1 + 1) 0 T.ws := ⟨.map [], hmade.alloc _, by rw [hTws]; exact mapIs_nil⟩
        obtain ⟨wr, hwr⟩ : ∃ wr, wr = W3.alloc (.mapIter none 0 #[] 0) := ⟨_, rfl⟩
        rw [← hwr] at hnx0 hnx hmap ⊢
        clear hwr hrg hmade hTws
        refine wp_loop_rounds 1 ?_
        rw [rounds_succ]
        have hgA : g ≠ w.heap.size := by omega
        have hgA' : w.heap.size ≠ g := by omega
        have hnx1 : Below wq.heap.size wq wr := HB3.out.trans (hnx.mono (by omega))
        have hsz1 := hnx.size
        have hsq : wq.heap.size + 1 + 1 < wr.heap.size := hmap.lt
        have p0 := (hnx.cell (p := ⟨wq.heap.size + 1, 0, none⟩) (by show wq.heap.size + 1 < _; omega)).trans o0
        have p1 := (hnx.cell (p := ⟨wq.heap.size + 1, 1, none⟩) (by show wq.heap.size + 1 < _; omega)).trans o1
        have p2 := (hnx.cell (p := ⟨wq.heap.size + 1, 2, none⟩) (by show wq.heap.size + 1 < _; omega)).trans o2
        have p3 := (hnx.cell (p := ⟨wq.heap.size + 1, 3, none⟩) (by show wq.heap.size + 1 < _; omega)).trans o3
        have z0 := (hnx.cell (p := ⟨wq.heap.size, 0, none⟩) (by show wq.heap.size < _; omega)).trans y0
        have z1 := (hnx.cell (p := ⟨wq.heap.size, 1, none⟩) (by show wq.heap.size < _; omega)).trans y1
        have z2 := (hnx.cell (p := ⟨wq.heap.size, 2, none⟩) (by show wq.heap.size < _; omega)).trans y2
        have z3 := (hnx.cell (p := ⟨wq.heap.size, 3, none⟩) (by show wq.heap.size < _; omega)).trans y3
        have HMAP := Lib.hid hmap
        have HLV1 := Lib.hid (HLV.out.still (Still.below hnx1))
        have HCD1 := Lib.hid (HCD.out.still (Still.below (gA := w.heap.size) hnx1))
        have HOD1 := Lib.hid (HOD.out.kept hnx1)
        have HOT1 := Lib.hid (HOT.out.kept hnx1)
        have HB1 := Lib.hid (below_next HB.out hnx1)
        have hsnl : sn.length = k := by rw [← List.length_map (f := Prod.fst), HSN.out]; simp [seenL]
        have HAP := Lib.hid (show ∀ ty : TypeId, ∃ v' w', (Builtin.append_ #[38, 38] ty #[u7, .slice (some ⟨wr.heap.size, 0, none⟩) 1 1]).run Tryz.prog (wr.alloc (.cells #[.int .i64 T.ph, .int .i64 T.st, .int .i64 T.cm, .map (some (wq.heap.size + 1 + 1))] 64)) = .ok v' w' ∧ trackCells.Owns w' (w.heap.size + 1) 64 v' (sn ++ [(T, wq.heap.size + 1 + 1)]) ∧ CommMid w wq w' k C (ghostL l x k).ts mb ds (sn ++ [(T, wq.heap.size + 1 + 1)]) u6 ak ay av (wq.heap.size + 1 + 1) T from fun ty => by
          obtain ⟨i0, hi0, hz0, hz1, hz2⟩ := info_parts track_info
          obtain ⟨v', w', h1, h2, h3⟩ := app_one (C := trackCells) (ty := ty) (bytes := 32) Tryz.underlying38 hi0 hz0 hz1 hz2 rfl wr (w.heap.size + 1) u7 sn (T, wq.heap.size + 1 + 1) HOT1.out (by omega) (by omega) (by omega)
          exact ⟨v', w', h1, h2, comm_next HLV.out HOT.out (by omega) (by omega) HCD1.out HLV1.out HOD1.out HOT1.out HB1.out z0 z1 z2 z3 p3 HMAP.out h3⟩)
        have HSN' := Lib.hid (show (sn ++ [(T, wq.heap.size + 1 + 1)]).map Prod.fst = seenL l x (k + 1) by rw [List.map_append, HSN.out, seenL_succ]; exact congrArg (fun z => seenL l x k ++ [z]) HTS.out)
        clear hnx hnx1 hmap z0 z1 z2 z3 o0 o1 o2 o3 y0 y1 y2 y3 HLV1 HCD1 HOD1 HOT1 HMAP HB3
        by_cases hyc : yc = 0
        · subst hyc
          by_cases h1 : ak = 1
          · subst h1
            go_wp2_with (at_builtin; refine (wpList_append_run _ rfl (.tmp 51) (.tmp 53) 38 rfl u7 (.slice (some ⟨wr.heap.size, 0, none⟩) 1 1) rfl rfl (HAP.out _) ?_); rintro v8 w8 ⟨hown8, hmid⟩; have HO8 := Lib.hid hown8; have HM := Lib.hid hmid; have r0 := hmid.z0; have r1 := hmid.z1; have r2 := hmid.z2; have r3 := hmid.z3; have rp := hmid.p3; have l0 := hmid.live.p C hC4; have l1 := hmid.live.s C hC4; have l2 := hmid.live.c C hC4; have l3 := hmid.live.m C hC4; have lf := hmid.live.f; try rw [hmb] at l3; have q0 := (hmid.bel.cell (p := ⟨g, k * 5, none⟩) hg).trans HY.out.c; have q3 := (hmid.bel.cell (p := ⟨g, k * 5 + 3, none⟩) hg).trans HY.out.p; have q4 := (hmid.bel.cell (p := ⟨g, k * 5 + 4, none⟩) hg).trans HY.out.t; have hgw8 := hmid.live.lt; have hgx : g < w8.heap.size := Nat.lt_of_lt_of_le hg hmid.bel.size; rw [← HT.out] at l0 l1 l2; clear hown8 hmid)
            go_roundw
            case rel => exact ⟨k + 1, by omega, by go_num, (fun j => if j = C then some w8.heap.size else mb j), ds, _, owns_begin HM.out.own _ _, owns_begin HO8.out _ _, by rw [HDS.out, HG1.out]; dsimp only; rw [if_neg (by omega)], HSN'.out, by rw [HG1.out, show trackOf T ⟨1, ac, ay, av⟩ ⟨0, yi, yv, yp, yt⟩ = ⟨0, yt, 0, []⟩ from rfl]; exact HM.out.live.begin hC4 HTL.out yp yt, HM.out.cold.begin HM.out.live _ _, below_alloc (((((HM.out.bel.setCell (Nat.le_refl _) _).setCell (Nat.le_refl _) _).setCell (Nat.le_refl _) _).setCell (Nat.le_refl _) _).setCell (Nat.le_refl _) _) _, fun j b hj hb => by
                dsimp only at hb
                split at hb
                · injection hb with hb; rw [← hb]; exact HM.out.bel.size
                · exact HLO.out j b hj hb⟩
            case measure => simp [intOf]; omega
          · have e1 : (ak == 1) = false := by simpa using h1
            by_cases h3 : ak = 3
            · exfalso
              subst h3
              exact (HPT.out rfl rfl).1 (by rw [HT.out]; exact (HLV.out.no C hC4 hmb).2)
            · have e3 : (ak == 3) = false := by simpa using h3
              have HZR := Lib.hid (show mb C = none → yp = 0 from fun hn => HZ0.out hn (fun hh => h1 hh.1))
              by_cases h4 : ak = 4
              · subst h4
                by_cases ht0 : yt = 0
                · subst ht0
                  by_cases hp3 : T.ph = 3
                  ·
                    exfalso
                    have hno := (HLV.out.no C hC4 hmb).2
                    rw [← HT.out] at hno
                    omega
                  · have g3 : (T.ph == 3) = false := by simpa using hp3
                    go_wp2_with (at_builtin; refine (wpList_append_run _ rfl (.tmp 51) (.tmp 53) 38 rfl u7 (.slice (some ⟨wr.heap.size, 0, none⟩) 1 1) rfl rfl (HAP.out _) ?_); rintro v8 w8 ⟨hown8, hmid⟩; have HO8 := Lib.hid hown8; have HM := Lib.hid hmid; have r0 := hmid.z0; have r1 := hmid.z1; have r2 := hmid.z2; have r3 := hmid.z3; have rp := hmid.p3; have l0 := hmid.live.p C hC4; have l1 := hmid.live.s C hC4; have l2 := hmid.live.c C hC4; have l3 := hmid.live.m C hC4; have lf := hmid.live.f; try rw [hmb] at l3; have q0 := (hmid.bel.cell (p := ⟨g, k * 5, none⟩) hg).trans HY.out.c; have q3 := (hmid.bel.cell (p := ⟨g, k * 5 + 3, none⟩) hg).trans HY.out.p; have q4 := (hmid.bel.cell (p := ⟨g, k * 5 + 4, none⟩) hg).trans HY.out.t; have hgw8 := hmid.live.lt; have hgx : g < w8.heap.size := Nat.lt_of_lt_of_le hg hmid.bel.size; rw [← HT.out] at l0 l1 l2; clear hown8 hmid)
                    go_roundw
                    case rel => exact ⟨k + 1, by omega, by go_num, mb, ds, _, owns_store HM.out.own _ _, owns_store HO8.out _ _, by rw [HDS.out, HG1.out]; dsimp only; rw [if_neg (fun hh => hp3 hh.2.2)], HSN'.out, by rw [HG1.out]; rw [show trackOf T ⟨4, ac, ay, av⟩ ⟨0, yi, yv, yp, 0⟩ = T from rfl]; exact HM.out.live.phase hC4 HTL.out HT.out yp HZR.out, HM.out.cold.store HM.out.live _ _, HM.out.bel.setCell (Nat.le_refl _) _, HLO.out⟩
                    case measure => simp [intOf]; omega
                · have gt : (yt != 0) = true := by simpa using ht0
                  by_cases hp3 : T.ph = 3
                  ·
                    exfalso
                    have hno := (HLV.out.no C hC4 hmb).2
                    rw [← HT.out] at hno
                    omega
                  · have g3 : (T.ph == 3) = false := by simpa using hp3
                    go_wp2_with (at_builtin; refine (wpList_append_run _ rfl (.tmp 51) (.tmp 53) 38 rfl u7 (.slice (some ⟨wr.heap.size, 0, none⟩) 1 1) rfl rfl (HAP.out _) ?_); rintro v8 w8 ⟨hown8, hmid⟩; have HO8 := Lib.hid hown8; have HM := Lib.hid hmid; have r0 := hmid.z0; have r1 := hmid.z1; have r2 := hmid.z2; have r3 := hmid.z3; have rp := hmid.p3; have l0 := hmid.live.p C hC4; have l1 := hmid.live.s C hC4; have l2 := hmid.live.c C hC4; have l3 := hmid.live.m C hC4; have lf := hmid.live.f; try rw [hmb] at l3; have q0 := (hmid.bel.cell (p := ⟨g, k * 5, none⟩) hg).trans HY.out.c; have q3 := (hmid.bel.cell (p := ⟨g, k * 5 + 3, none⟩) hg).trans HY.out.p; have q4 := (hmid.bel.cell (p := ⟨g, k * 5 + 4, none⟩) hg).trans HY.out.t; have hgw8 := hmid.live.lt; have hgx : g < w8.heap.size := Nat.lt_of_lt_of_le hg hmid.bel.size; rw [← HT.out] at l0 l1 l2; clear hown8 hmid)
                    go_roundw
                    case rel => exact ⟨k + 1, by omega, by go_num, mb, ds, _, owns_store (owns_store HM.out.own _ _) _ _, owns_store (owns_store HO8.out _ _) _ _, by rw [HDS.out, HG1.out]; dsimp only; rw [if_neg (fun hh => hp3 hh.2.2)], HSN'.out, by rw [HG1.out, show trackOf T ⟨4, ac, ay, av⟩ ⟨0, yi, yv, yp, yt⟩ = { T with cm := yt } by unfold trackOf; simp [ht0]]; exact HM.out.live.commitPhase hC4 HTL.out HT.out yt yp HZR.out, (HM.out.cold.store HM.out.live _ _).store (HM.out.live.commit hC4 HTL.out HT.out yt) _ _, (HM.out.bel.setCell (Nat.le_refl _) _).setCell (Nat.le_refl _) _, HLO.out⟩
                    case measure => simp [intOf]; omega
              · have e4 : (ak == 4) = false := by simpa using h4
                go_wp2_with (at_builtin; refine (wpList_append_run _ rfl (.tmp 51) (.tmp 53) 38 rfl u7 (.slice (some ⟨wr.heap.size, 0, none⟩) 1 1) rfl rfl (HAP.out _) ?_); rintro v8 w8 ⟨hown8, hmid⟩; have HO8 := Lib.hid hown8; have HM := Lib.hid hmid; have r0 := hmid.z0; have r1 := hmid.z1; have r2 := hmid.z2; have r3 := hmid.z3; have rp := hmid.p3; have l0 := hmid.live.p C hC4; have l1 := hmid.live.s C hC4; have l2 := hmid.live.c C hC4; have l3 := hmid.live.m C hC4; have lf := hmid.live.f; try rw [hmb] at l3; have q0 := (hmid.bel.cell (p := ⟨g, k * 5, none⟩) hg).trans HY.out.c; have q3 := (hmid.bel.cell (p := ⟨g, k * 5 + 3, none⟩) hg).trans HY.out.p; have q4 := (hmid.bel.cell (p := ⟨g, k * 5 + 4, none⟩) hg).trans HY.out.t; have hgw8 := hmid.live.lt; have hgx : g < w8.heap.size := Nat.lt_of_lt_of_le hg hmid.bel.size; rw [← HT.out] at l0 l1 l2; clear hown8 hmid)
                go_roundw
                case rel => exact ⟨k + 1, by omega, by go_num, mb, ds, _, owns_store HM.out.own _ _, owns_store HO8.out _ _, by rw [HDS.out, HG1.out]; exact (if_neg (fun hh => h4 hh.2.1)).symm, HSN'.out, by rw [HG1.out]; rw [show trackOf T ⟨ak, ac, ay, av⟩ ⟨0, yi, yv, yp, yt⟩ = T by unfold trackOf; rw [if_neg (fun h' => h' rfl), if_neg h1, if_neg h3, if_neg h4]]; exact HM.out.live.phase hC4 HTL.out HT.out yp HZR.out, HM.out.cold.store HM.out.live _ _, HM.out.bel.setCell (Nat.le_refl _) _, HLO.out⟩
                case measure => simp [intOf]; omega
        · have d0 : (yc == 0) = false := by simpa using hyc
          have HZR := Lib.hid (show mb C = none → yp = 0 from fun hn => HZ0.out hn (fun hh => hyc hh.2))
          go_wp2_with (at_builtin; refine (wpList_append_run _ rfl (.tmp 51) (.tmp 53) 38 rfl u7 (.slice (some ⟨wr.heap.size, 0, none⟩) 1 1) rfl rfl (HAP.out _) ?_); rintro v8 w8 ⟨hown8, hmid⟩; have HO8 := Lib.hid hown8; have HM := Lib.hid hmid; have r0 := hmid.z0; have r1 := hmid.z1; have r2 := hmid.z2; have r3 := hmid.z3; have rp := hmid.p3; have l0 := hmid.live.p C hC4; have l1 := hmid.live.s C hC4; have l2 := hmid.live.c C hC4; have l3 := hmid.live.m C hC4; have lf := hmid.live.f; try rw [hmb] at l3; have q0 := (hmid.bel.cell (p := ⟨g, k * 5, none⟩) hg).trans HY.out.c; have q3 := (hmid.bel.cell (p := ⟨g, k * 5 + 3, none⟩) hg).trans HY.out.p; have q4 := (hmid.bel.cell (p := ⟨g, k * 5 + 4, none⟩) hg).trans HY.out.t; have hgw8 := hmid.live.lt; have hgx : g < w8.heap.size := Nat.lt_of_lt_of_le hg hmid.bel.size; rw [← HT.out] at l0 l1 l2; clear hown8 hmid)
          go_roundw
          case rel => exact ⟨k + 1, by omega, by go_num, mb, ds, _, owns_store HM.out.own _ _, owns_store HO8.out _ _, by rw [HDS.out, HG1.out]; exact (if_neg (fun hh => hyc hh.1)).symm, HSN'.out, by rw [HG1.out]; rw [show trackOf T ⟨ak, ac, ay, av⟩ ⟨yc, yi, yv, yp, yt⟩ = T by unfold trackOf; rw [if_pos hyc]]; exact HM.out.live.phase hC4 HTL.out HT.out yp HZR.out, HM.out.cold.store HM.out.live _ _, HM.out.bel.setCell (Nat.le_refl _) _, HLO.out⟩
          case measure => simp [intOf]; omega
      | some bt =>
        rw [hmb] at c3
        obtain ⟨D, hown, hmi⟩ := HLV.out.yes C bt hC4 hmb
        have HMI := Lib.hid hmi
        have hbtl : bt < wr.heap.size := hown.lt
        obtain ⟨W3, hW3, hb3, hs3, o0, o1, o2, o3, y0, y1, y2, y3, of3, hmade⟩ := comm_boxes wr ak C ay av T.ph T.st T.cm
        have hown3 : W3.ownsMap Tryz.prog 9 (plainElem Tryz.prog 9) bt k D := by rw [hW3]; exact ((hown.alloc _).alloc _).alloc _
        have HOWN3 := Lib.hid hown3
        have HW3 := Lib.hid hW3
        have HCANON := Lib.hid (hown.canon law_str)
        have hszD := hown.size_le
        have HB3 := Lib.hid hb3
        clear hown hmi hown3 hb3 hW3
        go_wp2_with (rw [show ((wr.alloc (.cells #[.int .i64 ak, .int .i64 C, .string ay, .string av] 35)).alloc (.cells #[.int .i64 T.ph, .int .i64 T.st, .int .i64 T.cm, .map (some (wr.heap.size + 1 + 1))] 64)).alloc (.map #[] 0) = W3 from HW3.out.symm]; at_range; refine wpList_range_own _ rfl _ 49 rfl 9 9 law_str Tryz.underlying49 _ bt k D rfl HOWN3.out ?_; intro w0 hrg0 hg0 hs0)
        try go_frame
        rw [hs3] at hrg0
        try rw [hs3]
        obtain ⟨wq, rfl⟩ : ∃ wq, wq = wr := ⟨_, rfl⟩
        go_loopw [13] (fun _ wr => ∃ (left : Lit → Bool) (cnt : Nat) (Dout : DataW Unit), wr.ranges Tryz.prog 9 (plainElem Tryz.prog 9) bt (wq.heap.size + 1 + 1 + 1) k D left cnt ∧ cnt ≤ Maps.size D ∧
            wr.ownsMap Tryz.prog 9 (plainElem Tryz.prog 9) (wq.heap.size + 1 + 1) (Maps.size D - cnt) Dout ∧ Agree Dout D left ∧ Below (wq.heap.size + 1 + 1) W3 wr)
          (fun _ wr => wr.rangeLeft bt (wq.heap.size + 1 + 1 + 1))
        case atStart =>
          exact ⟨_, _, .map [], hrg0, Nat.le_refl _, (hmade.kept hg0 (by simp)).mono (Nat.zero_le _), agree_start D, ((Below.refl _ _).grown hg0 (by omega) (fun j hj => by cases hj))⟩
        case round =>
          obtain ⟨left, cnt, Dout, hrg, hcs, hout, hA, hnx⟩ := hrel
          have o3' : wr.cell? ⟨wq.heap.size + 1, 3, none⟩ = some (.map (some (wq.heap.size + 1 + 1))) := (hnx.cell (p := ⟨wq.heap.size + 1, 3, none⟩) (by show wq.heap.size + 1 < _; omega)).trans o3
          go_wp2_with (first
            | (at_next; refine wpList_next_ss _ rfl _ rfl bt (wq.heap.size + 1 + 1 + 1) k _ _ _ rfl hrg ?_ ?_)
            | go_in)
          · intro hc0 hl0
            have e := agree_end hA hl0 (hout.canon law_str) HCANON.out
            subst hc0
            subst e
            have hmap : MapAt wr (wq.heap.size + 1 + 1) (Maps.size Dout - 0) T.ws := ⟨_, hout, by rw [HT.out]; exact HMI.out⟩
            clear hrg hcs hA hl0 o3' hg0 hs0 hrg0 hmade
            have hgA : g ≠ w.heap.size := by omega
            have hgA' : w.heap.size ≠ g := by omega
            have hnx1 : Below wq.heap.size wq wr := HB3.out.trans (hnx.mono (by omega))
            have hsz1 := hnx.size
            have hsq : wq.heap.size + 1 + 1 < wr.heap.size := hmap.lt
            have p0 := (hnx.cell (p := ⟨wq.heap.size + 1, 0, none⟩) (by show wq.heap.size + 1 < _; omega)).trans o0
            have p1 := (hnx.cell (p := ⟨wq.heap.size + 1, 1, none⟩) (by show wq.heap.size + 1 < _; omega)).trans o1
            have p2 := (hnx.cell (p := ⟨wq.heap.size + 1, 2, none⟩) (by show wq.heap.size + 1 < _; omega)).trans o2
            have p3 := (hnx.cell (p := ⟨wq.heap.size + 1, 3, none⟩) (by show wq.heap.size + 1 < _; omega)).trans o3
            have z0 := (hnx.cell (p := ⟨wq.heap.size, 0, none⟩) (by show wq.heap.size < _; omega)).trans y0
            have z1 := (hnx.cell (p := ⟨wq.heap.size, 1, none⟩) (by show wq.heap.size < _; omega)).trans y1
            have z2 := (hnx.cell (p := ⟨wq.heap.size, 2, none⟩) (by show wq.heap.size < _; omega)).trans y2
            have z3 := (hnx.cell (p := ⟨wq.heap.size, 3, none⟩) (by show wq.heap.size < _; omega)).trans y3
            have HMAP := Lib.hid hmap
            have HLV1 := Lib.hid (HLV.out.still (Still.below hnx1))
            have HCD1 := Lib.hid (HCD.out.still (Still.below (gA := w.heap.size) hnx1))
            have HOD1 := Lib.hid (HOD.out.kept hnx1)
            have HOT1 := Lib.hid (HOT.out.kept hnx1)
            have HB1 := Lib.hid (below_next HB.out hnx1)
            have hsnl : sn.length = k := by rw [← List.length_map (f := Prod.fst), HSN.out]; simp [seenL]
            have HAP := Lib.hid (show ∀ ty : TypeId, ∃ v' w', (Builtin.append_ #[38, 38] ty #[u7, .slice (some ⟨wr.heap.size, 0, none⟩) 1 1]).run Tryz.prog (wr.alloc (.cells #[.int .i64 T.ph, .int .i64 T.st, .int .i64 T.cm, .map (some (wq.heap.size + 1 + 1))] 64)) = .ok v' w' ∧ trackCells.Owns w' (w.heap.size + 1) 64 v' (sn ++ [(T, wq.heap.size + 1 + 1)]) ∧ CommMid w wq w' k C (ghostL l x k).ts mb ds (sn ++ [(T, wq.heap.size + 1 + 1)]) u6 ak ay av (wq.heap.size + 1 + 1) T from fun ty => by
              obtain ⟨i0, hi0, hz0, hz1, hz2⟩ := info_parts track_info
              obtain ⟨v', w', h1, h2, h3⟩ := app_one (C := trackCells) (ty := ty) (bytes := 32) Tryz.underlying38 hi0 hz0 hz1 hz2 rfl wr (w.heap.size + 1) u7 sn (T, wq.heap.size + 1 + 1) HOT1.out (by omega) (by omega) (by omega)
              exact ⟨v', w', h1, h2, comm_next HLV.out HOT.out (by omega) (by omega) HCD1.out HLV1.out HOD1.out HOT1.out HB1.out z0 z1 z2 z3 p3 HMAP.out h3⟩)
            have HSN' := Lib.hid (show (sn ++ [(T, wq.heap.size + 1 + 1)]).map Prod.fst = seenL l x (k + 1) by rw [List.map_append, HSN.out, seenL_succ]; exact congrArg (fun z => seenL l x k ++ [z]) HTS.out)
            clear hnx hnx1 hmap z0 z1 z2 z3 o0 o1 o2 o3 y0 y1 y2 y3 HLV1 HCD1 HOD1 HOT1 HMAP HB3
            by_cases hyc : yc = 0
            · subst hyc
              by_cases h1 : ak = 1
              · subst h1
                go_wp2_with (at_builtin; refine (wpList_append_run _ rfl (.tmp 51) (.tmp 53) 38 rfl u7 (.slice (some ⟨wr.heap.size, 0, none⟩) 1 1) rfl rfl (HAP.out _) ?_); rintro v8 w8 ⟨hown8, hmid⟩; have HO8 := Lib.hid hown8; have HM := Lib.hid hmid; have r0 := hmid.z0; have r1 := hmid.z1; have r2 := hmid.z2; have r3 := hmid.z3; have rp := hmid.p3; have l0 := hmid.live.p C hC4; have l1 := hmid.live.s C hC4; have l2 := hmid.live.c C hC4; have l3 := hmid.live.m C hC4; have lf := hmid.live.f; try rw [hmb] at l3; have q0 := (hmid.bel.cell (p := ⟨g, k * 5, none⟩) hg).trans HY.out.c; have q3 := (hmid.bel.cell (p := ⟨g, k * 5 + 3, none⟩) hg).trans HY.out.p; have q4 := (hmid.bel.cell (p := ⟨g, k * 5 + 4, none⟩) hg).trans HY.out.t; have hgw8 := hmid.live.lt; have hgx : g < w8.heap.size := Nat.lt_of_lt_of_le hg hmid.bel.size; rw [← HT.out] at l0 l1 l2; clear hown8 hmid)
                go_roundw
                case rel => exact ⟨k + 1, by omega, by go_num, (fun j => if j = C then some w8.heap.size else mb j), ds, _, owns_begin HM.out.own _ _, owns_begin HO8.out _ _, by rw [HDS.out, HG1.out]; dsimp only; rw [if_neg (by omega)], HSN'.out, by rw [HG1.out, show trackOf T ⟨1, ac, ay, av⟩ ⟨0, yi, yv, yp, yt⟩ = ⟨0, yt, 0, []⟩ from rfl]; exact HM.out.live.begin hC4 HTL.out yp yt, HM.out.cold.begin HM.out.live _ _, below_alloc (((((HM.out.bel.setCell (Nat.le_refl _) _).setCell (Nat.le_refl _) _).setCell (Nat.le_refl _) _).setCell (Nat.le_refl _) _).setCell (Nat.le_refl _) _) _, fun j b hj hb => by
                    dsimp only at hb
                    split at hb
                    · injection hb with hb; rw [← hb]; exact HM.out.bel.size
                    · exact HLO.out j b hj hb⟩
                case measure => simp [intOf]; omega
              · have e1 : (ak == 1) = false := by simpa using h1
                by_cases h3 : ak = 3
                · subst h3
                  have HINC := Lib.hid (HPT.out rfl rfl).2
                  go_wp2_with (at_builtin; refine (wpList_append_run _ rfl (.tmp 51) (.tmp 53) 38 rfl u7 (.slice (some ⟨wr.heap.size, 0, none⟩) 1 1) rfl rfl (HAP.out _) ?_); rintro v8 w8 ⟨hown8, hmid⟩; have HO8 := Lib.hid hown8; have HM := Lib.hid hmid; have r0 := hmid.z0; have r1 := hmid.z1; have r2 := hmid.z2; have r3 := hmid.z3; have rp := hmid.p3; have l0 := hmid.live.p C hC4; have l1 := hmid.live.s C hC4; have l2 := hmid.live.c C hC4; have l3 := hmid.live.m C hC4; have lf := hmid.live.f; try rw [hmb] at l3; have q0 := (hmid.bel.cell (p := ⟨g, k * 5, none⟩) hg).trans HY.out.c; have q3 := (hmid.bel.cell (p := ⟨g, k * 5 + 3, none⟩) hg).trans HY.out.p; have q4 := (hmid.bel.cell (p := ⟨g, k * 5 + 4, none⟩) hg).trans HY.out.t; have hgw8 := hmid.live.lt; have hgx : g < w8.heap.size := Nat.lt_of_lt_of_le hg hmid.bel.size; rw [← HT.out] at l0 l1 l2; clear hown8 hmid)
                  obtain ⟨D8, hD8, hI8⟩ := HM.out.live.yes C bt hC4 hmb
                  have nbA := HM.out.live.ne_map (HM.out.live.yes C bt hC4 hmb)
                  have nbx := map_ne_cell (HM.out.live.yes C bt hC4 hmb) q0
                  have nbq := map_ne_cell (HM.out.live.yes C bt hC4 hmb) r2
                  have hqx : wq.heap.size < w8.heap.size := World.block_lt_of_cell? w8 _ r2
                  have hI8' : MapIs D8 T.ws := by rw [HT.out]; exact hI8
                  have HI8 := Lib.hid hI8'
                  have HISM := Lib.hid hD8.isMap
                  obtain ⟨w9, hrun9, hown9, hg9⟩ := hD8.drew.update law_str Tryz.underlying49 (show k < maxLen by unfold maxLen; omega) (key_str HAOK.out.1) (plainElem_string (H := Unit) Tryz.underlying9 HAOK.out.2)
                  have q3' := (cell_but hg9 (k * 5 + 3) nbx hgx).trans (show w8.drew.cell? ⟨g, k * 5 + 3, none⟩ = _ from q3)
                  have l0' := (cell_but hg9 (C * 4) nbA hgw8).trans (show w8.drew.cell? ⟨w.heap.size, C * 4, none⟩ = _ from l0)
                  have l3' := (cell_but hg9 (C * 4 + 3) nbA hgw8).trans (show w8.drew.cell? ⟨w.heap.size, C * 4 + 3, none⟩ = _ from l3)
                  have r2' := (cell_but hg9 2 nbq hqx).trans (show w8.drew.cell? ⟨wq.heap.size, 2, none⟩ = _ from r2)
                  have r3' := (cell_but hg9 3 nbq hqx).trans (show w8.drew.cell? ⟨wq.heap.size, 3, none⟩ = _ from r3)
                  have lf' : ∀ o, w9.frozen? ⟨w.heap.size, o, none⟩ = false := fun o => (fr_block (hg9.block w.heap.size hgw8 (fun e => nbA (by injection e with e; exact e.symm))) o).trans (lf o)
                  have HG9 := Lib.hid hg9
                  have HO9 := Lib.hid hown9
                  have HLD := Lib.hid (HM.out.live.still (w' := w8.drew) (fun _ _ _ => rfl))
                  have HCDD := Lib.hid (HM.out.cold.still (w' := w8.drew) (gA := w.heap.size) (fun _ _ _ => rfl))
                  clear hD8 hI8 hI8' hg9 hown9
                  refine wp_region_held_drew (S := fun W => W.cell? ⟨w.heap.size, C * 4 + 3, none⟩ = some (.map (some bt)) ∧ W.cell? ⟨wq.heap.size, 2, none⟩ = some (.string ay) ∧ W.cell? ⟨wq.heap.size, 3, none⟩ = some (.string av)) (by kernel_rfl) ?_ (fun hHeld => ?_)
                  · exact ⟨l3, r2, r3⟩
                  (refine wpAnyH_take (i := 0) (oi := ?_) (v := ?_) ?_ (by kernel_rfl) ?_ ?_ ?_ ?_ (by assumption) ?_; rotate_left 2; (simp only [List.getElem?_toArray, List.getElem?_cons_zero]; rfl); kernel_rfl; kernel_rfl; exact fun _ _ _ h => h; (refine Or.inl ⟨by rfl, ?_⟩; intro w hSw; (try dsimp only at hSw); go_simp; (first | done | with_reducible rfl)); (try simp only [Act.put, List.setIfInBounds_toArray, List.set_cons_zero, List.set_cons_succ]))
                  (first | (refine wpAnyH_take (i := 1) (oi := ?_) (v := ?_) ?_ (by kernel_rfl) ?_ ?_ ?_ ?_ (by assumption) ?_; rotate_left 2; (simp only [List.getElem?_toArray, List.getElem?_cons_zero, List.getElem?_cons_succ]; rfl); kernel_rfl; kernel_rfl; exact fun _ _ _ h => h; (refine Or.inl ⟨by rfl, ?_⟩; intro w hSw; (try dsimp only at hSw); go_simp; (first | done | with_reducible rfl)); (try simp only [Act.put, List.setIfInBounds_toArray, List.set_cons_zero, List.set_cons_succ])) | (refine wpAnyH_take (i := 1) (oi := ?_) (v := undef) ?_ (by kernel_rfl) ?_ ?_ ?_ ?_ (by assumption) ?_; rotate_left 1; (simp only [List.getElem?_toArray, List.getElem?_cons_zero, List.getElem?_cons_succ]; rfl); kernel_rfl; kernel_rfl; exact fun _ _ _ h => h; exact Or.inr ⟨by rfl, rfl⟩; (try simp only [Act.put, List.setIfInBounds_toArray, List.set_cons_zero, List.set_cons_succ])))
                  (first | (refine wpAnyH_take (i := 2) (oi := ?_) (v := ?_) ?_ (by kernel_rfl) ?_ ?_ ?_ ?_ (by assumption) ?_; rotate_left 2; (simp only [List.getElem?_toArray, List.getElem?_cons_zero, List.getElem?_cons_succ]; rfl); kernel_rfl; kernel_rfl; exact fun _ _ _ h => h; (refine Or.inl ⟨by rfl, ?_⟩; intro w hSw; (try dsimp only at hSw); go_simp; (first | done | with_reducible rfl)); (try simp only [Act.put, List.setIfInBounds_toArray, List.set_cons_zero, List.set_cons_succ])) | (refine wpAnyH_take (i := 2) (oi := ?_) (v := undef) ?_ (by kernel_rfl) ?_ ?_ ?_ ?_ (by assumption) ?_; rotate_left 1; (simp only [List.getElem?_toArray, List.getElem?_cons_zero, List.getElem?_cons_succ]; rfl); kernel_rfl; kernel_rfl; exact fun _ _ _ h => h; exact Or.inr ⟨by rfl, rfl⟩; (try simp only [Act.put, List.setIfInBounds_toArray, List.set_cons_zero, List.set_cons_succ])))
                  (first | (refine wpAnyH_take (i := 3) (oi := ?_) (v := ?_) ?_ (by kernel_rfl) ?_ ?_ ?_ ?_ (by assumption) ?_; rotate_left 2; (simp only [List.getElem?_toArray, List.getElem?_cons_zero, List.getElem?_cons_succ]; rfl); kernel_rfl; kernel_rfl; exact fun _ _ _ h => h; (refine Or.inl ⟨by rfl, ?_⟩; intro w hSw; (try dsimp only at hSw); go_simp; (first | done | with_reducible rfl)); (try simp only [Act.put, List.setIfInBounds_toArray, List.set_cons_zero, List.set_cons_succ])) | (refine wpAnyH_take (i := 3) (oi := ?_) (v := undef) ?_ (by kernel_rfl) ?_ ?_ ?_ ?_ (by assumption) ?_; rotate_left 1; (simp only [List.getElem?_toArray, List.getElem?_cons_zero, List.getElem?_cons_succ]; rfl); kernel_rfl; kernel_rfl; exact fun _ _ _ h => h; exact Or.inr ⟨by rfl, rfl⟩; (try simp only [Act.put, List.setIfInBounds_toArray, List.set_cons_zero, List.set_cons_succ])))
                  (first | (refine wpAnyH_take (i := 4) (oi := ?_) (v := ?_) ?_ (by kernel_rfl) ?_ ?_ ?_ ?_ (by assumption) ?_; rotate_left 2; (simp only [List.getElem?_toArray, List.getElem?_cons_zero, List.getElem?_cons_succ]; rfl); kernel_rfl; kernel_rfl; exact fun _ _ _ h => h; (refine Or.inl ⟨by rfl, ?_⟩; intro w hSw; (try dsimp only at hSw); go_simp; (first | done | with_reducible rfl)); (try simp only [Act.put, List.setIfInBounds_toArray, List.set_cons_zero, List.set_cons_succ])) | (refine wpAnyH_take (i := 4) (oi := ?_) (v := undef) ?_ (by kernel_rfl) ?_ ?_ ?_ ?_ (by assumption) ?_; rotate_left 1; (simp only [List.getElem?_toArray, List.getElem?_cons_zero, List.getElem?_cons_succ]; rfl); kernel_rfl; kernel_rfl; exact fun _ _ _ h => h; exact Or.inr ⟨by rfl, rfl⟩; (try simp only [Act.put, List.setIfInBounds_toArray, List.set_cons_zero, List.set_cons_succ])))
                  (first | (refine wpAnyH_take (i := 5) (oi := ?_) (v := ?_) ?_ (by kernel_rfl) ?_ ?_ ?_ ?_ (by assumption) ?_; rotate_left 2; (simp only [List.getElem?_toArray, List.getElem?_cons_zero, List.getElem?_cons_succ]; rfl); kernel_rfl; kernel_rfl; exact fun _ _ _ h => h; (refine Or.inl ⟨by rfl, ?_⟩; intro w hSw; (try dsimp only at hSw); go_simp; (first | done | with_reducible rfl)); (try simp only [Act.put, List.setIfInBounds_toArray, List.set_cons_zero, List.set_cons_succ])) | (refine wpAnyH_take (i := 5) (oi := ?_) (v := undef) ?_ (by kernel_rfl) ?_ ?_ ?_ ?_ (by assumption) ?_; rotate_left 1; (simp only [List.getElem?_toArray, List.getElem?_cons_zero, List.getElem?_cons_succ]; rfl); kernel_rfl; kernel_rfl; exact fun _ _ _ h => h; exact Or.inr ⟨by rfl, rfl⟩; (try simp only [Act.put, List.setIfInBounds_toArray, List.set_cons_zero, List.set_cons_succ])))
                  (first | (refine wpAnyH_take (i := 6) (oi := ?_) (v := ?_) ?_ (by kernel_rfl) ?_ ?_ ?_ ?_ (by assumption) ?_; rotate_left 2; (simp only [List.getElem?_toArray, List.getElem?_cons_zero, List.getElem?_cons_succ]; rfl); kernel_rfl; kernel_rfl; exact fun _ _ _ h => h; (refine Or.inl ⟨by rfl, ?_⟩; intro w hSw; (try dsimp only at hSw); go_simp; (first | done | with_reducible rfl)); (try simp only [Act.put, List.setIfInBounds_toArray, List.set_cons_zero, List.set_cons_succ])) | (refine wpAnyH_take (i := 6) (oi := ?_) (v := undef) ?_ (by kernel_rfl) ?_ ?_ ?_ ?_ (by assumption) ?_; rotate_left 1; (simp only [List.getElem?_toArray, List.getElem?_cons_zero, List.getElem?_cons_succ]; rfl); kernel_rfl; kernel_rfl; exact fun _ _ _ h => h; exact Or.inr ⟨by rfl, rfl⟩; (try simp only [Act.put, List.setIfInBounds_toArray, List.set_cons_zero, List.set_cons_succ])))
                  (first | (refine wpAnyH_take (i := 7) (oi := ?_) (v := ?_) ?_ (by kernel_rfl) ?_ ?_ ?_ ?_ (by assumption) ?_; rotate_left 2; (simp only [List.getElem?_toArray, List.getElem?_cons_zero, List.getElem?_cons_succ]; rfl); kernel_rfl; kernel_rfl; exact fun _ _ _ h => h; (refine Or.inl ⟨by rfl, ?_⟩; intro w hSw; (try dsimp only at hSw); go_simp; (first | done | with_reducible rfl)); (try simp only [Act.put, List.setIfInBounds_toArray, List.set_cons_zero, List.set_cons_succ])) | (refine wpAnyH_take (i := 7) (oi := ?_) (v := undef) ?_ (by kernel_rfl) ?_ ?_ ?_ ?_ (by assumption) ?_; rotate_left 1; (simp only [List.getElem?_toArray, List.getElem?_cons_zero, List.getElem?_cons_succ]; rfl); kernel_rfl; kernel_rfl; exact fun _ _ _ h => h; exact Or.inr ⟨by rfl, rfl⟩; (try simp only [Act.put, List.setIfInBounds_toArray, List.set_cons_zero, List.set_cons_succ])))
                  (refine wpAnyH_ready (rs := [8]) (by kernel_rfl) (by simp) ?_; refine AllReadyH.cons (o := ?_) ?_ (fun K hK => ?_) AllReadyH.nil; rotate_left 1; (simp only [List.getElem?_toArray, List.getElem?_cons_zero, List.getElem?_cons_succ]; rfl); go_simp)
                  clear hHeld
                  (refine hK.out _ _ ?_ (fun hHeld => ?_); exact ⟨l3', r2', r3'⟩; clear hK K)
                  refine wpAnyH_done (by kernel_rfl) ?_ _
                  clear hHeld
                  go_wp2
                  go_roundw
                  case rel => exact ⟨k + 1, by omega, by go_num, mb, ds, _, owns_store (owns_map (HM.out.own.blk (w' := w8.drew) (fun _ _ _ => rfl)) (HLD.out.yes C bt hC4 hmb).obj HG9.out) _ _, owns_store (owns_map (HO8.out.blk (w' := w8.drew) (fun _ _ _ => rfl)) (HLD.out.yes C bt hC4 hmb).obj HG9.out) _ _, by rw [HDS.out, HG1.out]; dsimp only; rw [if_neg (by omega)], HSN'.out, by rw [HG1.out, show trackOf T ⟨3, ac, ay, av⟩ ⟨0, yi, yv, yp, yt⟩ = { T with ws := putWs T.ws ay av } from rfl]; exact HLD.out.put hC4 HTL.out HT.out hmb HG9.out HO9.out HI8.out HISM.out HINC.out yp, HCDD.out.put HLD.out hC4 hmb HG9.out _ _, ((below_drew HM.out.bel).grown HG9.out (below_drew HM.out.bel).size (fun j hj => by cases hj; exact HLO.out C bt hC4 hmb)).setCell (Nat.le_refl _) _, HLO.out⟩
                  case measure => simp [intOf]; omega
                · have e3 : (ak == 3) = false := by simpa using h3
                  have HZR := Lib.hid (show mb C = none → yp = 0 from fun hn => HZ0.out hn (fun hh => h1 hh.1))
                  by_cases h4 : ak = 4
                  · subst h4
                    by_cases ht0 : yt = 0
                    · subst ht0
                      by_cases hp3 : T.ph = 3
                      ·
                        have HAP3 := Lib.hid HAP.out
                        rw [hp3] at HAP3
                        go_wp2_with (at_builtin; refine (wpList_append_run _ rfl (.tmp 51) (.tmp 53) 38 rfl u7 (.slice (some ⟨wr.heap.size, 0, none⟩) 1 1) rfl rfl (HAP3.out _) ?_); rintro v8 w8 ⟨hown8, hmid⟩; have HO8 := Lib.hid hown8; have HM := Lib.hid hmid; have r0 := hmid.z0; have r1 := hmid.z1; have r2 := hmid.z2; have r3 := hmid.z3; have rp := hmid.p3; have l0 := hmid.live.p C hC4; have l1 := hmid.live.s C hC4; have l2 := hmid.live.c C hC4; have l3 := hmid.live.m C hC4; have lf := hmid.live.f; try rw [hmb] at l3; have q0 := (hmid.bel.cell (p := ⟨g, k * 5, none⟩) hg).trans HY.out.c; have q3 := (hmid.bel.cell (p := ⟨g, k * 5 + 3, none⟩) hg).trans HY.out.p; have q4 := (hmid.bel.cell (p := ⟨g, k * 5 + 4, none⟩) hg).trans HY.out.t; have hgw8 := hmid.live.lt; have hgx : g < w8.heap.size := Nat.lt_of_lt_of_le hg hmid.bel.size; rw [← HT.out] at l0 l1 l2; clear hown8 hmid)
                        have HVL := Lib.hid HM.out.live
                        have HVC := Lib.hid HM.out.cold
                        have HVD := Lib.hid HM.out.own
                        have HVT := Lib.hid HO8.out
                        have HVB := Lib.hid HM.out.bel
                        have HVM := Lib.hid HM.out.map
                        have vc := l2
                        have v0 := l0
                        have v1 := l1
                        have vm := rp
                        have v3 := q3
                        have vf := lf
                        have hVs := hgw8
                        have HTV := Lib.hid HT.out
                        have HTLV := Lib.hid HTL.out
                        obtain ⟨V, hV⟩ : ∃ V, V = w8 := ⟨_, rfl⟩
                        rw [← hV] at HVL HVC HVD HVT HVB HVM vc v0 v1 vm v3 vf hVs hgx ⊢
                        have hq8 : wq.heap.size + 1 < V.heap.size := World.block_lt_of_cell? V _ vm
                        clear hV
                        have hdl : ds.length ≤ 400 := by
                          rw [← List.length_map (f := Prod.fst), HDS.out]
                          exact Nat.le_trans (ghost_few l x k) (by omega)
                        have HAPD := Lib.hid (show ∀ ty : TypeId, ∃ v' w', (Builtin.append_ #[37, 37] ty #[u6, .slice (some ⟨V.heap.size, 0, none⟩) 1 1]).run Tryz.prog (V.drew.alloc (.cells #[.int .i64 T.st, .int .i64 T.cm, .int .i64 k, .map (some (wq.heap.size + 1 + 1))] 51)) = .ok v' w' ∧ dealCells.Owns w' (w.heap.size + 1) 51 v' (ds ++ [(⟨T.st, T.cm, k, T.ws⟩, wq.heap.size + 1 + 1)]) ∧ (V.drew.alloc (.cells #[.int .i64 T.st, .int .i64 T.cm, .int .i64 k, .map (some (wq.heap.size + 1 + 1))] 51)).grownBy w' u6.ownBlock from fun ty => by
                          obtain ⟨i0, hi0, hz0, hz1, hz2⟩ := info_parts deal_info
                          exact app_one (C := dealCells) (ty := ty) (bytes := 32) Tryz.underlying37 hi0 hz0 hz1 hz2 rfl V.drew (w.heap.size + 1) u6 ds (⟨T.st, T.cm, k, T.ws⟩, wq.heap.size + 1 + 1) (HVD.out.blk (w' := V.drew) (fun _ _ _ => rfl)) (by omega) (by omega) (show w.heap.size + 1 ≤ V.heap.size by omega))
                        have HNB := Lib.hid (show ∀ bk, u6.ownBlock = some bk → w.heap.size + 1 ≤ bk ∧ bk < wq.heap.size from fun bk hbk => ⟨(owns_tag HOD.out bk hbk).1, (owns_tag HOD.out bk hbk).2.1⟩)
                        have HFR := Lib.hid HM.out.fresh
                        clear l0 l1 l2 l3 lf r0 r1 r2 r3 rp q0 q3 q4 hgw8
                        refine wp_region_held_drew (S := fun W => W.cell? ⟨w.heap.size, C * 4 + 1, none⟩ = some (.int .i64 T.st) ∧ W.cell? ⟨w.heap.size, C * 4 + 2, none⟩ = some (.int .i64 T.cm) ∧ W.cell? ⟨wq.heap.size + 1, 3, none⟩ = some (.map (some (wq.heap.size + 1 + 1)))) (by kernel_rfl) ?_ (fun hHeld => ?_)
                        · exact ⟨v1, vc, vm⟩
                        (refine wpAnyH_take (i := 0) (oi := ?_) (v := ?_) ?_ (by kernel_rfl) ?_ ?_ ?_ ?_ (by assumption) ?_; rotate_left 2; (simp only [List.getElem?_toArray, List.getElem?_cons_zero]; rfl); kernel_rfl; kernel_rfl; exact fun _ _ _ h => h; (refine Or.inl ⟨by rfl, ?_⟩; intro w hSw; (try dsimp only at hSw); go_simp; (first | done | with_reducible rfl)); (try simp only [Act.put, List.setIfInBounds_toArray, List.set_cons_zero, List.set_cons_succ]))
                        (first | (refine wpAnyH_take (i := 1) (oi := ?_) (v := ?_) ?_ (by kernel_rfl) ?_ ?_ ?_ ?_ (by assumption) ?_; rotate_left 2; (simp only [List.getElem?_toArray, List.getElem?_cons_zero, List.getElem?_cons_succ]; rfl); kernel_rfl; kernel_rfl; exact fun _ _ _ h => h; (refine Or.inl ⟨by rfl, ?_⟩; intro w hSw; (try dsimp only at hSw); go_simp; (first | done | with_reducible rfl)); (try simp only [Act.put, List.setIfInBounds_toArray, List.set_cons_zero, List.set_cons_succ])) | (refine wpAnyH_take (i := 1) (oi := ?_) (v := undef) ?_ (by kernel_rfl) ?_ ?_ ?_ ?_ (by assumption) ?_; rotate_left 1; (simp only [List.getElem?_toArray, List.getElem?_cons_zero, List.getElem?_cons_succ]; rfl); kernel_rfl; kernel_rfl; exact fun _ _ _ h => h; exact Or.inr ⟨by rfl, rfl⟩; (try simp only [Act.put, List.setIfInBounds_toArray, List.set_cons_zero, List.set_cons_succ])))
                        (first | (refine wpAnyH_take (i := 2) (oi := ?_) (v := ?_) ?_ (by kernel_rfl) ?_ ?_ ?_ ?_ (by assumption) ?_; rotate_left 2; (simp only [List.getElem?_toArray, List.getElem?_cons_zero, List.getElem?_cons_succ]; rfl); kernel_rfl; kernel_rfl; exact fun _ _ _ h => h; (refine Or.inl ⟨by rfl, ?_⟩; intro w hSw; (try dsimp only at hSw); go_simp; (first | done | with_reducible rfl)); (try simp only [Act.put, List.setIfInBounds_toArray, List.set_cons_zero, List.set_cons_succ])) | (refine wpAnyH_take (i := 2) (oi := ?_) (v := undef) ?_ (by kernel_rfl) ?_ ?_ ?_ ?_ (by assumption) ?_; rotate_left 1; (simp only [List.getElem?_toArray, List.getElem?_cons_zero, List.getElem?_cons_succ]; rfl); kernel_rfl; kernel_rfl; exact fun _ _ _ h => h; exact Or.inr ⟨by rfl, rfl⟩; (try simp only [Act.put, List.setIfInBounds_toArray, List.set_cons_zero, List.set_cons_succ])))
                        (first | (refine wpAnyH_take (i := 3) (oi := ?_) (v := ?_) ?_ (by kernel_rfl) ?_ ?_ ?_ ?_ (by assumption) ?_; rotate_left 2; (simp only [List.getElem?_toArray, List.getElem?_cons_zero, List.getElem?_cons_succ]; rfl); kernel_rfl; kernel_rfl; exact fun _ _ _ h => h; (refine Or.inl ⟨by rfl, ?_⟩; intro w hSw; (try dsimp only at hSw); go_simp; (first | done | with_reducible rfl)); (try simp only [Act.put, List.setIfInBounds_toArray, List.set_cons_zero, List.set_cons_succ])) | (refine wpAnyH_take (i := 3) (oi := ?_) (v := undef) ?_ (by kernel_rfl) ?_ ?_ ?_ ?_ (by assumption) ?_; rotate_left 1; (simp only [List.getElem?_toArray, List.getElem?_cons_zero, List.getElem?_cons_succ]; rfl); kernel_rfl; kernel_rfl; exact fun _ _ _ h => h; exact Or.inr ⟨by rfl, rfl⟩; (try simp only [Act.put, List.setIfInBounds_toArray, List.set_cons_zero, List.set_cons_succ])))
                        (first | (refine wpAnyH_take (i := 4) (oi := ?_) (v := ?_) ?_ (by kernel_rfl) ?_ ?_ ?_ ?_ (by assumption) ?_; rotate_left 2; (simp only [List.getElem?_toArray, List.getElem?_cons_zero, List.getElem?_cons_succ]; rfl); kernel_rfl; kernel_rfl; exact fun _ _ _ h => h; (refine Or.inl ⟨by rfl, ?_⟩; intro w hSw; (try dsimp only at hSw); go_simp; (first | done | with_reducible rfl)); (try simp only [Act.put, List.setIfInBounds_toArray, List.set_cons_zero, List.set_cons_succ])) | (refine wpAnyH_take (i := 4) (oi := ?_) (v := undef) ?_ (by kernel_rfl) ?_ ?_ ?_ ?_ (by assumption) ?_; rotate_left 1; (simp only [List.getElem?_toArray, List.getElem?_cons_zero, List.getElem?_cons_succ]; rfl); kernel_rfl; kernel_rfl; exact fun _ _ _ h => h; exact Or.inr ⟨by rfl, rfl⟩; (try simp only [Act.put, List.setIfInBounds_toArray, List.set_cons_zero, List.set_cons_succ])))
                        (first | (refine wpAnyH_take (i := 5) (oi := ?_) (v := ?_) ?_ (by kernel_rfl) ?_ ?_ ?_ ?_ (by assumption) ?_; rotate_left 2; (simp only [List.getElem?_toArray, List.getElem?_cons_zero, List.getElem?_cons_succ]; rfl); kernel_rfl; kernel_rfl; exact fun _ _ _ h => h; (refine Or.inl ⟨by rfl, ?_⟩; intro w hSw; (try dsimp only at hSw); go_simp; (first | done | with_reducible rfl)); (try simp only [Act.put, List.setIfInBounds_toArray, List.set_cons_zero, List.set_cons_succ])) | (refine wpAnyH_take (i := 5) (oi := ?_) (v := undef) ?_ (by kernel_rfl) ?_ ?_ ?_ ?_ (by assumption) ?_; rotate_left 1; (simp only [List.getElem?_toArray, List.getElem?_cons_zero, List.getElem?_cons_succ]; rfl); kernel_rfl; kernel_rfl; exact fun _ _ _ h => h; exact Or.inr ⟨by rfl, rfl⟩; (try simp only [Act.put, List.setIfInBounds_toArray, List.set_cons_zero, List.set_cons_succ])))
                        (first | (refine wpAnyH_take (i := 6) (oi := ?_) (v := ?_) ?_ (by kernel_rfl) ?_ ?_ ?_ ?_ (by assumption) ?_; rotate_left 2; (simp only [List.getElem?_toArray, List.getElem?_cons_zero, List.getElem?_cons_succ]; rfl); kernel_rfl; kernel_rfl; exact fun _ _ _ h => h; (refine Or.inl ⟨by rfl, ?_⟩; intro w hSw; (try dsimp only at hSw); go_simp; (first | done | with_reducible rfl)); (try simp only [Act.put, List.setIfInBounds_toArray, List.set_cons_zero, List.set_cons_succ])) | (refine wpAnyH_take (i := 6) (oi := ?_) (v := undef) ?_ (by kernel_rfl) ?_ ?_ ?_ ?_ (by assumption) ?_; rotate_left 1; (simp only [List.getElem?_toArray, List.getElem?_cons_zero, List.getElem?_cons_succ]; rfl); kernel_rfl; kernel_rfl; exact fun _ _ _ h => h; exact Or.inr ⟨by rfl, rfl⟩; (try simp only [Act.put, List.setIfInBounds_toArray, List.set_cons_zero, List.set_cons_succ])))
                        (first | (refine wpAnyH_take (i := 7) (oi := ?_) (v := ?_) ?_ (by kernel_rfl) ?_ ?_ ?_ ?_ (by assumption) ?_; rotate_left 2; (simp only [List.getElem?_toArray, List.getElem?_cons_zero, List.getElem?_cons_succ]; rfl); kernel_rfl; kernel_rfl; exact fun _ _ _ h => h; (refine Or.inl ⟨by rfl, ?_⟩; intro w hSw; (try dsimp only at hSw); go_simp; (first | done | with_reducible rfl)); (try simp only [Act.put, List.setIfInBounds_toArray, List.set_cons_zero, List.set_cons_succ])) | (refine wpAnyH_take (i := 7) (oi := ?_) (v := undef) ?_ (by kernel_rfl) ?_ ?_ ?_ ?_ (by assumption) ?_; rotate_left 1; (simp only [List.getElem?_toArray, List.getElem?_cons_zero, List.getElem?_cons_succ]; rfl); kernel_rfl; kernel_rfl; exact fun _ _ _ h => h; exact Or.inr ⟨by rfl, rfl⟩; (try simp only [Act.put, List.setIfInBounds_toArray, List.set_cons_zero, List.set_cons_succ])))
                        (first | (refine wpAnyH_take (i := 8) (oi := ?_) (v := ?_) ?_ (by kernel_rfl) ?_ ?_ ?_ ?_ (by assumption) ?_; rotate_left 2; (simp only [List.getElem?_toArray, List.getElem?_cons_zero, List.getElem?_cons_succ]; rfl); kernel_rfl; kernel_rfl; exact fun _ _ _ h => h; (refine Or.inl ⟨by rfl, ?_⟩; intro w hSw; (try dsimp only at hSw); go_simp; (first | done | with_reducible rfl)); (try simp only [Act.put, List.setIfInBounds_toArray, List.set_cons_zero, List.set_cons_succ])) | (refine wpAnyH_take (i := 8) (oi := ?_) (v := undef) ?_ (by kernel_rfl) ?_ ?_ ?_ ?_ (by assumption) ?_; rotate_left 1; (simp only [List.getElem?_toArray, List.getElem?_cons_zero, List.getElem?_cons_succ]; rfl); kernel_rfl; kernel_rfl; exact fun _ _ _ h => h; exact Or.inr ⟨by rfl, rfl⟩; (try simp only [Act.put, List.setIfInBounds_toArray, List.set_cons_zero, List.set_cons_succ])))
                        (first | (refine wpAnyH_take (i := 9) (oi := ?_) (v := ?_) ?_ (by kernel_rfl) ?_ ?_ ?_ ?_ (by assumption) ?_; rotate_left 2; (simp only [List.getElem?_toArray, List.getElem?_cons_zero, List.getElem?_cons_succ]; rfl); kernel_rfl; kernel_rfl; exact fun _ _ _ h => h; (refine Or.inl ⟨by rfl, ?_⟩; intro w hSw; (try dsimp only at hSw); go_simp; (first | done | with_reducible rfl)); (try simp only [Act.put, List.setIfInBounds_toArray, List.set_cons_zero, List.set_cons_succ])) | (refine wpAnyH_take (i := 9) (oi := ?_) (v := undef) ?_ (by kernel_rfl) ?_ ?_ ?_ ?_ (by assumption) ?_; rotate_left 1; (simp only [List.getElem?_toArray, List.getElem?_cons_zero, List.getElem?_cons_succ]; rfl); kernel_rfl; kernel_rfl; exact fun _ _ _ h => h; exact Or.inr ⟨by rfl, rfl⟩; (try simp only [Act.put, List.setIfInBounds_toArray, List.set_cons_zero, List.set_cons_succ])))
                        (first | (refine wpAnyH_take (i := 10) (oi := ?_) (v := ?_) ?_ (by kernel_rfl) ?_ ?_ ?_ ?_ (by assumption) ?_; rotate_left 2; (simp only [List.getElem?_toArray, List.getElem?_cons_zero, List.getElem?_cons_succ]; rfl); kernel_rfl; kernel_rfl; exact fun _ _ _ h => h; (refine Or.inl ⟨by rfl, ?_⟩; intro w hSw; (try dsimp only at hSw); go_simp; (first | done | with_reducible rfl)); (try simp only [Act.put, List.setIfInBounds_toArray, List.set_cons_zero, List.set_cons_succ])) | (refine wpAnyH_take (i := 10) (oi := ?_) (v := undef) ?_ (by kernel_rfl) ?_ ?_ ?_ ?_ (by assumption) ?_; rotate_left 1; (simp only [List.getElem?_toArray, List.getElem?_cons_zero, List.getElem?_cons_succ]; rfl); kernel_rfl; kernel_rfl; exact fun _ _ _ h => h; exact Or.inr ⟨by rfl, rfl⟩; (try simp only [Act.put, List.setIfInBounds_toArray, List.set_cons_zero, List.set_cons_succ])))
                        (first | (refine wpAnyH_take (i := 11) (oi := ?_) (v := ?_) ?_ (by kernel_rfl) ?_ ?_ ?_ ?_ (by assumption) ?_; rotate_left 2; (simp only [List.getElem?_toArray, List.getElem?_cons_zero, List.getElem?_cons_succ]; rfl); kernel_rfl; kernel_rfl; exact fun _ _ _ h => h; (refine Or.inl ⟨by rfl, ?_⟩; intro w hSw; (try dsimp only at hSw); go_simp; (first | done | with_reducible rfl)); (try simp only [Act.put, List.setIfInBounds_toArray, List.set_cons_zero, List.set_cons_succ])) | (refine wpAnyH_take (i := 11) (oi := ?_) (v := undef) ?_ (by kernel_rfl) ?_ ?_ ?_ ?_ (by assumption) ?_; rotate_left 1; (simp only [List.getElem?_toArray, List.getElem?_cons_zero, List.getElem?_cons_succ]; rfl); kernel_rfl; kernel_rfl; exact fun _ _ _ h => h; exact Or.inr ⟨by rfl, rfl⟩; (try simp only [Act.put, List.setIfInBounds_toArray, List.set_cons_zero, List.set_cons_succ])))
                        (first | (refine wpAnyH_take (i := 12) (oi := ?_) (v := ?_) ?_ (by kernel_rfl) ?_ ?_ ?_ ?_ (by assumption) ?_; rotate_left 2; (simp only [List.getElem?_toArray, List.getElem?_cons_zero, List.getElem?_cons_succ]; rfl); kernel_rfl; kernel_rfl; exact fun _ _ _ h => h; (refine Or.inl ⟨by rfl, ?_⟩; intro w hSw; (try dsimp only at hSw); go_simp; (first | done | with_reducible rfl)); (try simp only [Act.put, List.setIfInBounds_toArray, List.set_cons_zero, List.set_cons_succ])) | (refine wpAnyH_take (i := 12) (oi := ?_) (v := undef) ?_ (by kernel_rfl) ?_ ?_ ?_ ?_ (by assumption) ?_; rotate_left 1; (simp only [List.getElem?_toArray, List.getElem?_cons_zero, List.getElem?_cons_succ]; rfl); kernel_rfl; kernel_rfl; exact fun _ _ _ h => h; exact Or.inr ⟨by rfl, rfl⟩; (try simp only [Act.put, List.setIfInBounds_toArray, List.set_cons_zero, List.set_cons_succ])))
                        (refine wpAnyH_ready (rs := [13]) (by kernel_rfl) (by simp) ?_; refine AllReadyH.cons (o := ?_) ?_ (fun K hK => ?_) AllReadyH.nil; rotate_left 1; (simp only [List.getElem?_toArray, List.getElem?_cons_zero, List.getElem?_cons_succ]; rfl); go_simp)
                        clear hHeld
                        (refine hK.out _ _ ?_ (fun hHeld => ?_); exact ⟨((below_alloc (Below.refl _ V.drew) _).cell (p := ⟨w.heap.size, C * 4 + 1, none⟩) hVs).trans v1, ((below_alloc (Below.refl _ V.drew) _).cell (p := ⟨w.heap.size, C * 4 + 2, none⟩) hVs).trans vc, ((below_alloc (Below.refl _ V.drew) _).cell (p := ⟨wq.heap.size + 1, 3, none⟩) hq8).trans vm⟩; clear hK K)
                        refine wpAnyH_ready (rs := [14]) (by kernel_rfl) (by simp) ?_
                        refine AllReadyH.cons (o := ?_) ?_ (fun K hK => ?_) AllReadyH.nil
                        rotate_left 1
                        · (simp only [List.getElem?_toArray, List.getElem?_cons_zero, List.getElem?_cons_succ]; rfl)
                        refine step_append_run _ rfl (.tmp 105) (.tmp 118) 37 rfl u6 (.slice (some ⟨V.heap.size, 0, none⟩) 1 1) rfl rfl (HAPD.out _) ?_
                        rintro v10 w10 ⟨hown10, hg10⟩
                        obtain ⟨nq, hnq⟩ := HVM.out
                        obtain ⟨m1, m2, m3, m4, m5⟩ := comm_deal (V := V.drew) (d := ⟨T.st, T.cm, k, T.ws⟩) (HVL.out.still (w' := V.drew) (fun _ _ _ => rfl)) (HVC.out.still (w' := V.drew) (gA := w.heap.size) (fun _ _ _ => rfl)) (HVD.out.blk (w' := V.drew) (fun _ _ _ => rfl)) (HVT.out.blk (w' := V.drew) (fun _ _ _ => rfl)) (below_drew HVB.out) (MapAt.blk (w' := V.drew) hnq rfl) HFR.out hg10
                        have M1 := Lib.hid m1
                        have M2 := Lib.hid m2
                        have M3 := Lib.hid m3
                        have M4 := Lib.hid m4
                        have MO := Lib.hid hown10
                        have s1 := (m5 w.heap.size (C * 4 + 1) hVs (fun e => by have := (HNB.out _ e).1; omega)).trans v1
                        have s2 := (m5 w.heap.size (C * 4 + 2) hVs (fun e => by have := (HNB.out _ e).1; omega)).trans vc
                        have s3 := (m5 (wq.heap.size + 1) 3 hq8 (fun e => by have := (HNB.out _ e).2; omega)).trans vm
                        have s0 := (m5 w.heap.size (C * 4) hVs (fun e => by have := (HNB.out _ e).1; omega)).trans v0
                        have sq := (m5 g (k * 5 + 3) hgx (fun e => by have := (HNB.out _ e).1; omega)).trans v3
                        have sf := m1.f
                        clear m1 m2 m3 m4 m5 hown10 hg10 hnq vc v0 v1 vm v3 vf
                        clear hHeld
                        (refine hK.out _ _ ?_ (fun hHeld => ?_); exact ⟨s1, s2, s3⟩; clear hK K)
                        (first | (refine wpAnyH_take (i := 15) (oi := ?_) (v := ?_) ?_ (by kernel_rfl) ?_ ?_ ?_ ?_ (by assumption) ?_; rotate_left 2; (simp only [List.getElem?_toArray, List.getElem?_cons_zero, List.getElem?_cons_succ]; rfl); kernel_rfl; kernel_rfl; exact fun _ _ _ h => h; (refine Or.inl ⟨by rfl, ?_⟩; intro w hSw; (try dsimp only at hSw); go_simp; (first | done | with_reducible rfl)); (try simp only [Act.put, List.setIfInBounds_toArray, List.set_cons_zero, List.set_cons_succ])) | (refine wpAnyH_take (i := 15) (oi := ?_) (v := undef) ?_ (by kernel_rfl) ?_ ?_ ?_ ?_ (by assumption) ?_; rotate_left 1; (simp only [List.getElem?_toArray, List.getElem?_cons_zero, List.getElem?_cons_succ]; rfl); kernel_rfl; kernel_rfl; exact fun _ _ _ h => h; exact Or.inr ⟨by rfl, rfl⟩; (try simp only [Act.put, List.setIfInBounds_toArray, List.set_cons_zero, List.set_cons_succ])))
                        refine wpAnyH_done (by kernel_rfl) ?_ _
                        clear hHeld
                        go_wp2
                        go_roundw
                        case rel =>
                          have hp := M1.out.phase hC4 HTLV.out HTV.out yp HZR.out
                          exact ⟨k + 1, by omega, by go_num, mb, _, _, owns_store MO.out _ _, owns_store M3.out _ _, by rw [List.map_append, HDS.out, HG1.out]; dsimp only; rw [if_pos (by simp [hp3]), show trackOf T ⟨4, ac, ay, av⟩ ⟨0, yi, yv, yp, 0⟩ = T from rfl]; rfl, HSN'.out, by rw [HG1.out, show trackOf T ⟨4, ac, ay, av⟩ ⟨0, yi, yv, yp, 0⟩ = T from rfl]; exact hp, M2.out.store M1.out _ _, M4.out.setCell (Nat.le_refl _) _, HLO.out⟩
                        case measure => simp [intOf]; omega
                      · have g3 : (T.ph == 3) = false := by simpa using hp3
                        go_wp2_with (at_builtin; refine (wpList_append_run _ rfl (.tmp 51) (.tmp 53) 38 rfl u7 (.slice (some ⟨wr.heap.size, 0, none⟩) 1 1) rfl rfl (HAP.out _) ?_); rintro v8 w8 ⟨hown8, hmid⟩; have HO8 := Lib.hid hown8; have HM := Lib.hid hmid; have r0 := hmid.z0; have r1 := hmid.z1; have r2 := hmid.z2; have r3 := hmid.z3; have rp := hmid.p3; have l0 := hmid.live.p C hC4; have l1 := hmid.live.s C hC4; have l2 := hmid.live.c C hC4; have l3 := hmid.live.m C hC4; have lf := hmid.live.f; try rw [hmb] at l3; have q0 := (hmid.bel.cell (p := ⟨g, k * 5, none⟩) hg).trans HY.out.c; have q3 := (hmid.bel.cell (p := ⟨g, k * 5 + 3, none⟩) hg).trans HY.out.p; have q4 := (hmid.bel.cell (p := ⟨g, k * 5 + 4, none⟩) hg).trans HY.out.t; have hgw8 := hmid.live.lt; have hgx : g < w8.heap.size := Nat.lt_of_lt_of_le hg hmid.bel.size; rw [← HT.out] at l0 l1 l2; clear hown8 hmid)
                        go_roundw
                        case rel => exact ⟨k + 1, by omega, by go_num, mb, ds, _, owns_store HM.out.own _ _, owns_store HO8.out _ _, by rw [HDS.out, HG1.out]; dsimp only; rw [if_neg (fun hh => hp3 hh.2.2)], HSN'.out, by rw [HG1.out]; rw [show trackOf T ⟨4, ac, ay, av⟩ ⟨0, yi, yv, yp, 0⟩ = T from rfl]; exact HM.out.live.phase hC4 HTL.out HT.out yp HZR.out, HM.out.cold.store HM.out.live _ _, HM.out.bel.setCell (Nat.le_refl _) _, HLO.out⟩
                        case measure => simp [intOf]; omega
                    · have gt : (yt != 0) = true := by simpa using ht0
                      by_cases hp3 : T.ph = 3
                      ·
                        have HAP3 := Lib.hid HAP.out
                        rw [hp3] at HAP3
                        go_wp2_with (at_builtin; refine (wpList_append_run _ rfl (.tmp 51) (.tmp 53) 38 rfl u7 (.slice (some ⟨wr.heap.size, 0, none⟩) 1 1) rfl rfl (HAP3.out _) ?_); rintro v8 w8 ⟨hown8, hmid⟩; have HO8 := Lib.hid hown8; have HM := Lib.hid hmid; have r0 := hmid.z0; have r1 := hmid.z1; have r2 := hmid.z2; have r3 := hmid.z3; have rp := hmid.p3; have l0 := hmid.live.p C hC4; have l1 := hmid.live.s C hC4; have l2 := hmid.live.c C hC4; have l3 := hmid.live.m C hC4; have lf := hmid.live.f; try rw [hmb] at l3; have q0 := (hmid.bel.cell (p := ⟨g, k * 5, none⟩) hg).trans HY.out.c; have q3 := (hmid.bel.cell (p := ⟨g, k * 5 + 3, none⟩) hg).trans HY.out.p; have q4 := (hmid.bel.cell (p := ⟨g, k * 5 + 4, none⟩) hg).trans HY.out.t; have hgw8 := hmid.live.lt; have hgx : g < w8.heap.size := Nat.lt_of_lt_of_le hg hmid.bel.size; rw [← HT.out] at l0 l1 l2; clear hown8 hmid)
                        have HVL := Lib.hid (HM.out.live.commit hC4 HTL.out HT.out yt)
                        have HVC := Lib.hid (HM.out.cold.store HM.out.live (C * 4 + 2) (.int .i64 yt))
                        have HVD := Lib.hid (owns_store HM.out.own (C * 4 + 2) (.int .i64 yt))
                        have HVT := Lib.hid (owns_store HO8.out (C * 4 + 2) (.int .i64 yt))
                        have HVB := Lib.hid (HM.out.bel.setCell (p := ⟨w.heap.size, C * 4 + 2, none⟩) (Nat.le_refl _) (.int .i64 yt))
                        have hmap8 := HM.out.map
                        have HVM := Lib.hid (show ∃ n, MapAt (w8.setCell ⟨w.heap.size, C * 4 + 2, none⟩ (.int .i64 yt)) (wq.heap.size + 1 + 1) n T.ws from by
                          obtain ⟨n, hn⟩ := hmap8
                          exact ⟨n, hn.blk (store_heap _ _ _ _ (HM.out.live.ne_map hn))⟩)
                        have nea : ∀ a b : Nat, a ≠ b → (⟨w.heap.size, a, none⟩ : Addr) ≠ ⟨w.heap.size, b, none⟩ := fun a b hab e => hab (by injection e)
                        have neb : ∀ a c b : Nat, b ≠ w.heap.size → (⟨w.heap.size, a, none⟩ : Addr) ≠ ⟨b, c, none⟩ := fun a c b hab e => hab (by injection e with e _; exact e.symm)
                        have vc : (w8.setCell ⟨w.heap.size, C * 4 + 2, none⟩ (.int .i64 yt)).cell? ⟨w.heap.size, C * 4 + 2, none⟩ = some (.int .i64 yt) := World.cell?_setCell_same _ _ _ l2
                        have v0 := (World.cell?_setCell_other w8 ⟨w.heap.size, C * 4 + 2, none⟩ ⟨w.heap.size, C * 4, none⟩ (.int .i64 yt) (nea _ _ (by omega))).trans l0
                        have v1 := (World.cell?_setCell_other w8 ⟨w.heap.size, C * 4 + 2, none⟩ ⟨w.heap.size, C * 4 + 1, none⟩ (.int .i64 yt) (nea _ _ (by omega))).trans l1
                        have vm := (World.cell?_setCell_other w8 ⟨w.heap.size, C * 4 + 2, none⟩ ⟨wq.heap.size + 1, 3, none⟩ (.int .i64 yt) (neb _ _ _ (by omega))).trans rp
                        have v3 := (World.cell?_setCell_other w8 ⟨w.heap.size, C * 4 + 2, none⟩ ⟨g, k * 5 + 3, none⟩ (.int .i64 yt) (neb _ _ _ hgA)).trans q3
                        have vf : ∀ o, (w8.setCell ⟨w.heap.size, C * 4 + 2, none⟩ (.int .i64 yt)).frozen? ⟨w.heap.size, o, none⟩ = false := fun o => by rw [World.frozen?_setCell]; exact lf o
                        have hVs : w.heap.size < (w8.setCell ⟨w.heap.size, C * 4 + 2, none⟩ (.int .i64 yt)).heap.size := by simp only [size_set]; exact hgw8
                        have HTV := Lib.hid (show ({ T with cm := yt } : TrackM) = ((ghostL l x k).ts.set C { T with cm := yt }).getD C default by simp [List.getD, HTL.out, hC4])
                        have HTLV := Lib.hid (show ((ghostL l x k).ts.set C { T with cm := yt }).length = 4 by simpa using HTL.out)
                        have hgx' : g < (w8.setCell ⟨w.heap.size, C * 4 + 2, none⟩ (.int .i64 yt)).heap.size := by simp only [size_set]; exact hgx
                        clear hgx
                        have hgx := hgx'
                        obtain ⟨V, hV⟩ : ∃ V, V = w8.setCell ⟨w.heap.size, C * 4 + 2, none⟩ (.int .i64 yt) := ⟨_, rfl⟩
                        rw [← hV] at HVL HVC HVD HVT HVB HVM vc v0 v1 vm v3 vf hVs hgx ⊢
                        have hq8 : wq.heap.size + 1 < V.heap.size := World.block_lt_of_cell? V _ vm
                        clear hV nea neb hmap8 hgx'
                        have hdl : ds.length ≤ 400 := by
                          rw [← List.length_map (f := Prod.fst), HDS.out]
                          exact Nat.le_trans (ghost_few l x k) (by omega)
                        have HAPD := Lib.hid (show ∀ ty : TypeId, ∃ v' w', (Builtin.append_ #[37, 37] ty #[u6, .slice (some ⟨V.heap.size, 0, none⟩) 1 1]).run Tryz.prog (V.drew.alloc (.cells #[.int .i64 T.st, .int .i64 yt, .int .i64 k, .map (some (wq.heap.size + 1 + 1))] 51)) = .ok v' w' ∧ dealCells.Owns w' (w.heap.size + 1) 51 v' (ds ++ [(⟨T.st, yt, k, T.ws⟩, wq.heap.size + 1 + 1)]) ∧ (V.drew.alloc (.cells #[.int .i64 T.st, .int .i64 yt, .int .i64 k, .map (some (wq.heap.size + 1 + 1))] 51)).grownBy w' u6.ownBlock from fun ty => by
                          obtain ⟨i0, hi0, hz0, hz1, hz2⟩ := info_parts deal_info
                          exact app_one (C := dealCells) (ty := ty) (bytes := 32) Tryz.underlying37 hi0 hz0 hz1 hz2 rfl V.drew (w.heap.size + 1) u6 ds (⟨T.st, yt, k, T.ws⟩, wq.heap.size + 1 + 1) (HVD.out.blk (w' := V.drew) (fun _ _ _ => rfl)) (by omega) (by omega) (show w.heap.size + 1 ≤ V.heap.size by omega))
                        have HNB := Lib.hid (show ∀ bk, u6.ownBlock = some bk → w.heap.size + 1 ≤ bk ∧ bk < wq.heap.size from fun bk hbk => ⟨(owns_tag HOD.out bk hbk).1, (owns_tag HOD.out bk hbk).2.1⟩)
                        have HFR := Lib.hid HM.out.fresh
                        clear l0 l1 l2 l3 lf r0 r1 r2 r3 rp q0 q3 q4 hgw8
                        refine wp_region_held_drew (S := fun W => W.cell? ⟨w.heap.size, C * 4 + 1, none⟩ = some (.int .i64 T.st) ∧ W.cell? ⟨w.heap.size, C * 4 + 2, none⟩ = some (.int .i64 yt) ∧ W.cell? ⟨wq.heap.size + 1, 3, none⟩ = some (.map (some (wq.heap.size + 1 + 1)))) (by kernel_rfl) ?_ (fun hHeld => ?_)
                        · exact ⟨v1, vc, vm⟩
                        (refine wpAnyH_take (i := 0) (oi := ?_) (v := ?_) ?_ (by kernel_rfl) ?_ ?_ ?_ ?_ (by assumption) ?_; rotate_left 2; (simp only [List.getElem?_toArray, List.getElem?_cons_zero]; rfl); kernel_rfl; kernel_rfl; exact fun _ _ _ h => h; (refine Or.inl ⟨by rfl, ?_⟩; intro w hSw; (try dsimp only at hSw); go_simp; (first | done | with_reducible rfl)); (try simp only [Act.put, List.setIfInBounds_toArray, List.set_cons_zero, List.set_cons_succ]))
                        (first | (refine wpAnyH_take (i := 1) (oi := ?_) (v := ?_) ?_ (by kernel_rfl) ?_ ?_ ?_ ?_ (by assumption) ?_; rotate_left 2; (simp only [List.getElem?_toArray, List.getElem?_cons_zero, List.getElem?_cons_succ]; rfl); kernel_rfl; kernel_rfl; exact fun _ _ _ h => h; (refine Or.inl ⟨by rfl, ?_⟩; intro w hSw; (try dsimp only at hSw); go_simp; (first | done | with_reducible rfl)); (try simp only [Act.put, List.setIfInBounds_toArray, List.set_cons_zero, List.set_cons_succ])) | (refine wpAnyH_take (i := 1) (oi := ?_) (v := undef) ?_ (by kernel_rfl) ?_ ?_ ?_ ?_ (by assumption) ?_; rotate_left 1; (simp only [List.getElem?_toArray, List.getElem?_cons_zero, List.getElem?_cons_succ]; rfl); kernel_rfl; kernel_rfl; exact fun _ _ _ h => h; exact Or.inr ⟨by rfl, rfl⟩; (try simp only [Act.put, List.setIfInBounds_toArray, List.set_cons_zero, List.set_cons_succ])))
                        (first | (refine wpAnyH_take (i := 2) (oi := ?_) (v := ?_) ?_ (by kernel_rfl) ?_ ?_ ?_ ?_ (by assumption) ?_; rotate_left 2; (simp only [List.getElem?_toArray, List.getElem?_cons_zero, List.getElem?_cons_succ]; rfl); kernel_rfl; kernel_rfl; exact fun _ _ _ h => h; (refine Or.inl ⟨by rfl, ?_⟩; intro w hSw; (try dsimp only at hSw); go_simp; (first | done | with_reducible rfl)); (try simp only [Act.put, List.setIfInBounds_toArray, List.set_cons_zero, List.set_cons_succ])) | (refine wpAnyH_take (i := 2) (oi := ?_) (v := undef) ?_ (by kernel_rfl) ?_ ?_ ?_ ?_ (by assumption) ?_; rotate_left 1; (simp only [List.getElem?_toArray, List.getElem?_cons_zero, List.getElem?_cons_succ]; rfl); kernel_rfl; kernel_rfl; exact fun _ _ _ h => h; exact Or.inr ⟨by rfl, rfl⟩; (try simp only [Act.put, List.setIfInBounds_toArray, List.set_cons_zero, List.set_cons_succ])))
                        (first | (refine wpAnyH_take (i := 3) (oi := ?_) (v := ?_) ?_ (by kernel_rfl) ?_ ?_ ?_ ?_ (by assumption) ?_; rotate_left 2; (simp only [List.getElem?_toArray, List.getElem?_cons_zero, List.getElem?_cons_succ]; rfl); kernel_rfl; kernel_rfl; exact fun _ _ _ h => h; (refine Or.inl ⟨by rfl, ?_⟩; intro w hSw; (try dsimp only at hSw); go_simp; (first | done | with_reducible rfl)); (try simp only [Act.put, List.setIfInBounds_toArray, List.set_cons_zero, List.set_cons_succ])) | (refine wpAnyH_take (i := 3) (oi := ?_) (v := undef) ?_ (by kernel_rfl) ?_ ?_ ?_ ?_ (by assumption) ?_; rotate_left 1; (simp only [List.getElem?_toArray, List.getElem?_cons_zero, List.getElem?_cons_succ]; rfl); kernel_rfl; kernel_rfl; exact fun _ _ _ h => h; exact Or.inr ⟨by rfl, rfl⟩; (try simp only [Act.put, List.setIfInBounds_toArray, List.set_cons_zero, List.set_cons_succ])))
                        (first | (refine wpAnyH_take (i := 4) (oi := ?_) (v := ?_) ?_ (by kernel_rfl) ?_ ?_ ?_ ?_ (by assumption) ?_; rotate_left 2; (simp only [List.getElem?_toArray, List.getElem?_cons_zero, List.getElem?_cons_succ]; rfl); kernel_rfl; kernel_rfl; exact fun _ _ _ h => h; (refine Or.inl ⟨by rfl, ?_⟩; intro w hSw; (try dsimp only at hSw); go_simp; (first | done | with_reducible rfl)); (try simp only [Act.put, List.setIfInBounds_toArray, List.set_cons_zero, List.set_cons_succ])) | (refine wpAnyH_take (i := 4) (oi := ?_) (v := undef) ?_ (by kernel_rfl) ?_ ?_ ?_ ?_ (by assumption) ?_; rotate_left 1; (simp only [List.getElem?_toArray, List.getElem?_cons_zero, List.getElem?_cons_succ]; rfl); kernel_rfl; kernel_rfl; exact fun _ _ _ h => h; exact Or.inr ⟨by rfl, rfl⟩; (try simp only [Act.put, List.setIfInBounds_toArray, List.set_cons_zero, List.set_cons_succ])))
                        (first | (refine wpAnyH_take (i := 5) (oi := ?_) (v := ?_) ?_ (by kernel_rfl) ?_ ?_ ?_ ?_ (by assumption) ?_; rotate_left 2; (simp only [List.getElem?_toArray, List.getElem?_cons_zero, List.getElem?_cons_succ]; rfl); kernel_rfl; kernel_rfl; exact fun _ _ _ h => h; (refine Or.inl ⟨by rfl, ?_⟩; intro w hSw; (try dsimp only at hSw); go_simp; (first | done | with_reducible rfl)); (try simp only [Act.put, List.setIfInBounds_toArray, List.set_cons_zero, List.set_cons_succ])) | (refine wpAnyH_take (i := 5) (oi := ?_) (v := undef) ?_ (by kernel_rfl) ?_ ?_ ?_ ?_ (by assumption) ?_; rotate_left 1; (simp only [List.getElem?_toArray, List.getElem?_cons_zero, List.getElem?_cons_succ]; rfl); kernel_rfl; kernel_rfl; exact fun _ _ _ h => h; exact Or.inr ⟨by rfl, rfl⟩; (try simp only [Act.put, List.setIfInBounds_toArray, List.set_cons_zero, List.set_cons_succ])))
                        (first | (refine wpAnyH_take (i := 6) (oi := ?_) (v := ?_) ?_ (by kernel_rfl) ?_ ?_ ?_ ?_ (by assumption) ?_; rotate_left 2; (simp only [List.getElem?_toArray, List.getElem?_cons_zero, List.getElem?_cons_succ]; rfl); kernel_rfl; kernel_rfl; exact fun _ _ _ h => h; (refine Or.inl ⟨by rfl, ?_⟩; intro w hSw; (try dsimp only at hSw); go_simp; (first | done | with_reducible rfl)); (try simp only [Act.put, List.setIfInBounds_toArray, List.set_cons_zero, List.set_cons_succ])) | (refine wpAnyH_take (i := 6) (oi := ?_) (v := undef) ?_ (by kernel_rfl) ?_ ?_ ?_ ?_ (by assumption) ?_; rotate_left 1; (simp only [List.getElem?_toArray, List.getElem?_cons_zero, List.getElem?_cons_succ]; rfl); kernel_rfl; kernel_rfl; exact fun _ _ _ h => h; exact Or.inr ⟨by rfl, rfl⟩; (try simp only [Act.put, List.setIfInBounds_toArray, List.set_cons_zero, List.set_cons_succ])))
                        (first | (refine wpAnyH_take (i := 7) (oi := ?_) (v := ?_) ?_ (by kernel_rfl) ?_ ?_ ?_ ?_ (by assumption) ?_; rotate_left 2; (simp only [List.getElem?_toArray, List.getElem?_cons_zero, List.getElem?_cons_succ]; rfl); kernel_rfl; kernel_rfl; exact fun _ _ _ h => h; (refine Or.inl ⟨by rfl, ?_⟩; intro w hSw; (try dsimp only at hSw); go_simp; (first | done | with_reducible rfl)); (try simp only [Act.put, List.setIfInBounds_toArray, List.set_cons_zero, List.set_cons_succ])) | (refine wpAnyH_take (i := 7) (oi := ?_) (v := undef) ?_ (by kernel_rfl) ?_ ?_ ?_ ?_ (by assumption) ?_; rotate_left 1; (simp only [List.getElem?_toArray, List.getElem?_cons_zero, List.getElem?_cons_succ]; rfl); kernel_rfl; kernel_rfl; exact fun _ _ _ h => h; exact Or.inr ⟨by rfl, rfl⟩; (try simp only [Act.put, List.setIfInBounds_toArray, List.set_cons_zero, List.set_cons_succ])))
                        (first | (refine wpAnyH_take (i := 8) (oi := ?_) (v := ?_) ?_ (by kernel_rfl) ?_ ?_ ?_ ?_ (by assumption) ?_; rotate_left 2; (simp only [List.getElem?_toArray, List.getElem?_cons_zero, List.getElem?_cons_succ]; rfl); kernel_rfl; kernel_rfl; exact fun _ _ _ h => h; (refine Or.inl ⟨by rfl, ?_⟩; intro w hSw; (try dsimp only at hSw); go_simp; (first | done | with_reducible rfl)); (try simp only [Act.put, List.setIfInBounds_toArray, List.set_cons_zero, List.set_cons_succ])) | (refine wpAnyH_take (i := 8) (oi := ?_) (v := undef) ?_ (by kernel_rfl) ?_ ?_ ?_ ?_ (by assumption) ?_; rotate_left 1; (simp only [List.getElem?_toArray, List.getElem?_cons_zero, List.getElem?_cons_succ]; rfl); kernel_rfl; kernel_rfl; exact fun _ _ _ h => h; exact Or.inr ⟨by rfl, rfl⟩; (try simp only [Act.put, List.setIfInBounds_toArray, List.set_cons_zero, List.set_cons_succ])))
                        (first | (refine wpAnyH_take (i := 9) (oi := ?_) (v := ?_) ?_ (by kernel_rfl) ?_ ?_ ?_ ?_ (by assumption) ?_; rotate_left 2; (simp only [List.getElem?_toArray, List.getElem?_cons_zero, List.getElem?_cons_succ]; rfl); kernel_rfl; kernel_rfl; exact fun _ _ _ h => h; (refine Or.inl ⟨by rfl, ?_⟩; intro w hSw; (try dsimp only at hSw); go_simp; (first | done | with_reducible rfl)); (try simp only [Act.put, List.setIfInBounds_toArray, List.set_cons_zero, List.set_cons_succ])) | (refine wpAnyH_take (i := 9) (oi := ?_) (v := undef) ?_ (by kernel_rfl) ?_ ?_ ?_ ?_ (by assumption) ?_; rotate_left 1; (simp only [List.getElem?_toArray, List.getElem?_cons_zero, List.getElem?_cons_succ]; rfl); kernel_rfl; kernel_rfl; exact fun _ _ _ h => h; exact Or.inr ⟨by rfl, rfl⟩; (try simp only [Act.put, List.setIfInBounds_toArray, List.set_cons_zero, List.set_cons_succ])))
                        (first | (refine wpAnyH_take (i := 10) (oi := ?_) (v := ?_) ?_ (by kernel_rfl) ?_ ?_ ?_ ?_ (by assumption) ?_; rotate_left 2; (simp only [List.getElem?_toArray, List.getElem?_cons_zero, List.getElem?_cons_succ]; rfl); kernel_rfl; kernel_rfl; exact fun _ _ _ h => h; (refine Or.inl ⟨by rfl, ?_⟩; intro w hSw; (try dsimp only at hSw); go_simp; (first | done | with_reducible rfl)); (try simp only [Act.put, List.setIfInBounds_toArray, List.set_cons_zero, List.set_cons_succ])) | (refine wpAnyH_take (i := 10) (oi := ?_) (v := undef) ?_ (by kernel_rfl) ?_ ?_ ?_ ?_ (by assumption) ?_; rotate_left 1; (simp only [List.getElem?_toArray, List.getElem?_cons_zero, List.getElem?_cons_succ]; rfl); kernel_rfl; kernel_rfl; exact fun _ _ _ h => h; exact Or.inr ⟨by rfl, rfl⟩; (try simp only [Act.put, List.setIfInBounds_toArray, List.set_cons_zero, List.set_cons_succ])))
                        (first | (refine wpAnyH_take (i := 11) (oi := ?_) (v := ?_) ?_ (by kernel_rfl) ?_ ?_ ?_ ?_ (by assumption) ?_; rotate_left 2; (simp only [List.getElem?_toArray, List.getElem?_cons_zero, List.getElem?_cons_succ]; rfl); kernel_rfl; kernel_rfl; exact fun _ _ _ h => h; (refine Or.inl ⟨by rfl, ?_⟩; intro w hSw; (try dsimp only at hSw); go_simp; (first | done | with_reducible rfl)); (try simp only [Act.put, List.setIfInBounds_toArray, List.set_cons_zero, List.set_cons_succ])) | (refine wpAnyH_take (i := 11) (oi := ?_) (v := undef) ?_ (by kernel_rfl) ?_ ?_ ?_ ?_ (by assumption) ?_; rotate_left 1; (simp only [List.getElem?_toArray, List.getElem?_cons_zero, List.getElem?_cons_succ]; rfl); kernel_rfl; kernel_rfl; exact fun _ _ _ h => h; exact Or.inr ⟨by rfl, rfl⟩; (try simp only [Act.put, List.setIfInBounds_toArray, List.set_cons_zero, List.set_cons_succ])))
                        (first | (refine wpAnyH_take (i := 12) (oi := ?_) (v := ?_) ?_ (by kernel_rfl) ?_ ?_ ?_ ?_ (by assumption) ?_; rotate_left 2; (simp only [List.getElem?_toArray, List.getElem?_cons_zero, List.getElem?_cons_succ]; rfl); kernel_rfl; kernel_rfl; exact fun _ _ _ h => h; (refine Or.inl ⟨by rfl, ?_⟩; intro w hSw; (try dsimp only at hSw); go_simp; (first | done | with_reducible rfl)); (try simp only [Act.put, List.setIfInBounds_toArray, List.set_cons_zero, List.set_cons_succ])) | (refine wpAnyH_take (i := 12) (oi := ?_) (v := undef) ?_ (by kernel_rfl) ?_ ?_ ?_ ?_ (by assumption) ?_; rotate_left 1; (simp only [List.getElem?_toArray, List.getElem?_cons_zero, List.getElem?_cons_succ]; rfl); kernel_rfl; kernel_rfl; exact fun _ _ _ h => h; exact Or.inr ⟨by rfl, rfl⟩; (try simp only [Act.put, List.setIfInBounds_toArray, List.set_cons_zero, List.set_cons_succ])))
                        (refine wpAnyH_ready (rs := [13]) (by kernel_rfl) (by simp) ?_; refine AllReadyH.cons (o := ?_) ?_ (fun K hK => ?_) AllReadyH.nil; rotate_left 1; (simp only [List.getElem?_toArray, List.getElem?_cons_zero, List.getElem?_cons_succ]; rfl); go_simp)
                        clear hHeld
                        (refine hK.out _ _ ?_ (fun hHeld => ?_); exact ⟨((below_alloc (Below.refl _ V.drew) _).cell (p := ⟨w.heap.size, C * 4 + 1, none⟩) hVs).trans v1, ((below_alloc (Below.refl _ V.drew) _).cell (p := ⟨w.heap.size, C * 4 + 2, none⟩) hVs).trans vc, ((below_alloc (Below.refl _ V.drew) _).cell (p := ⟨wq.heap.size + 1, 3, none⟩) hq8).trans vm⟩; clear hK K)
                        refine wpAnyH_ready (rs := [14]) (by kernel_rfl) (by simp) ?_
                        refine AllReadyH.cons (o := ?_) ?_ (fun K hK => ?_) AllReadyH.nil
                        rotate_left 1
                        · (simp only [List.getElem?_toArray, List.getElem?_cons_zero, List.getElem?_cons_succ]; rfl)
                        refine step_append_run _ rfl (.tmp 105) (.tmp 118) 37 rfl u6 (.slice (some ⟨V.heap.size, 0, none⟩) 1 1) rfl rfl (HAPD.out _) ?_
                        rintro v10 w10 ⟨hown10, hg10⟩
                        obtain ⟨nq, hnq⟩ := HVM.out
                        obtain ⟨m1, m2, m3, m4, m5⟩ := comm_deal (V := V.drew) (d := ⟨T.st, yt, k, T.ws⟩) (HVL.out.still (w' := V.drew) (fun _ _ _ => rfl)) (HVC.out.still (w' := V.drew) (gA := w.heap.size) (fun _ _ _ => rfl)) (HVD.out.blk (w' := V.drew) (fun _ _ _ => rfl)) (HVT.out.blk (w' := V.drew) (fun _ _ _ => rfl)) (below_drew HVB.out) (MapAt.blk (w' := V.drew) hnq rfl) HFR.out hg10
                        have M1 := Lib.hid m1
                        have M2 := Lib.hid m2
                        have M3 := Lib.hid m3
                        have M4 := Lib.hid m4
                        have MO := Lib.hid hown10
                        have s1 := (m5 w.heap.size (C * 4 + 1) hVs (fun e => by have := (HNB.out _ e).1; omega)).trans v1
                        have s2 := (m5 w.heap.size (C * 4 + 2) hVs (fun e => by have := (HNB.out _ e).1; omega)).trans vc
                        have s3 := (m5 (wq.heap.size + 1) 3 hq8 (fun e => by have := (HNB.out _ e).2; omega)).trans vm
                        have s0 := (m5 w.heap.size (C * 4) hVs (fun e => by have := (HNB.out _ e).1; omega)).trans v0
                        have sq := (m5 g (k * 5 + 3) hgx (fun e => by have := (HNB.out _ e).1; omega)).trans v3
                        have sf := m1.f
                        clear m1 m2 m3 m4 m5 hown10 hg10 hnq vc v0 v1 vm v3 vf
                        clear hHeld
                        (refine hK.out _ _ ?_ (fun hHeld => ?_); exact ⟨s1, s2, s3⟩; clear hK K)
                        (first | (refine wpAnyH_take (i := 15) (oi := ?_) (v := ?_) ?_ (by kernel_rfl) ?_ ?_ ?_ ?_ (by assumption) ?_; rotate_left 2; (simp only [List.getElem?_toArray, List.getElem?_cons_zero, List.getElem?_cons_succ]; rfl); kernel_rfl; kernel_rfl; exact fun _ _ _ h => h; (refine Or.inl ⟨by rfl, ?_⟩; intro w hSw; (try dsimp only at hSw); go_simp; (first | done | with_reducible rfl)); (try simp only [Act.put, List.setIfInBounds_toArray, List.set_cons_zero, List.set_cons_succ])) | (refine wpAnyH_take (i := 15) (oi := ?_) (v := undef) ?_ (by kernel_rfl) ?_ ?_ ?_ ?_ (by assumption) ?_; rotate_left 1; (simp only [List.getElem?_toArray, List.getElem?_cons_zero, List.getElem?_cons_succ]; rfl); kernel_rfl; kernel_rfl; exact fun _ _ _ h => h; exact Or.inr ⟨by rfl, rfl⟩; (try simp only [Act.put, List.setIfInBounds_toArray, List.set_cons_zero, List.set_cons_succ])))
                        refine wpAnyH_done (by kernel_rfl) ?_ _
                        clear hHeld
                        go_wp2
                        go_roundw
                        case rel =>
                          have hp := M1.out.phase hC4 HTLV.out HTV.out yp HZR.out
                          rw [List.set_set] at hp; exact ⟨k + 1, by omega, by go_num, mb, _, _, owns_store MO.out _ _, owns_store M3.out _ _, by rw [List.map_append, HDS.out, HG1.out]; dsimp only; rw [if_pos (by simp [hp3]), show trackOf T ⟨4, ac, ay, av⟩ ⟨0, yi, yv, yp, yt⟩ = { T with cm := yt } by unfold trackOf; simp [ht0]]; rfl, HSN'.out, by rw [HG1.out, show trackOf T ⟨4, ac, ay, av⟩ ⟨0, yi, yv, yp, yt⟩ = { T with cm := yt } by unfold trackOf; simp [ht0]]; exact hp, M2.out.store M1.out _ _, M4.out.setCell (Nat.le_refl _) _, HLO.out⟩
                        case measure => simp [intOf]; omega
                      · have g3 : (T.ph == 3) = false := by simpa using hp3
                        go_wp2_with (at_builtin; refine (wpList_append_run _ rfl (.tmp 51) (.tmp 53) 38 rfl u7 (.slice (some ⟨wr.heap.size, 0, none⟩) 1 1) rfl rfl (HAP.out _) ?_); rintro v8 w8 ⟨hown8, hmid⟩; have HO8 := Lib.hid hown8; have HM := Lib.hid hmid; have r0 := hmid.z0; have r1 := hmid.z1; have r2 := hmid.z2; have r3 := hmid.z3; have rp := hmid.p3; have l0 := hmid.live.p C hC4; have l1 := hmid.live.s C hC4; have l2 := hmid.live.c C hC4; have l3 := hmid.live.m C hC4; have lf := hmid.live.f; try rw [hmb] at l3; have q0 := (hmid.bel.cell (p := ⟨g, k * 5, none⟩) hg).trans HY.out.c; have q3 := (hmid.bel.cell (p := ⟨g, k * 5 + 3, none⟩) hg).trans HY.out.p; have q4 := (hmid.bel.cell (p := ⟨g, k * 5 + 4, none⟩) hg).trans HY.out.t; have hgw8 := hmid.live.lt; have hgx : g < w8.heap.size := Nat.lt_of_lt_of_le hg hmid.bel.size; rw [← HT.out] at l0 l1 l2; clear hown8 hmid)
                        go_roundw
                        case rel => exact ⟨k + 1, by omega, by go_num, mb, ds, _, owns_store (owns_store HM.out.own _ _) _ _, owns_store (owns_store HO8.out _ _) _ _, by rw [HDS.out, HG1.out]; dsimp only; rw [if_neg (fun hh => hp3 hh.2.2)], HSN'.out, by rw [HG1.out, show trackOf T ⟨4, ac, ay, av⟩ ⟨0, yi, yv, yp, yt⟩ = { T with cm := yt } by unfold trackOf; simp [ht0]]; exact HM.out.live.commitPhase hC4 HTL.out HT.out yt yp HZR.out, (HM.out.cold.store HM.out.live _ _).store (HM.out.live.commit hC4 HTL.out HT.out yt) _ _, (HM.out.bel.setCell (Nat.le_refl _) _).setCell (Nat.le_refl _) _, HLO.out⟩
                        case measure => simp [intOf]; omega
                  · have e4 : (ak == 4) = false := by simpa using h4
                    go_wp2_with (at_builtin; refine (wpList_append_run _ rfl (.tmp 51) (.tmp 53) 38 rfl u7 (.slice (some ⟨wr.heap.size, 0, none⟩) 1 1) rfl rfl (HAP.out _) ?_); rintro v8 w8 ⟨hown8, hmid⟩; have HO8 := Lib.hid hown8; have HM := Lib.hid hmid; have r0 := hmid.z0; have r1 := hmid.z1; have r2 := hmid.z2; have r3 := hmid.z3; have rp := hmid.p3; have l0 := hmid.live.p C hC4; have l1 := hmid.live.s C hC4; have l2 := hmid.live.c C hC4; have l3 := hmid.live.m C hC4; have lf := hmid.live.f; try rw [hmb] at l3; have q0 := (hmid.bel.cell (p := ⟨g, k * 5, none⟩) hg).trans HY.out.c; have q3 := (hmid.bel.cell (p := ⟨g, k * 5 + 3, none⟩) hg).trans HY.out.p; have q4 := (hmid.bel.cell (p := ⟨g, k * 5 + 4, none⟩) hg).trans HY.out.t; have hgw8 := hmid.live.lt; have hgx : g < w8.heap.size := Nat.lt_of_lt_of_le hg hmid.bel.size; rw [← HT.out] at l0 l1 l2; clear hown8 hmid)
                    go_roundw
                    case rel => exact ⟨k + 1, by omega, by go_num, mb, ds, _, owns_store HM.out.own _ _, owns_store HO8.out _ _, by rw [HDS.out, HG1.out]; exact (if_neg (fun hh => h4 hh.2.1)).symm, HSN'.out, by rw [HG1.out]; rw [show trackOf T ⟨ak, ac, ay, av⟩ ⟨0, yi, yv, yp, yt⟩ = T by unfold trackOf; rw [if_neg (fun h' => h' rfl), if_neg h1, if_neg h3, if_neg h4]]; exact HM.out.live.phase hC4 HTL.out HT.out yp HZR.out, HM.out.cold.store HM.out.live _ _, HM.out.bel.setCell (Nat.le_refl _) _, HLO.out⟩
                    case measure => simp [intOf]; omega
            · have d0 : (yc == 0) = false := by simpa using hyc
              have HZR := Lib.hid (show mb C = none → yp = 0 from fun hn => HZ0.out hn (fun hh => hyc hh.2))
              go_wp2_with (at_builtin; refine (wpList_append_run _ rfl (.tmp 51) (.tmp 53) 38 rfl u7 (.slice (some ⟨wr.heap.size, 0, none⟩) 1 1) rfl rfl (HAP.out _) ?_); rintro v8 w8 ⟨hown8, hmid⟩; have HO8 := Lib.hid hown8; have HM := Lib.hid hmid; have r0 := hmid.z0; have r1 := hmid.z1; have r2 := hmid.z2; have r3 := hmid.z3; have rp := hmid.p3; have l0 := hmid.live.p C hC4; have l1 := hmid.live.s C hC4; have l2 := hmid.live.c C hC4; have l3 := hmid.live.m C hC4; have lf := hmid.live.f; try rw [hmb] at l3; have q0 := (hmid.bel.cell (p := ⟨g, k * 5, none⟩) hg).trans HY.out.c; have q3 := (hmid.bel.cell (p := ⟨g, k * 5 + 3, none⟩) hg).trans HY.out.p; have q4 := (hmid.bel.cell (p := ⟨g, k * 5 + 4, none⟩) hg).trans HY.out.t; have hgw8 := hmid.live.lt; have hgx : g < w8.heap.size := Nat.lt_of_lt_of_le hg hmid.bel.size; rw [← HT.out] at l0 l1 l2; clear hown8 hmid)
              go_roundw
              case rel => exact ⟨k + 1, by omega, by go_num, mb, ds, _, owns_store HM.out.own _ _, owns_store HO8.out _ _, by rw [HDS.out, HG1.out]; exact (if_neg (fun hh => hyc hh.1)).symm, HSN'.out, by rw [HG1.out]; rw [show trackOf T ⟨ak, ac, ay, av⟩ ⟨yc, yi, yv, yp, yt⟩ = T by unfold trackOf; rw [if_pos hyc]]; exact HM.out.live.phase hC4 HTL.out HT.out yp HZR.out, HM.out.cold.store HM.out.live _ _, HM.out.bel.setCell (Nat.le_refl _) _, HLO.out⟩
              case measure => simp [intOf]; omega
          · intro kx vx w1 cnt1 hwx hwc hlx hat hrg1 hlt hg1 hs1 hen
            have hout1 := hout.kept hg1 (by simp)
            have o3'' : w1.cell? ⟨wq.heap.size + 1, 3, none⟩ = some (.map (some (wq.heap.size + 1 + 1))) := by
              have := World.cell?_of_block (w := wr) (w' := w1) (a := ⟨wq.heap.size + 1, 3, none⟩) (hg1.block (wq.heap.size + 1) (World.block_lt_of_cell? wr _ o3') (by simp))
              exact this.trans o3'
            go_wp2_with (first
              | (at_mapUpdate; refine wpList_mapUpdate_own _ rfl _ _ _ 49 rfl 9 9 law_str Tryz.underlying49 _ (wq.heap.size + 1 + 1) _ _ rfl hout1 (by unfold maxLen; omega) _ _ _ rfl rfl (key_str hwx) _ [] (plainElem_string Tryz.underlying9 hwc) ?_; intro w2 hout2 hg2; go_frame)
              | go_in)
            have hrg2 := hrg1.kept hg2 (fun e => by have := Option.some.inj e; omega) (fun e => by have := Option.some.inj e; omega)
            go_roundw
            case rel =>
              exact ⟨_, cnt1, _, hrg2, by omega, hout2.mono (by omega), agree_step hA hout.isMap (show WideAt.IsKeyLit (sk kx) from trivial) hat,
                (hnx.grown hg1 (by have := hnx.size; omega) (fun j hj => by cases hj; omega)).grown hg2 (by have := hnx.size; omega) (fun j hj => by cases hj; exact Nat.le_refl _)⟩
            case measure => rw [hrg2.left_eq, hrg.left_eq]; exact hlt
    · have hke : k = l.length := by omega
      subst hke
      have HDS := Lib.hid hds
      have HSN := Lib.hid hsn
      clear hds hsn
      obtain ⟨A1, c1, A2, c2, rfl, rfl, hd1, hd2, hcap⟩ := comm_end hod hot hcold HDS.out HSN.out (Nat.le_trans (ghost_few l x l.length) (by omega)) (by rw [seenL, List.length_map, List.length_range]; omega)
      have HD1 := Lib.hid hd1
      have HD2 := Lib.hid hd2
      have HB := Lib.hid hb
      clear hod hot hcold hlive hd1 hd2 hb
      go_wp2
      go_ret2
      exact ⟨A1, c1, A2, c2, by rw [show (seenL l x l.length).length = l.length by rw [seenL, List.length_map, List.length_range]]; first | rfl | simp, HD1.out, HD2.out, HB.out, hcap⟩
end Go.Proofs.YtambkjnhfejfaacGreatDoor
