import Derived.Test.YtfpbkghcjaonlaaJ01
import Derived.Deep.RegionWith
import Derived.Deep.DeepCutAuto
import Derived.Deep.RegionLaw
import Derived.Deep.MidRow
import Derived.Deep.WholeRow
/-
  sixfoldref: decided.
-/
namespace Go.Proofs.Ytfpbkghcjaonlaa
open Go.RowKit

def MsgOk (m : Msg) : Prop := m.cuts.length ≤ 1000 ∧ m.marks.length ≤ 4000000000

def bestStep (b : List (Int × Int)) (m : Msg) : List (Int × Int) := if topOf b ≤ topOf m.cuts then m.cuts else b
def bestUp (f : List Msg) (j : Nat) : List (Int × Int) := (f.take j).foldl bestStep []
theorem bestUp_succ (f : List Msg) (j : Nat) (h : j < f.length) : bestUp f (j + 1) = bestStep (bestUp f j) f[j] := by
  unfold bestUp; rw [List.take_succ_eq_append_getElem h, List.foldl_append]; rfl
theorem bestUp_len (f : List Msg) (hf : ∀ m ∈ f, MsgOk m) (j : Nat) : (bestUp f j).length ≤ 1000 := by
  induction j with
  | zero => simp [bestUp]
  | succ j ih =>
    by_cases h : j < f.length
    · rw [bestUp_succ f j h]; unfold bestStep; split
      · exact (hf _ (List.getElem_mem h)).1
      · exact ih
    · unfold bestUp at *; rw [List.take_of_length_le (by omega)] at *; exact ih

def okUp (l : List (Int × Int)) (marks : List Int) (n : Nat) : Bool := (List.range n).all fun (i : Nat) => good l ((i : Int) + 1) (marks.getD i 0)
theorem okUp_succ (l : List (Int × Int)) (marks : List Int) (n : Nat) : okUp l marks (n + 1) = (okUp l marks n && good l ((n : Int) + 1) (marks.getD n 0)) := by
  unfold okUp; rw [List.range_succ, List.all_append]; simp
def baseUp (l : List (Int × Int)) (marks : List Int) (b0 : Nat) : Nat → Nat
  | 0 => b0
  | n + 1 => if okUp l marks (n + 1) && decide (baseUp l marks b0 n < n + 1) then n + 1 else baseUp l marks b0 n
theorem baseUp_le (l : List (Int × Int)) (marks : List Int) (b0 n : Nat) : baseUp l marks b0 n ≤ max b0 n := by
  induction n with
  | zero => simp [baseUp]
  | succ n ih => simp only [baseUp]; split <;> omega
def baseAll (l : List (Int × Int)) (f : List Msg) : Nat → Nat
  | 0 => 0
  | j + 1 => match f[j]? with | some m => baseUp l m.marks (baseAll l f j) m.marks.length | none => baseAll l f j
theorem baseAll_succ (l : List (Int × Int)) (f : List Msg) (j : Nat) (h : j < f.length) : baseAll l f (j + 1) = baseUp l f[j].marks (baseAll l f j) f[j].marks.length := by
  simp only [baseAll]; rw [List.getElem?_eq_getElem h]
theorem baseAll_le (l : List (Int × Int)) (f : List Msg) (hf : ∀ m ∈ f, MsgOk m) (j : Nat) : baseAll l f j ≤ 4000000000 := by
  induction j with
  | zero => simp [baseAll]
  | succ j ih =>
    by_cases h : j < f.length
    · rw [baseAll_succ l f j h]
      have h1 := baseUp_le l f[j].marks (baseAll l f j) f[j].marks.length
      have h2 := (hf _ (List.getElem_mem h)).2
      omega
    · simp only [baseAll]; rw [List.getElem?_eq_none (by omega)]; exact ih

def baseOf (f : List Msg) : Nat := baseAll (bestUp f 4) f 4
def decCuts (f : List Msg) (e : Int) : List (Int × Int) := bestUp f 4 ++ [(e, (baseOf f : Int))]

theorem cutRow_take (l : List (Int × Int)) (j : Nat) (h : j < l.length) : (l.take (j + 1)).map cutRow = (l.take j).map cutRow ++ [cutRow l[j]] := by
  rw [List.take_succ_eq_append_getElem h, List.map_append]; rfl

end Go.Proofs.Ytfpbkghcjaonlaa

/-
  sixfoldref: stands, end.
-/
namespace Go.Proofs.Ytfpbkghcjaonlaa
open Go.RowKit

theorem heap_alloc_old' (w : World) (o : Obj) (i : Nat) (h : i < w.heap.size) : (w.alloc o).heap[i]? = w.heap[i]? := Below.heap_alloc w o i h

structure RPen where
  fenced : List Msg
  status : List Msg
  values : List Int
  over : Bool
  a0 : Int
  a1 : Int
  a2 : Int
  a3 : Int

/-- What a writer is at. -/
structure WSt where
  phase : Int
  base : Int
  next : Int
  dur : Int

def WSt.val (s : WSt) : Value := .agg #[.int .i64 s.phase, .int .i64 s.base, .int .i64 s.next, .int .i64 s.dur]

def durUp (st : List Msg) (base : Nat) : Nat → Nat
  | 0 => 0
  | j + 1 => if fourOf st ((base + j : Nat) : Int) then base + j else durUp st base j

def RPen.stands (p : RPen) : WSt :=
  if p.over then ⟨p.a0, p.a1, p.a2, p.a3⟩
  else if p.fenced.length < 4 then ⟨1, 0, 0, 0⟩
  else if fourOf p.status (baseOf p.fenced : Int) then ⟨3, (baseOf p.fenced : Int), (baseOf p.fenced : Int) + (p.values.length : Int), (durUp p.status (baseOf p.fenced) (p.values.length + 1) : Int)⟩
  else ⟨2, (baseOf p.fenced : Int), (baseOf p.fenced : Int) + (p.values.length : Int), 0⟩

structure PenOk (p : RPen) : Prop where
  f : ∀ m ∈ p.fenced, MsgOk m
  fl : p.fenced.length ≤ 4000000000
  sl : p.status.length ≤ 4000000000
  vl : p.values.length ≤ 4000000000

end Go.Proofs.Ytfpbkghcjaonlaa

/-
  sixfoldref: the volume whole; place, Message, Writer.
-/
namespace Go.Proofs.Ytfpbkghcjaonlaa
open Go.RowKit

structure RSeg where
  up : Bool
  epochs : List Int
  lists : List (List (Int × Int))
  entries : List Ent

def RSeg.epoch (s : RSeg) : Int := s.epochs.getLastD 0
def RSeg.cuts (s : RSeg) : List (Int × Int) := s.lists.getLastD []

structure StoreOk (s : RSeg) : Prop where
  e0 : 0 < s.epochs.length
  el : s.epochs.length ≤ 4000000000
  l0 : 0 < s.lists.length
  ll : s.lists.length ≤ 4000000000
  lk : ∀ l ∈ s.lists, l.length ≤ 1000
  nl : s.entries.length ≤ 4000000000

def ptrRow (b : Nat) : List Value := [.pointer (some ⟨b, 0, none⟩)]
def cSegs : Nat := 12
def cPens : Nat := 13
def cS (i : Nat) : Nat := 20 + 4 * i
def cP (i : Nat) : Nat := 50 + 4 * i

structure RVol where
  wi : Int
  fl : Int
  net : List (Msg × Bool)
  segs : List RSeg
  pens : List RPen

structure YOk (r : RVol) : Prop where
  nl : r.net.length ≤ 4000000000
  nk : ∀ p ∈ r.net, MsgOk p.1
  sk : ∀ s ∈ r.segs, StoreOk s
  pk : ∀ p ∈ r.pens, PenOk p

theorem ptrs_cells {k : Nat → Nat} {w : World} {c e : Nat} {v : Value} {l : List Nat} (h : Rows k w c e 1 v (l.map ptrRow)) :
    ∃ a cap, v = .slice a l.length cap ∧ ∀ i, (hi : i < l.length) → ∃ b, a = some ⟨b, 0, none⟩ ∧ w.cell? ⟨b, i, none⟩ = some (.pointer (some ⟨l[i], 0, none⟩)) := by
  obtain ⟨a, cap, rfl, _⟩ := h.form
  refine ⟨a, cap, by simp, fun i hi => ?_⟩
  obtain ⟨b, cap', hv, _, _, _, hc, _⟩ := h.at (by simp; omega)
  simp at hv
  refine ⟨b, hv.1, ?_⟩
  have := hc i 0 (by simpa using hi) (by omega)
  simpa [ptrRow] using this

/-- Where the k-th message in flight stands among all. -/
def placeOf : List (Msg × Bool) → Nat → Option Nat
  | [], _ => none
  | p :: r, x => if p.2 then (placeOf r x).map (· + 1) else match x with | 0 => some 0 | y + 1 => (placeOf r y).map (· + 1)
def placeI (net : List (Msg × Bool)) (x : Int) : Int := if x < 0 then -1 else ((placeOf net x.toNat).map (fun n : Nat => (n : Int))).getD (-1)

theorem placeOf_lt : ∀ (net : List (Msg × Bool)) (x i : Nat), placeOf net x = some i → ∃ h : i < net.length, net[i].2 = false
  | [], _, _, h => by simp [placeOf] at h
  | p :: r, x, i, h => by
    simp only [placeOf] at h
    split at h
    · obtain ⟨j, hj, rfl⟩ := Option.map_eq_some_iff.1 h
      obtain ⟨a, b⟩ := placeOf_lt r x j hj
      exact ⟨by simp; omega, by simpa using b⟩
    · rename_i hp
      cases x with
      | zero => simp at h; subst h; exact ⟨by simp, by simpa using hp⟩
      | succ y =>
        simp at h
        obtain ⟨j, hj, rfl⟩ := h
        obtain ⟨a, b⟩ := placeOf_lt r y j hj
        exact ⟨by simp; omega, by simpa using b⟩

/-- What is left to be looked through at j, with x to go: the answer is the same. -/
theorem placeOf_drop (net : List (Msg × Bool)) (j : Nat) (h : j < net.length) (x : Nat) :
    placeOf (net.drop j) x = if net[j].2 then (placeOf (net.drop (j + 1)) x).map (· + 1) else match x with | 0 => some 0 | y + 1 => (placeOf (net.drop (j + 1)) y).map (· + 1) := by
  rw [List.drop_eq_getElem_cons h]; rfl

/-- The k-th message in flight. -/
def messageAt (net : List (Msg × Bool)) (x : Int) : Option Msg := if x < 0 then none else (placeOf net x.toNat).bind fun i => net[i]?.map (·.1)

/-- What Message answers. -/
def MsgAns (k : Nat → Nat) (w : World) (o : Option Msg) (v : Value) : Prop := match o with
  | none => v = .tuple #[.agg #[.int .i64 0, .int .i64 0, .int .i64 0, .int .i64 0, .int .i64 0, .int .i64 0, .int .i64 0, .slice none 0 0, .slice none 0 0], .int .i64 12]
  | some m => ∃ vc vm, v = .tuple #[.agg #[.int .i64 m.kind, .int .i64 m.frm, .int .i64 m.to_, .int .i64 m.epoch, .int .i64 m.lsn, .int .i64 m.value, .int .i64 m.scl, vc, vm], .int .i64 0] ∧ CutsIm k w vc m.cuts ∧ IntsIm k w vm m.marks

end Go.Proofs.Ytfpbkghcjaonlaa

/-
  sixfoldref: Writer, Segment.
-/
namespace Go.Proofs.Ytfpbkghcjaonlaa
open Go.RowKit

/-- What Writer answers. -/
def writerAt (pens : List RPen) (n : Int) : Option RPen := if n < 1 then none else pens[n.toNat - 1]?
def wAns (o : Option RPen) : Value := match o with
  | none => .tuple #[.agg #[.int .i64 0, .int .i64 0, .int .i64 0, .int .i64 0], .int .i64 3]
  | some p => .tuple #[p.stands.val, .int .i64 0]

/-- What Segment answers. -/
def segAt (segs : List RSeg) (n : Int) : Option RSeg := if n < 0 then none else segs[n.toNat]?

theorem store6 {w : World} {b e : Nat} {c0 c1 c2 c3 c4 c5 : Value} (h : w.heap[b]? = some (.cells #[c0, c1, c2, c3, c4, c5] e (0, 0))) (v0 v1 v2 v3 v4 v5 : Value) :
    ((((((w.setCell ⟨b, 0, none⟩ v0).setCell ⟨b, 1, none⟩ v1).setCell ⟨b, 2, none⟩ v2).setCell ⟨b, 3, none⟩ v3).setCell ⟨b, 4, none⟩ v4).setCell ⟨b, 5, none⟩ v5).heap[b]? = some (.cells #[v0, v1, v2, v3, v4, v5] e (0, 0)) := by
  have h0 := heap_setCell_same w b 0 _ e v0 h
  have h1 := heap_setCell_same _ b 1 _ e v1 h0
  have h2 := heap_setCell_same _ b 2 _ e v2 h1
  have h3 := heap_setCell_same _ b 3 _ e v3 h2
  have h4 := heap_setCell_same _ b 4 _ e v4 h3
  have h5 := heap_setCell_same _ b 5 _ e v5 h4
  rw [h5]; simp

theorem other6 {w : World} {b d : Nat} (hd : d ≠ b) (v0 v1 v2 v3 v4 v5 : Value) :
    ((((((w.setCell ⟨b, 0, none⟩ v0).setCell ⟨b, 1, none⟩ v1).setCell ⟨b, 2, none⟩ v2).setCell ⟨b, 3, none⟩ v3).setCell ⟨b, 4, none⟩ v4).setCell ⟨b, 5, none⟩ v5).heap[d]? = w.heap[d]? := by
  rw [heap_setCell_other _ _ _ _ hd, heap_setCell_other _ _ _ _ hd, heap_setCell_other _ _ _ _ hd, heap_setCell_other _ _ _ _ hd, heap_setCell_other _ _ _ _ hd, heap_setCell_other _ _ _ _ hd]

theorem below6 {B : Nat} {a w : World} (h : Below B a w) {b : Nat} (hb : B ≤ b) (v0 v1 v2 v3 v4 v5 : Value) :
    Below B a ((((((w.setCell ⟨b, 0, none⟩ v0).setCell ⟨b, 1, none⟩ v1).setCell ⟨b, 2, none⟩ v2).setCell ⟨b, 3, none⟩ v3).setCell ⟨b, 4, none⟩ v4).setCell ⟨b, 5, none⟩ v5) := by
  refine Below.setCell (Below.setCell (Below.setCell (Below.setCell (Below.setCell (Below.setCell h ?_ _) ?_ _) ?_ _) ?_ _) ?_ _) ?_ _
  all_goals exact hb

/-- The six cells of a block, and that they may be written. -/
theorem cells6 {w : World} {b e : Nat} {c0 c1 c2 c3 c4 c5 : Value} (h : w.heap[b]? = some (.cells #[c0, c1, c2, c3, c4, c5] e (0, 0))) :
    w.cell? ⟨b, 0, none⟩ = some c0 ∧ w.cell? ⟨b, 1, none⟩ = some c1 ∧ w.cell? ⟨b, 2, none⟩ = some c2 ∧ w.cell? ⟨b, 3, none⟩ = some c3 ∧ w.cell? ⟨b, 4, none⟩ = some c4 ∧ w.cell? ⟨b, 5, none⟩ = some c5 ∧
    w.frozen? ⟨b, 0, none⟩ = false ∧ w.frozen? ⟨b, 1, none⟩ = false ∧ w.frozen? ⟨b, 2, none⟩ = false ∧ w.frozen? ⟨b, 3, none⟩ = false ∧ w.frozen? ⟨b, 4, none⟩ = false ∧ w.frozen? ⟨b, 5, none⟩ = false := by
  refine ⟨?_, ?_, ?_, ?_, ?_, ?_, frozen_of_row _ _ _ _ _ h, frozen_of_row _ _ _ _ _ h, frozen_of_row _ _ _ _ _ h, frozen_of_row _ _ _ _ _ h, frozen_of_row _ _ _ _ _ h, frozen_of_row _ _ _ _ _ h⟩
  all_goals (rw [cell_of_row _ _ _ _ _ _ h]; rfl)

theorem Made.keeps {w w' : World} {B e size : Nat} {v : Value} {rows : List (List Value)} (h : Made w B e size v rows) (hk : ∀ b, B ≤ b → b < w.heap.size → w'.heap[b]? = w.heap[b]?) : Made w' B e size v rows := by
  refine ⟨h.1, h.2.1, ?_⟩
  rcases h.2.2 with hn | ⟨g, cap, cur, hv, hg, hh, r⟩
  · exact .inl hn
  · exact .inr ⟨g, cap, cur, hv, hg, (hk g hg (Array.getElem?_eq_some_iff.1 hh).1).trans hh, r⟩
theorem Made.weaken {w : World} {B B' e size : Nat} {v : Value} {rows : List (List Value)} (h : Made w B e size v rows) (hb : B' ≤ B) : Made w B' e size v rows := by
  refine ⟨h.1, h.2.1, ?_⟩
  rcases h.2.2 with hn | ⟨g, cap, cur, hv, hg, r⟩
  · exact .inl hn
  · exact .inr ⟨g, cap, cur, hv, Nat.le_trans hb hg, r⟩

/-- What Segment answers of a segment. -/
def SegAns (k : Nat → Nat) (w w' : World) (o : Option RSeg) (v : Value) : Prop := match o with
  | none => v = .tuple #[.agg #[.bool false, .int .i64 0, .int .i64 0, .slice none 0 0, .slice none 0 0, .slice none 0 0], .int .i64 11]
  | some s => ∃ vc vk vb, v = .tuple #[.agg #[.bool s.up, .int .i64 s.epoch, .int .i64 (sclOf s.entries), vc, vk, vb], .int .i64 0] ∧ CutsIm k w vc s.cuts ∧
      Made w' w.heap.size 70 3 vk ((recsUp s.entries true 40).map recRow) ∧ Made w' w.heap.size 70 3 vb ((recsUp s.entries false 40).map recRow)

end Go.Proofs.Ytfpbkghcjaonlaa

/-
  sixfoldref: New.
-/
namespace Go.Proofs.Ytfpbkghcjaonlaa
open Go.RowKit

def cRef : Nat → Prop := fun c => 10 ≤ c ∧ c < 100

theorem Rows.lit {k : Nat → Nat} {w : World} {c e size b : Nat} {row : List Value} (h : w.heap[b]? = some (.cells row.toArray e (0, 0))) (hk : k b = c) (hl : row.length = size) : Rows k w c e size (.slice (some ⟨b, 0, none⟩) 1 1) [row] := by
  refine ⟨by simp [hl], ⟨by simp [hl], .inr ⟨b, 1, row.toArray, rfl, Nat.zero_le _, h, by simp, by simp [maxLen], by simp [hl], by simp [← hl]⟩⟩, fun g hg => ?_⟩
  simp [Value.ownBlock] at hg
  subst hg; exact hk

def seg0 : RSeg := ⟨true, [0], [[]], []⟩

/-- Colours for the four blocks of a new store. -/
def colourStore (n j : Nat) (k : Nat → Nat) (g : Nat) : Nat := if g < n then k g else if g = n then cS j + 1 else if g = n + 1 then cS j + 2 else if g = n + 2 then cS j else 0

theorem lists0 (k : Nat → Nat) (w : World) : All2 (fun l r => ∃ x, r = [x] ∧ CutsIm k w x l) seg0.lists [[.slice none 0 0]] := by
  refine ⟨rfl, fun i a b => ?_⟩
  match i, b with
  | 0, _ => exact ⟨_, rfl, Rows.nil _ _ _ _ _⟩

end Go.Proofs.Ytfpbkghcjaonlaa

/-
  sixfoldlaw: cutMark, recordMark, sameCuts, sameRecords, sameInts.
-/
namespace Go.Proofs.Ytfpbkghcjaonlaa
open Go.RowKit

def cutMk (m : Nat) : List Value := [.int .i64 (-1 - (m : Int)), .int .i64 (-1)]
def recMk (m : Nat) : List Value := [.int .i64 (-1 - (m : Int)), .int .i64 (-1), .int .i64 (-1)]
def intMk (m : Nat) : List Value := [.int .i64 (-1 - (m : Int))]

theorem recs_cells {k : Nat → Nat} {w : World} {c : Nat} {v : Value} {l : List Ent} (h : Rows k w c 70 3 v (l.map recRow)) :
    ∃ a cap, v = .slice a l.length cap ∧ ∀ i, (hi : i < l.length) → ∃ b, a = some ⟨b, 0, none⟩ ∧ w.cell? ⟨b, i * 3, none⟩ = some (.int .i64 l[i].lsn) ∧ w.cell? ⟨b, i * 3 + 1, none⟩ = some (.int .i64 l[i].epoch) ∧ w.cell? ⟨b, i * 3 + 2, none⟩ = some (.int .i64 l[i].value) := by
  obtain ⟨a, cap, rfl, _⟩ := h.form
  refine ⟨a, cap, by simp, fun i hi => ?_⟩
  obtain ⟨b, cap', hv, _, _, _, hc, _⟩ := h.at (by simp; omega)
  simp at hv
  have f := fun j hj => hc i j (by simpa using hi) hj
  refine ⟨b, hv.1, ?_, ?_, ?_⟩
  · simpa [recRow] using f 0 (by omega)
  · simpa [recRow] using f 1 (by omega)
  · simpa [recRow] using f 2 (by omega)

/-- A list of the caller's: it reads as the caller has written it. -/
def OutOk (k : Nat → Nat) (w : World) (L : Nat → Prop) (e size : Nat) (mk : Nat → List Value) (r : List Value) : Prop :=
  ∃ v m n c, r = [v, .int .i64 (m : Nat)] ∧ m ≤ 4000000000 ∧ n ≤ 4100000000 ∧ L c ∧ Rows k w c e size v (List.replicate n (mk m))

def OutsOk (k : Nat → Nat) (w : World) (L : Nat → Prop) (c e1 e size : Nat) (mk : Nat → List Value) (v : Value) (n : Nat) : Prop :=
  ∃ rows, Rows k w c e1 2 v rows ∧ rows.length = n ∧ ∀ r ∈ rows, OutOk k w L e size mk r

theorem OutOk.evo {k k' : Nat → Nat} {w w' : World} {L : Nat → Prop} {e size : Nat} {mk : Nat → List Value} {r : List Value} {C : Nat → Prop} (h : OutOk k w L e size mk r) (g : Evo k k' C w w') (hc : ∀ c, L c → ¬ C c) : OutOk k' w' L e size mk r := by
  obtain ⟨v, m, n, c, hr, hm, hn, hL, hR⟩ := h
  exact ⟨v, m, n, c, hr, hm, hn, hL, hR.evo g (hc c hL)⟩
theorem OutsOk.evo {k k' : Nat → Nat} {w w' : World} {L : Nat → Prop} {c e1 e size : Nat} {mk : Nat → List Value} {v : Value} {n : Nat} {C : Nat → Prop} (h : OutsOk k w L c e1 e size mk v n) (g : Evo k k' C w w') (hc : ∀ c, L c → ¬ C c) (h1 : ¬ C c) : OutsOk k' w' L c e1 e size mk v n := by
  obtain ⟨rows, a, b, d⟩ := h
  exact ⟨rows, a.evo g h1, b, fun r hr => (d r hr).evo g hc⟩
theorem OutsOk.more {k : Nat → Nat} {w : World} {L L' : Nat → Prop} {c e1 e size : Nat} {mk : Nat → List Value} {v : Value} {n : Nat} (h : OutsOk k w L c e1 e size mk v n) (hL : ∀ c, L c → L' c) : OutsOk k w L' c e1 e size mk v n := by
  obtain ⟨rows, a, b, d⟩ := h
  refine ⟨rows, a, b, fun r hr => ?_⟩
  obtain ⟨v, m, n, c, hr, hm, hn, h1, hR⟩ := d r hr
  exact ⟨v, m, n, c, hr, hm, hn, hL c h1, hR⟩

/-- The lists as the walk asks for them. -/
theorem outs_cells {k : Nat → Nat} {w : World} {L : Nat → Prop} {c e1 e size : Nat} {mk : Nat → List Value} {v : Value} {n : Nat} (h : OutsOk k w L c e1 e size mk v n) :
    ∃ a cap, v = .slice a n cap ∧ ∀ i, i < n → ∃ b x m len c2, a = some ⟨b, 0, none⟩ ∧ w.cell? ⟨b, i * 2, none⟩ = some x ∧ w.cell? ⟨b, i * 2 + 1, none⟩ = some (.int .i64 (m : Nat)) ∧ m ≤ 4000000000 ∧ len ≤ 4100000000 ∧ Rows k w c2 e size x (List.replicate len (mk m)) := by
  obtain ⟨rows, h1, rfl, h2⟩ := h
  obtain ⟨a, cap, rfl, _⟩ := h1.form
  refine ⟨a, cap, rfl, fun i hi => ?_⟩
  obtain ⟨b, cap', hv, _, _, _, hc, _⟩ := h1.at (by omega)
  simp at hv
  obtain ⟨x, m, len, c2, hr, hm, hn, _, hR⟩ := h2 _ (List.getElem_mem hi)
  have f0 := hc i 0 hi (by omega)
  have f1 := hc i 1 hi (by omega)
  rw [hr] at f0 f1
  exact ⟨b, x, m, len, c2, hv.1, f0, f1, hm, hn, hR⟩

theorem marks_cells {k : Nat → Nat} {w : World} {c e size len : Nat} {x : Value} {r : List Value} (h : Rows k w c e size x (List.replicate len r)) :
    ∃ a cap, x = .slice a len cap ∧ ∀ i, i < len → ∃ b, a = some ⟨b, 0, none⟩ ∧ ∀ j, j < size → w.cell? ⟨b, i * size + j, none⟩ = r[j]? := by
  obtain ⟨a, cap, rfl, _⟩ := h.form
  refine ⟨a, cap, by simp, fun i hi => ?_⟩
  obtain ⟨b, cap', hv, _, _, _, hc, _⟩ := h.at (by simp; omega)
  simp at hv
  refine ⟨b, hv.1, fun j hj => ?_⟩
  have := hc i j (by simpa using hi) hj
  simpa using this
end Go.Proofs.Ytfpbkghcjaonlaa

/-
  sixfoldlaw: looks.
-/
namespace Go.Proofs.Ytfpbkghcjaonlaa
open Go.RowKit

theorem cells2 {w : World} {b e : Nat} {c0 c1 : Value} (h : w.heap[b]? = some (.cells #[c0, c1] e (0, 0))) : w.cell? ⟨b, 0, none⟩ = some c0 ∧ w.cell? ⟨b, 1, none⟩ = some c1 := by
  refine ⟨?_, ?_⟩
  all_goals (rw [cell_of_row _ _ _ _ _ _ h]; rfl)

end Go.Proofs.Ytfpbkghcjaonlaa

/-
  append once more, with what it leaves of other slices of the same array.
-/
namespace Go.Proofs.Ytfpbkghcjaonlaa
open Go.RowKit

/-- append, the slice's array coloured c. -/
theorem run_append_rows2 {P : Program} {k : Nat → Nat} {w : World} {c : Nat} (t ty e : TypeId) (i : TypeInfo) (z : Value) (size bytes : Nat) (ht : P.underlying t = some (.slice e)) (hi : P.info? e = some i) (hz : i.zero = some z)
    (hsize : i.size = size) (hby : i.bytes = bytes) (hzs : z.cells.size = size) (hsz : 0 < size) {v : Value} {rows : List (List Value)} (h : Rows k w c e size v rows)
    (a : Addr) (m cp : Nat) (news : List (List Value)) (hm : news.length = m) (hl : ∀ r ∈ news, r.length = size) (hnews : ∀ j u, news.flatten[j]? = some u → w.cell? (a.add j) = some u) (h1 : ∀ u ∈ news.flatten, u.oneCell' = true)
    (h63 : rows.length + m ≤ maxLen) (hbytes : (rows.length + m) * bytes ≤ 140737488355328) :
    ∃ v' w' k', (Builtin.append_ #[t, t] ty #[v, .slice (some a) m cp]).run P w = .ok v' w' ∧ Rows k' w' c e size v' (rows ++ news) ∧ Evo k k' (fun x => x = c) w w' ∧ (∀ v0 rows0, Rows k w c e size v0 rows0 → rows0.length ≤ rows.length → Rows k' w' c e size v0 rows0) := by
  subst hm
  have hfl : news.flatten.length = news.length * size := flatten_len hl
  have hrl : rows.flatten.length = rows.length * size := flatten_len h.len
  have hla : ∀ r ∈ rows ++ news, r.length = size := fun r hr => by
    rcases List.mem_append.1 hr with hr | hr
    · exact h.len r hr
    · exact hl r hr
  have ho := h.own
  have hgr : ∀ w', w.grownBy w' none → ∀ v0 rows0, Rows k w c e size v0 rows0 → Rows (fun b => if b < w.heap.size then k b else c) w' c e size v0 rows0 := fun w' g v0 rows0 h0 =>
    h0.evo (C := noC) ⟨g.os, g.tape, g.output, g.size, fun b hb => if_pos hb, fun b hb _ => g.block b hb (by simp)⟩ (noC_not _)
  have hev : ∀ w', w.grownBy w' none → Evo k (fun b => if b < w.heap.size then k b else c) (fun x => x = c) w w' := fun w' g =>
    ⟨g.os, g.tape, g.output, g.size, fun b hb => if_pos hb, fun b hb _ => g.block b hb (by simp)⟩
  rcases ho.2 with ⟨rfl, hz0⟩ | ⟨g, cap, cur, rfl, hg0, hg, hc, hcm, hcs, htk⟩
  · obtain ⟨v', w', hrun, r1, r2, _⟩ := run_append_own (P := P) w w.heap.size t ty e i z size bytes ht hi hz hsize hby hzs hsz (.slice none 0 0) 0 [] (World.ownsRow_nil w _ e size) a news.length cp news.flatten hfl hnews h1 (by omega) (by rw [hz0] at hbytes; simpa using hbytes) (Nat.le_refl _)
    have hr0 : rows = [] := List.length_eq_zero_iff.1 hz0
    subst hr0
    exact ⟨v', w', _, hrun, Rows.fresh (n := 0 + news.length) c hla (by simp) (by simpa using r1), hev w' r2, fun v0 rows0 h0 _ => hgr w' r2 v0 rows0 h0⟩
  · by_cases hroom : rows.length + news.length ≤ cap
    · subst hsize
      have hle : (rows.length + news.length) * i.size ≤ cap * i.size := Nat.mul_le_mul_right _ hroom
      rw [Nat.add_mul] at hle
      have hrun := run_append_room (P := P) w t ty e i ht hi g rows.length cap cur hg a news.length cp news.flatten hfl hnews h1 hroom (by rw [hfl, hcs]; omega)
      refine ⟨_, _, k, hrun, ⟨hla, ⟨?_, .inr ⟨g, cap, (cur.toList.take (rows.length * i.size) ++ news.flatten ++ cur.toList.drop (rows.length * i.size + news.flatten.length)).toArray, by simp, hg0, ?_, by simpa using hroom, hcm, ?_, ?_⟩⟩, h.col⟩, ?_, ?_⟩
      · rw [flatten_len hla]
      · simp only [World.setRow]
        rw [Array.getElem?_modify]
        simp [hg]
      · have hmin : min rows.length cap = rows.length := by omega
        simp [hfl, hcs]
        first | omega | (rw [hmin]; omega)
      · rw [List.toList_toArray, htk, List.flatten_append]
        rw [List.take_append_of_le_length (by simp [hrl, hfl, Nat.add_mul])]
        rw [List.take_of_length_le (by simp [hrl, hfl, Nat.add_mul])]
      · refine ⟨rfl, rfl, rfl, by simp, fun _ _ => rfl, fun b hb hcol => ?_⟩
        have hbg : b ≠ g := fun e => hcol (by rw [e]; exact h.col g rfl)
        simp only [World.setRow]
        rw [Array.getElem?_modify, if_neg (fun e => hbg e.symm)]
      · intro v0 rows0 h0 hle0
        refine ⟨h0.len, ⟨h0.own.1, ?_⟩, h0.col⟩
        rcases h0.own.2 with hn | ⟨g0, cap0, cur0, hv0, hg00, hg0', hc0, hcm0, hcs0, htk0⟩
        · exact .inl hn
        · by_cases hgg : g0 = g
          · subst hgg
            rw [hg] at hg0'
            simp only [Option.some.injEq, Obj.cells.injEq, and_true] at hg0'
            subst hg0'
            refine .inr ⟨g0, cap0, (cur.toList.take (rows.length * i.size) ++ news.flatten ++ cur.toList.drop (rows.length * i.size + news.flatten.length)).toArray, hv0, hg00, ?_, hc0, hcm0, ?_, ?_⟩
            · simp only [World.setRow]
              rw [Array.getElem?_modify]
              simp [hg]
            · have hmin : min rows.length cap = rows.length := by omega
              rw [← hcs0]
              simp [hfl, hcs]
              first | omega | (rw [hmin]; omega)
            · rw [List.toList_toArray, List.append_assoc, List.take_append_of_le_length (by
                have : rows0.length * i.size ≤ rows.length * i.size := Nat.mul_le_mul_right _ hle0
                have h9 : cur.toList.length = cap * i.size := by simpa using hcs
                rw [List.length_take, h9, Nat.min_eq_left (Nat.mul_le_mul_right _ hc)]; exact this), List.take_take, Nat.min_eq_left (Nat.mul_le_mul_right _ hle0)]
              exact htk0
          · refine .inr ⟨g0, cap0, cur0, hv0, hg00, ?_, hc0, hcm0, hcs0, htk0⟩
            simp only [World.setRow]
            rw [Array.getElem?_modify, if_neg (fun e => hgg e.symm)]
            exact hg0'
    · obtain ⟨v', w', hrun, r1, r2⟩ := run_append_arg_grows (P := P) w t ty e i z size bytes ht hi hz hsize hby hzs hsz ⟨g, 0, none⟩ rows.length cap rows.flatten hrl (ho.cells rfl) a news.length cp news.flatten hfl hnews (by omega) h63 hbytes
      refine ⟨v', w', _, hrun, Rows.fresh (n := rows.length + news.length) c hla (by simp) (by rw [List.flatten_append]; exact r1), hev w' r2, fun v0 rows0 h0 _ => hgr w' r2 v0 rows0 h0⟩

/-- append onto a coloured slice, outside a region that draws. -/
theorem wpList_append_rows2 {P : Program} {w : World} {ops : Array Oper} {rest : List Oper} {o : Oper} {a : Act} {Q : Exit → Act → World → Prop}
    (k : Nat → Nat) (c : Nat) (s x : Operand) (t e : TypeId) (z : Value) (size bytes : Nat) (v : Value) (rows news : List (List Value)) (n : Nat) (ad : Addr) (m cp : Nat) (hrn : rows.length = n)
    (hg : o.guard = none) (hop : o.op = Op.call { callee := Callee.builtin Builtin.append, args := #[s, x], argTypes := #[t, t] })
    (ht : P.underlying t = some (.slice e)) (hinf : (P.info? e).map (fun i => (i.zero, i.size, i.bytes)) = some (some z, size, bytes)) (hzs : z.cells.size = size) (hsz : 0 < size)
    (hs : a.eval s = v) (hx : a.eval x = .slice (some ad) m cp) (h : Rows k w c e size v rows)
    (hm : news.length = m) (hl : ∀ r ∈ news, r.length = size) (hnews : ∀ j u, news.flatten[j]? = some u → w.cell? (ad.add j) = some u) (h1 : ∀ u ∈ news.flatten, u.oneCell' = true)
    (h63 : n + m ≤ maxLen) (hbytes : (n + m) * bytes ≤ 140737488355328)
    (hK : ∀ ao cap' w' k', Rows k' w' c e size (.slice ao (n + m) cap') (rows ++ news) → Evo k k' (fun x => x = c) w w' → (∀ v0 rows0, Rows k w c e size v0 rows0 → rows0.length ≤ n → Rows k' w' c e size v0 rows0) → wpList P ops Q rest (a.put o.dst (.slice ao (n + m) cap')) w') :
    wpList P ops Q (o :: rest) a w := by
  subst hrn
  refine wpList_plain hg fun K hK' => ?_
  obtain ⟨i, hi, hz0, hz1, hz2⟩ := info_parts hinf
  obtain ⟨v', w', k', hrun, r1, r2, r3⟩ := run_append_rows2 (P := P) t o.type e i z size bytes ht hi hz0 hz1 hz2 hzs hsz h ad m cp news hm hl hnews h1 h63 hbytes
  subst hs
  unfold Oper.wp
  simp [execOp, hop, resolve, invoke, builtin, hx, hrun, Result.andThen]
  obtain ⟨ao, cap', hv, _⟩ := r1.form
  rw [List.length_append, hm] at hv
  subst hv
  exact hK' _ _ (hK ao cap' w' k' r1 r2 r3)

end Go.Proofs.Ytfpbkghcjaonlaa

/-
  sixfoldlaw: ownCuts.
-/
namespace Go.Proofs.Ytfpbkghcjaonlaa
open Go.RowKit

/-- A list of this round: its colour is cl. -/
def NewOut (k : Nat → Nat) (w : World) (cl e size : Nat) (r0 : List Value) (m len : Nat) (r : List Value) : Prop :=
  ∃ v0 n0, r = [v0, .int .i64 (m : Nat)] ∧ n0 ≤ len ∧ Rows k w cl e size v0 (List.replicate n0 r0)

/-- Where own stands: nOut lists are written down. -/
def OwnSt (k : Nat → Nat) (w : World) (L : Nat → Prop) (cl c1 e1 e size : Nat) (mk : Nat → List Value) (m len nOut : Nat) (v vC : Value) : Prop :=
  ∃ rows, Rows k w c1 e1 2 vC rows ∧ rows.length = nOut ∧ (∀ r ∈ rows, OutOk k w L e size mk r ∨ NewOut k w cl e size (mk m) m len r) ∧ Rows k w cl e size v (List.replicate len (mk m))

theorem NewOut.evo {k k' : Nat → Nat} {w w' : World} {cl e size : Nat} {r0 : List Value} {m len : Nat} {r : List Value} {C : Nat → Prop} (h : NewOut k w cl e size r0 m len r) (g : Evo k k' C w w') (hc : ¬ C cl) : NewOut k' w' cl e size r0 m len r := by
  obtain ⟨v0, n0, a, b, d⟩ := h
  exact ⟨v0, n0, a, b, d.evo g hc⟩

theorem OwnSt.evo {k k' : Nat → Nat} {w w' : World} {L : Nat → Prop} {cl c1 e1 e size : Nat} {mk : Nat → List Value} {m len nOut : Nat} {v vC : Value} {C : Nat → Prop} (h : OwnSt k w L cl c1 e1 e size mk m len nOut v vC) (g : Evo k k' C w w') (hc : ¬ C cl) (h1 : ¬ C c1) (hL : ∀ c, L c → ¬ C c) : OwnSt k' w' L cl c1 e1 e size mk m len nOut v vC := by
  obtain ⟨rows, a, b, d, f⟩ := h
  exact ⟨rows, a.evo g h1, b, fun r hr => (d r hr).imp (fun x => x.evo g hL) (fun x => x.evo g hc), f.evo g hc⟩

theorem OwnSt.outs {k : Nat → Nat} {w : World} {L : Nat → Prop} {cl c1 e1 e size : Nat} {mk : Nat → List Value} {m len nOut : Nat} {v vC : Value} (h : OwnSt k w L cl c1 e1 e size mk m len nOut v vC) (hm : m ≤ 4000000000) (hl : len ≤ 4100000000) : OutsOk k w (fun c => L c ∨ c = cl) c1 e1 e size mk vC nOut := by
  obtain ⟨rows, a, b, d, _⟩ := h
  refine ⟨rows, a, b, fun r hr => ?_⟩
  rcases d r hr with x | ⟨v0, n0, x, y, z⟩
  · obtain ⟨v0, m0, n0, c0, h1, h2, h3, h4, h5⟩ := x
    exact ⟨v0, m0, n0, c0, h1, h2, h3, .inl h4, h5⟩
  · exact ⟨v0, m, n0, cl, x, hm, by omega, .inr rfl, z⟩

/-- The list is written down once more. -/
theorem OwnSt.push {k k1 : Nat → Nat} {w W w1 : World} {L : Nat → Prop} {cl c1 e1 e size : Nat} {mk : Nat → List Value} {m len nOut : Nat} {v v1 : Value} {rows : List (List Value)}
    (hr : rows.length = nOut) (hd : ∀ r ∈ rows, OutOk k w L e size mk r ∨ NewOut k w cl e size (mk m) m len r) (hv : Rows k w cl e size v (List.replicate len (mk m)))
    (e0 : Evo k k noC w W) (hR : Rows k1 w1 c1 e1 2 v1 (rows ++ [[v, .int .i64 (m : Nat)]])) (hE : Evo k k1 (fun x => x = c1) W w1) (hc : cl ≠ c1) (hL : ∀ c, L c → c ≠ c1) :
    OwnSt k1 w1 L cl c1 e1 e size mk m len (nOut + 1) v v1 := by
  have hE2 : Evo k k1 (fun x => x = c1) w w1 := (e0.mono (fun _ h => h.elim)).trans hE
  have hv2 := hv.evo hE2 hc
  refine ⟨_, hR, by simp [hr], fun r hr => ?_, hv2⟩
  rcases List.mem_append.1 hr with hr | hr
  · exact (hd r hr).imp (fun x => x.evo hE2 hL) (fun x => x.evo hE2 hc)
  · simp at hr; subst hr
    exact .inr ⟨v, len, rfl, Nat.le_refl _, hv2⟩

/-- A mark more stands behind the list. -/
theorem grow_rows {k k1 : Nat → Nat} {w W w1 : World} {L : Nat → Prop} {cl e size : Nat} {mk : Nat → List Value} {m len : Nat} {rows : List (List Value)}
    (hd : ∀ r ∈ rows, OutOk k w L e size mk r ∨ NewOut k w cl e size (mk m) m len r) (e0 : Evo k k noC w W) (hE : Evo k k1 (fun x => x = cl) W w1)
    (hkeep : ∀ v0 rows0, Rows k W cl e size v0 rows0 → rows0.length ≤ len → Rows k1 w1 cl e size v0 rows0) (hL : ∀ c, L c → c ≠ cl) :
    ∀ r ∈ rows, OutOk k1 w1 L e size mk r ∨ NewOut k1 w1 cl e size (mk m) m (len + 1) r := by
  have hE2 : Evo k k1 (fun x => x = cl) w w1 := (e0.mono (fun _ h => h.elim)).trans hE
  intro r hr
  rcases hd r hr with x | ⟨v0, n0, x, y, z⟩
  · exact .inl (x.evo hE2 hL)
  · exact .inr ⟨v0, n0, x, by omega, hkeep v0 _ (z.evo e0 (noC_not _)) (by simpa using y)⟩

theorem two_of {r : List Value} (h : r.length = 2) : ∃ a b, r = [a, b] := by
  match r, h with
  | [a, b], _ => exact ⟨a, b, rfl⟩
theorem three_of {r : List Value} (h : r.length = 3) : ∃ a b c, r = [a, b, c] := by
  match r, h with
  | [a, b, c], _ => exact ⟨a, b, c, rfl⟩
theorem one_of {r : List Value} (h : r.length = 1) : ∃ a, r = [a] := by
  match r, h with
  | [a], _ => exact ⟨a, rfl⟩
theorem fill_set (rows : List (List Value)) (r : List Value) (j : Nat) (h : j < rows.length) : (List.replicate j r ++ rows.drop j).set j r = List.replicate (j + 1) r ++ rows.drop (j + 1) := by
  rw [List.set_append_right _ _ (by simp), List.length_replicate, Nat.sub_self, List.drop_eq_getElem_cons h, List.set_cons_zero, List.replicate_succ', List.append_assoc]
  rfl

end Go.Proofs.Ytfpbkghcjaonlaa

/-
  sixfoldlaw: ownRecords.
-/
namespace Go.Proofs.Ytfpbkghcjaonlaa
open Go.RowKit

end Go.Proofs.Ytfpbkghcjaonlaa

/-
  sixfoldlaw: ownInts.
-/
namespace Go.Proofs.Ytfpbkghcjaonlaa
open Go.RowKit

end Go.Proofs.Ytfpbkghcjaonlaa

/-
  The program: great rows; segment.New, network.New.
-/
namespace Go.Proofs.Ytfpbkghcjaonlaa
open Go.RowKit

theorem wpList_store_new {P : Program} {w : World} {ops : Array Oper} {rest : List Oper} {op : Oper} {a : Act} {Q : Exit → Act → World → Prop} (hgd : op.guard = none) (ty : TypeId) (x y : Operand) (ho : op.op = .store ty x y)
    (c c' : Array Value) (hx : a.eval x = .pointer (some ⟨w.heap.size, 0, none⟩)) (hy : a.eval y = .agg c') (hi : (P.info? ty).map (·.size) = some c'.size) (hs : c.size = c'.size) (h1 : c'.all (·.oneCell') = true)
    (h : wpList P ops Q rest (a.put op.dst undef) (w.alloc (.cells c' ty))) : wpList P ops Q (op :: rest) a (w.alloc (.cells c ty)) := by
  refine wpList_plain hgd fun K hK => ?_
  unfold Oper.wp execOp
  simp only [ho, hx, hy, Instr.storeAt, Instr.sureAddr, Sem.run_bind, Sem.run_pure, Result.andThen_ok, run_storeVar_new w ty c c' hi hs h1]
  exact hK _ _ h

theorem Blk.setCells {k : Nat → Nat} {c b e : Nat} : ∀ (vs : List Value) {w : World} {cs : List Value} (o : Nat), Blk k w c b e cs → o + vs.length ≤ cs.length → Blk k (w.setCells b o vs) c b e (cs.take o ++ vs ++ cs.drop (o + vs.length))
  | [], w, cs, o, h, _ => by simpa [World.setCells] using h
  | v :: r, w, cs, o, h, hl => by
    simp only [List.length_cons] at hl
    have h1 := Blk.setCells r (w := w.setCell ⟨b, o, none⟩ v) (cs := cs.set o v) (o + 1) (h.set o v) (by simp; omega)
    have e1 : (cs.set o v).take (o + 1) ++ r ++ (cs.set o v).drop (o + 1 + r.length) = cs.take o ++ (v :: r) ++ cs.drop (o + (v :: r).length) := by
      rw [List.take_set, List.drop_set_of_lt (by omega)]
      have h2 : cs.take (o + 1) = cs.take o ++ [cs[o]'(by omega)] := List.take_succ_eq_append_getElem (by omega)
      rw [h2, List.set_append_right _ _ (by simp; omega)]
      simp [show o - min o cs.length = 0 from by omega, Nat.add_assoc, Nat.add_comm 1 r.length]
    rw [e1] at h1
    exact h1

theorem Evo.setCells {k1 k2 : Nat → Nat} {C : Nat → Prop} {a : World} {b : Nat} (hb : C (k2 b)) : ∀ (vs : List Value) {w : World} (o : Nat), Evo k1 k2 C a w → Evo k1 k2 C a (w.setCells b o vs)
  | [], _, _, h => h
  | _ :: r, _, o, h => Evo.setCells hb r (o + 1) (h.setCell _ _ (fun _ => hb))

theorem Blk.there {k : Nat → Nat} {w : World} {c b e : Nat} {cs : List Value} (h : Blk k w c b e cs) (o n : Nat) (hl : o + n ≤ cs.length) : w.there b o n := fun j hj => by
  refine ⟨?_, h.free _⟩
  rw [h.cell, List.getElem?_eq_getElem (by omega)]; rfl
theorem Blk.rangeAt {k : Nat → Nat} {w : World} {c b e : Nat} {cs : List Value} (h : Blk k w c b e cs) (o : Nat) (r : List Value) (hr : ∀ j v, r[j]? = some v → cs[o + j]? = some v) : w.rangeAt b o r := fun j v hv => by
  rw [h.cell]; exact hr j v hv

set_option maxHeartbeats 1000000 in
theorem netNew_any (w : World) (n : Int) :
    Calls Try.prog 50 #[.int .i64 n] w fun e w' => e = .returned (.agg #[.int .i64 n, .slice none 0 0]) ∧ Below w.heap.size w w' := by
  go_enter Try.func50, Try.ntmps50
  go_wp2
  exact bodyPost_ret (v := .agg #[.int .i64 n, .slice none 0 0]) (by simp [results, Try.results50, go_sem]) rfl ⟨rfl, (Below.refl _ _).alloc (Nat.le_refl _) _⟩

theorem Try.infoSegSize : (Try.prog.info? 83).map (·.size) = some 123 := by kernel_rfl
theorem segZero_size : Try.zeroCells83.size = 123 := by kernel_rfl
theorem segZero_one : (Try.zeroCells83.setIfInBounds 0 (.bool true)).all (·.oneCell') = true := by kernel_rfl
/-- The cells of a new segment. -/
def segNewRow : List Value := .bool true :: .int .i64 0 :: .slice none 0 0 :: List.replicate 120 (.int .i64 0)
theorem segZero_row : (Try.zeroCells83.setIfInBounds 0 (.bool true)) = segNewRow.toArray := by kernel_rfl

set_option maxRecDepth 100000 in
set_option maxHeartbeats 4000000 in
theorem segNew_any (w : World) :
    Calls Try.prog 51 #[] w fun e w' => e = .returned (.agg segNewRow.toArray) ∧ Below w.heap.size w w' := by
  go_enter Try.func51, Try.ntmps51
  go_wp2_with (refine wpList_store_new rfl 83 (.tmp 0) (.tmp 1) rfl _ (Try.zeroCells83.setIfInBounds 0 (.bool true)) rfl rfl (by rw [Array.size_setIfInBounds, segZero_size]; exact Try.infoSegSize) (by simp) segZero_one ?_)
  refine bodyPost_ret (v := .agg segNewRow.toArray) ?_ rfl ⟨rfl, (Below.refl _ _).alloc (Nat.le_refl _) _⟩
  rw [segZero_row]
  exact results_cell_row rfl _ _ w.heap.size 83 _ (0, 0) _ rfl (heap_alloc_new w _) Try.underlying83 rfl (by rw [Try.infoSegSize]; rfl)
end Go.Proofs.Ytfpbkghcjaonlaa

/-
  The program: sixfold.New.
-/
namespace Go.Proofs.Ytfpbkghcjaonlaa
open Go.RowKit

/-- The cells of a volume: the network's two, six segments, the writers. -/
def volCells (wi room : Int) (vM : Value) (rows : List (List Value)) (vW : Value) : List Value := [.int .i64 wi, .int .i64 room, vM] ++ (rows.flatten ++ [vW])

theorem volCells_seg {wi room : Int} {vM vW : Value} {rows : List (List Value)} (hl : ∀ r ∈ rows, r.length = 123) (i j : Nat) (hi : i < rows.length) (hj : j < 123) :
    (volCells wi room vM rows vW)[3 + i * 123 + j]? = (rows[i]'hi)[j]? := by
  unfold volCells
  have hf := flatten_len hl
  have hlt : (i + 1) * 123 ≤ rows.length * 123 := Nat.mul_le_mul_right _ hi
  rw [List.getElem?_append_right (by simp; omega)]
  rw [show 3 + i * 123 + j - [Value.int .i64 wi, .int .i64 room, vM].length = i * 123 + j from by simp; omega]
  rw [List.getElem?_append_left (by rw [hf]; omega)]
  exact flatten_get hl i j hi hj

theorem flatten_splice {rows : List (List Value)} {size : Nat} (hl : ∀ r ∈ rows, r.length = size) (i : Nat) (hi : i < rows.length) (r : List Value) :
    rows.flatten.take (i * size) ++ r ++ rows.flatten.drop (i * size + size) = (rows.set i r).flatten := by
  induction rows generalizing i with
  | nil => simp at hi
  | cons a rs ih =>
    have ha := hl a List.mem_cons_self
    cases i with
    | zero => simp [← ha]
    | succ i =>
      have h1 := ih (fun x hx => hl x (List.mem_cons_of_mem _ hx)) i (by simpa using hi)
      simp only [List.flatten_cons, List.set_cons_succ]
      rw [← h1]
      have e1 : (i + 1) * size = a.length + i * size := by rw [ha, Nat.add_mul]; omega
      rw [e1, List.take_length_add_append, show a.length + i * size + size = a.length + (i * size + size) from by omega, List.drop_length_add_append]
      simp

theorem volCells_len {wi room : Int} {vM vW : Value} {rows : List (List Value)} (hl : ∀ r ∈ rows, r.length = 123) (h6 : rows.length = 6) : (volCells wi room vM rows vW).length = 742 := by
  unfold volCells
  have hf := flatten_len hl
  simp only [List.length_append, List.length_cons, List.length_nil]
  omega

theorem volCells_splice {wi room : Int} {vM vW : Value} {rows : List (List Value)} (hl : ∀ r ∈ rows, r.length = 123) (i : Nat) (hi : i < rows.length) (r : List Value) (hr : r.length = 123) :
    (volCells wi room vM rows vW).take (3 + i * 123) ++ r ++ (volCells wi room vM rows vW).drop (3 + i * 123 + r.length) = volCells wi room vM (rows.set i r) vW := by
  unfold volCells
  have hf := flatten_len hl
  have hlt : (i + 1) * 123 ≤ rows.length * 123 := Nat.mul_le_mul_right _ hi
  rw [hr, ← flatten_splice hl i hi r]
  have e2 : ([Value.int .i64 wi, .int .i64 room, vM]).length = 3 := rfl
  rw [show 3 + i * 123 = ([Value.int .i64 wi, .int .i64 room, vM]).length + i * 123 from by rw [e2], List.take_length_add_append]
  rw [show ([Value.int .i64 wi, .int .i64 room, vM]).length + i * 123 + 123 = ([Value.int .i64 wi, .int .i64 room, vM]).length + (i * 123 + 123) from by omega, List.drop_length_add_append]
  rw [List.take_append_of_le_length (by rw [hf]; omega), List.drop_append_of_le_length (by rw [hf]; omega)]
  simp

def segZeroRow : List Value := .bool false :: .int .i64 0 :: .slice none 0 0 :: List.replicate 120 (.int .i64 0)
theorem volZero_row (a : Int) : Try.zeroCells87.setIfInBounds 0 (.int .i64 a) = (volCells a 0 (.slice none 0 0) (List.replicate 6 segZeroRow) (.slice none 0 0)).toArray := by kernel_rfl
theorem segNewRow_len : segNewRow.length = 123 := by simp [segNewRow]
theorem segZeroRow_len : segZeroRow.length = 123 := by simp [segZeroRow]
theorem segNewRow_one : ∀ v ∈ segNewRow, v.oneCell' = true := by
  intro v hv
  simp only [segNewRow, List.mem_cons, List.mem_replicate] at hv
  rcases hv with rfl | rfl | rfl | ⟨_, rfl⟩ <;> rfl

/-- i segments are new, the rest is as it was laid. -/
def newRows (i : Nat) : List (List Value) := List.replicate i segNewRow ++ List.replicate (6 - i) segZeroRow
theorem newRows_len (i : Nat) (h : i ≤ 6) : (newRows i).length = 6 := by simp [newRows]; omega
theorem newRows_all (i : Nat) : ∀ r ∈ newRows i, r.length = 123 := by
  intro r hr
  simp only [newRows, List.mem_append, List.mem_replicate] at hr
  rcases hr with ⟨_, rfl⟩ | ⟨_, rfl⟩
  · exact segNewRow_len
  · exact segZeroRow_len
theorem newRows_set (i : Nat) (h : i < 6) : (newRows i).set i segNewRow = newRows (i + 1) := by
  unfold newRows
  rw [List.set_append_right _ _ (by simp), show 6 - i = (6 - (i + 1)) + 1 from by omega, List.replicate_succ, List.replicate_succ']
  simp

set_option maxHeartbeats 1000000 in
theorem xnew_bad (w : World) (a b : Int) (h : a < 1 ∨ 8 < a ∨ b < 1 ∨ 200 < b) :
    Calls Try.prog 25 #[.agg #[.int .i64 a, .int .i64 b]] w fun e w' => e = .returned (.tuple #[.pointer none, .int .i64 1]) ∧ Below w.heap.size w w' := by
  by_cases h1 : a < 1
  · have d1 : decide (a < 1) = true := by simpa using h1
    go_enter Try.func25, Try.ntmps25
    go_wp2
    go_ret2
    exact ⟨rfl, (Below.refl _ _).alloc (Nat.le_refl _) _⟩
  · have d1 : decide (a < 1) = false := by simpa using h1
    by_cases h2 : 8 < a
    · go_enter Try.func25, Try.ntmps25
      go_wp2
      go_ret2
      exact ⟨rfl, (Below.refl _ _).alloc (Nat.le_refl _) _⟩
    · by_cases h3 : b < 1
      · have d3 : decide (b < 1) = true := by simpa using h3
        go_enter Try.func25, Try.ntmps25
        go_wp2
        go_ret2
        exact ⟨rfl, (Below.refl _ _).alloc (Nat.le_refl _) _⟩
      · have d3 : decide (b < 1) = false := by simpa using h3
        have h4 : 200 < b := by omega
        clear h
        go_enter Try.func25, Try.ntmps25
        go_wp2
        go_ret2
        exact ⟨rfl, (Below.refl _ _).alloc (Nat.le_refl _) _⟩

theorem Below.setCells {B : Nat} {a : World} {b : Nat} (hb : B ≤ b) : ∀ (vs : List Value) {w : World} (o : Nat), Below B a w → Below B a (w.setCells b o vs)
  | [], _, _, h => h
  | _ :: r, _, o, h => Below.setCells hb r (o + 1) (h.setCell hb _)

set_option maxRecDepth 100000 in
set_option maxHeartbeats 4000000 in
theorem xnew_good (w : World) (a b : Int) (h1 : ¬ a < 1) (h2 : ¬ 8 < a) (h3 : ¬ b < 1) (h4 : ¬ 200 < b) :
    Calls Try.prog 25 #[.agg #[.int .i64 a, .int .i64 b]] w fun e w' => ∃ g, e = .returned (.tuple #[.pointer (some ⟨g, 0, none⟩), .int .i64 0]) ∧ w.heap.size ≤ g ∧
      w'.heap[g]? = some (.cells (volCells a b (.slice none 0 0) (newRows 6) (.slice none 0 0)).toArray 87 (0, 0)) ∧ Below w.heap.size w w' := by
  have d1 : decide (a < 1) = false := by simpa using h1
  have d3 : decide (b < 1) = false := by simpa using h3
  go_enter Try.func25, Try.ntmps25
  go_wp2_with fail
  refine (netNew_any _ b).mono ?_
  rintro e1 w1 ⟨rfl, hb1⟩
  have hs1 := hb1.size
  simp only [World.size_alloc] at hs1
  have hB1 : Below w.heap.size w w1 := (((Below.refl w.heap.size w).alloc (Nat.le_refl _) _).alloc (by simp) _).trans (hb1.mono (by simp; omega))
  have hK1 : Blk (fun _ => 0) w1 0 (w.heap.size + 1) 87 (volCells a 0 (.slice none 0 0) (newRows 0) (.slice none 0 0)) := by
    refine ⟨(hb1.block _ (by simp)).trans ?_, rfl⟩
    rw [heap_alloc2_new, volZero_row]
    rfl
  have n0 : w1.cell? ⟨w.heap.size + 1, 1, none⟩ = some (.int .i64 0) := hK1.cell 1
  have n1 : w1.cell? ⟨w.heap.size + 1, 2, none⟩ = some (.slice none 0 0) := hK1.cell 2
  have f0 := hK1.free 1
  have f1 := hK1.free 2
  clear hb1
  go_wp2_with fail
  have hK2 : Hid (Blk (fun _ => 0) ((w1.setCell ⟨w.heap.size + 1, 1, none⟩ (.int .i64 b)).setCell ⟨w.heap.size + 1, 2, none⟩ (.slice none 0 0)) 0 (w.heap.size + 1) 87 (volCells a b (.slice none 0 0) (newRows 0) (.slice none 0 0))) := hide ((hK1.set 1 _).set 2 _)
  have hB2 := (hB1.setCell (p := ⟨w.heap.size + 1, 1, none⟩) (by simp) (.int .i64 b)).setCell (p := ⟨w.heap.size + 1, 2, none⟩) (by simp) (.slice none 0 0)
  clear hK1 n0 n1 f0 f1
  go_loopw [5] (fun i wr => Below w.heap.size w wr ∧ ∃ j : Nat, j ≤ 6 ∧ i = .int .i64 j ∧ Hid (Blk (fun _ => 0) wr 0 (w.heap.size + 1) 87 (volCells a b (.slice none 0 0) (newRows j) (.slice none 0 0)))) (fun i _ => 6 - (intOf i).toNat)
  case atStart => exact ⟨hB2, 0, by omega, rfl, hK2⟩
  case round =>
    obtain ⟨hB, j, hj, rfl, hK⟩ := hrel
    by_cases hlt : j < 6
    · have hsz := hB.size
      have hnr : (newRows j).length = 6 := newRows_len j hj
      have hS : Hid (∀ w2, Below wr.heap.size wr.drew w2 → Blk (fun _ => 0) w2 0 (w.heap.size + 1) 87 (volCells a b (.slice none 0 0) (newRows j) (.slice none 0 0)) ∧
          (storeCells ⟨w.heap.size + 1, 3 + j * 123, none⟩ segNewRow).run Try.prog w2 = .ok () (w2.setCells (w.heap.size + 1) (3 + j * 123) segNewRow)) := hide fun w2 hb => by
        have hk2 : Blk (fun _ => 0) w2 0 (w.heap.size + 1) 87 (volCells a b (.slice none 0 0) (newRows j) (.slice none 0 0)) := ⟨(hb.block _ hK.out.lt).trans hK.out.1, rfl⟩
        have hth := hk2.there (3 + j * 123) 123 (by rw [volCells_len (newRows_all j) hnr]; omega)
        have := run_storeCells_cells (P := Try.prog) (w.heap.size + 1) (3 + j * 123) segNewRow 0 w2 (fun x hx => by rw [segNewRow_len] at hx; simpa using (hth x hx).1) (fun x hx => by rw [segNewRow_len] at hx; simpa using (hth x hx).2) segNewRow_one
        exact ⟨hk2, by simpa using this⟩
      go_wp2_with fail
      go_region_with (go_at_call 51; refine (segNew_any _).mono ?_; rintro e2 w2 ⟨rfl, hb2⟩; have hst := (hS.out w2 hb2).2; have HK2 := hide (hS.out w2 hb2).1)
      go_wp2_with fail
      go_roundw
      case rel =>
        refine ⟨Below.setCells (by omega) _ _ (hB.drew.trans (hb2.mono hsz)), j + 1, by omega, by go_num, hide ?_⟩
        have h9 := Blk.setCells segNewRow (3 + j * 123) HK2.out (by rw [volCells_len (newRows_all j) hnr, segNewRow_len]; omega)
        rw [volCells_splice (newRows_all j) j (by omega) segNewRow segNewRow_len, newRows_set j hlt] at h9
        exact h9
      case measure => simp [intOf]; omega
    · have h6 : j = 6 := by omega
      rw [h6] at hK
      clear h6
      go_wp2
      go_ret2
      exact ⟨w.heap.size + 1, rfl, by omega, hK.out.1, hB⟩
end Go.Proofs.Ytfpbkghcjaonlaa
