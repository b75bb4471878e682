import Derived.Test.YtfpbkghcjaonlaaGreatJ03
/-
  sixfoldref: stands, end.
-/
namespace Go.Proofs.YtfpbkghcjaonlaaGreat
open Go.RowKit

theorem heap_alloc_old' (w : World) (o : Obj) (i : Nat) (h : i < w.heap.size) : (w.alloc o).heap[i]? = w.heap[i]? := Below.heap_alloc w o i h

structure RPen where
  fenced : List Msg
  status : List Msg
  values : List Int
  over : Bool
  a0 : Int
  a1 : Int
  a2 : Int
  a3 : Int

/-- What a writer is at. -/
structure WSt where
  phase : Int
  base : Int
  next : Int
  dur : Int

def WSt.val (s : WSt) : Value := .agg #[.int .i64 s.phase, .int .i64 s.base, .int .i64 s.next, .int .i64 s.dur]

def durUp (st : List Msg) (base : Nat) : Nat → Nat
  | 0 => 0
  | j + 1 => if fourOf st ((base + j : Nat) : Int) then base + j else durUp st base j

def RPen.stands (p : RPen) : WSt :=
  if p.over then ⟨p.a0, p.a1, p.a2, p.a3⟩
  else if p.fenced.length < 4 then ⟨1, 0, 0, 0⟩
  else if fourOf p.status (baseOf p.fenced : Int) then ⟨3, (baseOf p.fenced : Int), (baseOf p.fenced : Int) + (p.values.length : Int), (durUp p.status (baseOf p.fenced) (p.values.length + 1) : Int)⟩
  else ⟨2, (baseOf p.fenced : Int), (baseOf p.fenced : Int) + (p.values.length : Int), 0⟩

/-- A pen in memory; colours cp (its block), cp + 1, cp + 2, cp + 3. -/
structure PenIs (k : Nat → Nat) (w : World) (cp b : Nat) (p : RPen) : Prop where
  ex : ∃ vF vS vV, Blk k w cp b 126 [vF, vS, vV, .bool p.over, .int .i64 p.a0, .int .i64 p.a1, .int .i64 p.a2, .int .i64 p.a3] ∧
    MsgsIs k w (cp + 1) vF p.fenced ∧ MsgsIs k w (cp + 2) vS p.status ∧ Rows k w (cp + 3) 3 1 vV (p.values.map intRow)

theorem PenIs.evo {k k' : Nat → Nat} {w w' : World} {cp b : Nat} {p : RPen} {C : Nat → Prop} (h : PenIs k w cp b p) (g : Evo k k' C w w') (hi : ¬ C IM) (h0 : ¬ C cp) (h1 : ¬ C (cp + 1)) (h2 : ¬ C (cp + 2)) (h3 : ¬ C (cp + 3)) : PenIs k' w' cp b p := by
  obtain ⟨vF, vS, vV, a, b, c, d⟩ := h.ex
  exact ⟨vF, vS, vV, a.evo g h0, b.evo g h1 hi, c.evo g h2 hi, d.evo g h3⟩

structure PenOk (p : RPen) : Prop where
  f : ∀ m ∈ p.fenced, MsgOk m
  fl : p.fenced.length ≤ 4000000000
  sl : p.status.length ≤ 4000000000
  vl : p.values.length ≤ 4000000000

set_option maxHeartbeats 1000000 in
theorem stands_over (w : World) (b : Nat) (e a0 a1 a2 a3 : Int) (h3 : w.cell? ⟨b, 3, none⟩ = some (.bool true)) (h4 : w.cell? ⟨b, 4, none⟩ = some (.int .i64 a0)) (h5 : w.cell? ⟨b, 5, none⟩ = some (.int .i64 a1)) (h6 : w.cell? ⟨b, 6, none⟩ = some (.int .i64 a2)) (h7 : w.cell? ⟨b, 7, none⟩ = some (.int .i64 a3)) :
    Calls Tryz.prog 103 #[.pointer (some ⟨b, 0, none⟩), .int .i64 e] w fun en w' => en = .returned (WSt.val ⟨a0, a1, a2, a3⟩) ∧ Below w.heap.size w w' := by
  have hbl := World.block_lt_of_cell? w _ h3
  go_enter Tryz.func103, Tryz.ntmps103
  go_wp2_with fail
  exact bodyPost_ret (v := .agg #[.int .i64 a0, .int .i64 a1, .int .i64 a2, .int .i64 a3]) (by simp [results, Tryz.results103, go_sem]) rfl ⟨rfl, (Below.refl _ _).alloc (Nat.le_refl _) _⟩

set_option maxHeartbeats 1000000 in
theorem stands_few (w : World) (b : Nat) (e : Int) (a : Option Addr) (n cap : Nat) (hn : (n : Int) < 4) (h3 : w.cell? ⟨b, 3, none⟩ = some (.bool false)) (h0 : w.cell? ⟨b, 0, none⟩ = some (.slice a n cap)) :
    Calls Tryz.prog 103 #[.pointer (some ⟨b, 0, none⟩), .int .i64 e] w fun en w' => en = .returned (WSt.val ⟨1, 0, 0, 0⟩) ∧ Below w.heap.size w w' := by
  have hbl := World.block_lt_of_cell? w _ h3
  go_enter Tryz.func103, Tryz.ntmps103
  go_wp2_with fail
  exact bodyPost_ret (v := .agg #[.int .i64 1, .int .i64 0, .int .i64 0, .int .i64 0]) (by simp [results, Tryz.results103, go_sem]) rfl ⟨rfl, (Below.refl _ _).alloc (Nat.le_refl _) _⟩

set_option maxHeartbeats 4000000 in
theorem stands_many {k : Nat → Nat} {w : World} {cp b : Nat} {p : RPen} (e : Int) (h : PenIs k w cp b p) (ho : p.over = false) (hok : PenOk p) (h4 : 4 ≤ p.fenced.length) :
    Calls Tryz.prog 103 #[.pointer (some ⟨b, 0, none⟩), .int .i64 e] w fun en w' => en = .returned p.stands.val ∧ Below w.heap.size w w' := by
  obtain ⟨vF, vS, vV, hB, hF, hS, hV⟩ := h.ex
  have hst : p.stands = if fourOf p.status (baseOf p.fenced : Int) then ⟨3, (baseOf p.fenced : Int), (baseOf p.fenced : Int) + (p.values.length : Int), (durUp p.status (baseOf p.fenced) (p.values.length + 1) : Int)⟩
      else ⟨2, (baseOf p.fenced : Int), (baseOf p.fenced : Int) + (p.values.length : Int), 0⟩ := by
    unfold RPen.stands; rw [ho, if_neg (by simp), if_neg (by omega)]
  have hbs : baseOf p.fenced ≤ 4000000000 := baseAll_le _ _ hok.f 4
  have hvl := hok.vl
  have hbl := hB.lt
  have z0 : w.cell? ⟨b, 0, none⟩ = some vF := hB.cell 0
  have z1 : w.cell? ⟨b, 1, none⟩ = some vS := hB.cell 1
  have z2 : w.cell? ⟨b, 2, none⟩ = some vV := hB.cell 2
  have z3 : w.cell? ⟨b, 3, none⟩ = some (.bool false) := by rw [← ho]; exact hB.cell 3
  have HD : Hid (∀ W, Below w.heap.size w W → Calls Tryz.prog 73 #[.pointer (some ⟨b, 0, none⟩), .int .i64 e] W fun en w' => (∃ z, en = .returned (.tuple #[z, .int .i64 (baseOf p.fenced)]) ∧ Made w' W.heap.size 53 2 z ((decCuts p.fenced e).map cutRow)) ∧ Below W.heap.size W w') := hide fun W hW =>
    decided_any e ((hW.cell hbl).trans z0) (hF.evo (Evo.of_below (C := noC) hW) (noC_not _) (noC_not _)) h4 hok.fl hok.f
  have H4 : Hid (∀ (n : Int) W, Below w.heap.size w W → Calls Tryz.prog 120 #[.pointer (some ⟨b, 0, none⟩), .int .i64 n] W fun en w' => en = .returned (.bool (fourOf p.status n)) ∧ w' = W) := hide fun n W hW =>
    four_any n ((hW.cell hbl).trans z1) (hS.evo (Evo.of_below (C := noC) hW) (noC_not _) (noC_not _)) hok.sl
  have HS := hide hst
  obtain ⟨fa, fcap, rfl, _⟩ := msgs_cells hF
  obtain ⟨va, vcap, rfl, _⟩ := ints_cells hV
  clear hst hF hS hV hB h z1
  generalize baseOf p.fenced = base at *
  have h4i : decide ((p.fenced.length : Int) < 4) = false := by simp; omega
  go_enter Tryz.func103, Tryz.ntmps103
  go_wp2_with fail
  refine (HD.out _ ((Below.refl _ _).alloc (Nat.le_refl _) _)).mono ?_
  rintro e1 w1 ⟨⟨z, rfl, hz⟩, hb1⟩
  obtain ⟨zx, zc, rfl⟩ := hz.form
  have hs1 := hb1.size
  simp only [World.size_alloc] at hs1 hb1
  have hB1 : Below w.heap.size w w1 := ((Below.refl w.heap.size w).alloc (Nat.le_refl _) _).trans (hb1.mono (by omega))
  have q2 : w1.cell? ⟨b, 2, none⟩ = _ := (hB1.cell (p := ⟨b, 2, none⟩) hbl).trans z2
  have hr1 : w1.heap[w.heap.size]? = some (.cells #[.int .i64 0, .int .i64 0, .int .i64 0, .int .i64 0] 105 (0, 0)) := (hb1.block w.heap.size (by omega)).trans (heap_alloc_new w _)
  have c0 : w1.cell? ⟨w.heap.size, 0, none⟩ = some (.int .i64 0) := by rw [cell_of_row _ _ 0 _ _ _ hr1]; rfl
  have c1 : w1.cell? ⟨w.heap.size, 1, none⟩ = some (.int .i64 0) := by rw [cell_of_row _ _ 1 _ _ _ hr1]; rfl
  have c2 : w1.cell? ⟨w.heap.size, 2, none⟩ = some (.int .i64 0) := by rw [cell_of_row _ _ 2 _ _ _ hr1]; rfl
  have c3 : w1.cell? ⟨w.heap.size, 3, none⟩ = some (.int .i64 0) := by rw [cell_of_row _ _ 3 _ _ _ hr1]; rfl
  have f0 := frozen_of_row w1 w.heap.size 0 _ _ hr1
  have f1 := frozen_of_row w1 w.heap.size 1 _ _ hr1
  have f2 := frozen_of_row w1 w.heap.size 2 _ _ hr1
  have f3 := frozen_of_row w1 w.heap.size 3 _ _ hr1
  have hlt1 : w.heap.size < w1.heap.size := by omega
  have HR1 := hide hr1
  clear hr1 hz HD
  have HK := hide (H4.out (base : Int) (w1.alloc (Obj.cells #[.int .i64 2, .int .i64 base, .int .i64 ((base : Int) + (p.values.length : Int)), .int .i64 0] 105)) (hB1.alloc (by omega) _))
  cases h4b : fourOf p.status (base : Int)
  · have HS2 : Hid (p.stands = ⟨2, (base : Int), (base : Int) + (p.values.length : Int), 0⟩) := hide (by rw [HS.out, h4b]; rfl)
    go_wp2_with fail
    refine HK.out.mono ?_
    rintro e2 w2 ⟨rfl, hw2⟩
    subst hw2
    rw [h4b]
    clear h4b
    go_wp2_with fail
    refine bodyPost_ret (v := .agg #[.int .i64 2, .int .i64 base, .int .i64 ((base : Int) + (p.values.length : Int)), .int .i64 0]) (by simp [results, Tryz.results103, go_sem, c0, c1, c2, c3, hlt1]) rfl ⟨by rw [HS2.out]; rfl, ?_⟩
    refine Below.alloc (Below.setCell (Below.setCell (Below.setCell (Below.setCell hB1 ?_ _) ?_ _) ?_ _) ?_ _) ?_ _
    all_goals first | exact Nat.le_refl _ | (simp; omega)
  · have HS2 : Hid (p.stands = ⟨3, (base : Int), (base : Int) + (p.values.length : Int), (durUp p.status base (p.values.length + 1) : Int)⟩) := hide (by rw [HS.out, h4b]; rfl)
    go_wp2_with fail
    refine HK.out.mono ?_
    rintro e2 w2 ⟨rfl, hw2⟩
    subst hw2
    rw [h4b]
    clear h4b
    go_wp2_with fail
    clear c0 c1 c2 c3 f0 f1 f2 f3
    go_loopw [9] (fun i wr => Below w.heap.size w wr ∧ ∃ j : Nat, j ≤ p.values.length + 1 ∧ i = .int .i64 ((base : Int) + (j : Int)) ∧
        Hid (wr.heap[w.heap.size]? = some (.cells #[.int .i64 0, .int .i64 0, .int .i64 0, .int .i64 0] 105 (0, 0))) ∧
        Hid (wr.heap[w1.heap.size]? = some (.cells #[.int .i64 3, .int .i64 base, .int .i64 ((base : Int) + (p.values.length : Int)), .int .i64 (durUp p.status base j : Int)] 105 (0, 0)))) (fun i _ => base + p.values.length + 1 - (intOf i).toNat)
    case atStart => exact ⟨hB1.alloc (by omega) _, 0, by omega, by simp, hide ((heap_alloc_old' w1 _ _ hlt1).trans HR1.out), hide (heap_alloc_new w1 _)⟩
    case round =>
      obtain ⟨hB, j, hj, rfl, hr, hx⟩ := hrel
      have hsz := hB.size
      have hxl := (Array.getElem?_eq_some_iff.1 hx.out).1
      have x0 : wr.cell? ⟨w1.heap.size, 0, none⟩ = some (.int .i64 3) := by rw [cell_of_row _ _ 0 _ _ _ hx.out]; rfl
      have x1 : wr.cell? ⟨w1.heap.size, 1, none⟩ = some (.int .i64 base) := by rw [cell_of_row _ _ 1 _ _ _ hx.out]; rfl
      have x2 : wr.cell? ⟨w1.heap.size, 2, none⟩ = some (.int .i64 ((base : Int) + (p.values.length : Int))) := by rw [cell_of_row _ _ 2 _ _ _ hx.out]; rfl
      have x3 : wr.cell? ⟨w1.heap.size, 3, none⟩ = some (.int .i64 (durUp p.status base j : Int)) := by rw [cell_of_row _ _ 3 _ _ _ hx.out]; rfl
      have g3 := frozen_of_row wr w1.heap.size 3 _ _ hx.out
      by_cases hjl : j < p.values.length + 1
      · have HK2 := hide (H4.out ((base : Int) + (j : Int)) wr hB)
        have hdu : durUp p.status base (j + 1) = if fourOf p.status ((base + j : Nat) : Int) then base + j else durUp p.status base j := rfl
        rw [show ((base + j : Nat) : Int) = (base : Int) + (j : Int) from by omega] at hdu
        cases h4c : fourOf p.status ((base : Int) + (j : Int))
        · rw [h4c] at hdu
          have HDU := hide hdu
          clear hdu
          go_wp2_with fail
          refine HK2.out.mono ?_
          rintro e2 w2 ⟨rfl, hw2⟩
          subst hw2
          rw [h4c]
          clear h4c
          go_wp2_with fail
          go_roundw
          case rel => exact ⟨hB, j + 1, by omega, by go_num, hr, by rw [HDU.out]; exact hx⟩
          case measure => simp [intOf]; omega
        · rw [h4c] at hdu
          have HDU := hide hdu
          clear hdu
          go_wp2_with fail
          refine HK2.out.mono ?_
          rintro e2 w2 ⟨rfl, hw2⟩
          subst hw2
          rw [h4c]
          clear h4c
          go_wp2_with fail
          go_roundw
          case rel =>
            refine ⟨hB.setCell (by simp; omega) _, j + 1, by omega, by go_num, hide ?_, hide ?_⟩
            · rw [heap_setCell_other _ _ _ _ (by simp; omega)]; exact hr.out
            · rw [heap_setCell_same _ _ 3 _ _ _ hx.out, HDU.out]; simp
          case measure => simp [intOf]; omega
      · have hje : j = p.values.length + 1 := by omega
        have r0 : wr.cell? ⟨w.heap.size, 0, none⟩ = some (.int .i64 0) := by rw [cell_of_row _ _ 0 _ _ _ hr.out]; rfl
        have r1 : wr.cell? ⟨w.heap.size, 1, none⟩ = some (.int .i64 0) := by rw [cell_of_row _ _ 1 _ _ _ hr.out]; rfl
        have r2 : wr.cell? ⟨w.heap.size, 2, none⟩ = some (.int .i64 0) := by rw [cell_of_row _ _ 2 _ _ _ hr.out]; rfl
        have r3 : wr.cell? ⟨w.heap.size, 3, none⟩ = some (.int .i64 0) := by rw [cell_of_row _ _ 3 _ _ _ hr.out]; rfl
        have f0 := frozen_of_row wr w.heap.size 0 _ _ hr.out
        have f1 := frozen_of_row wr w.heap.size 1 _ _ hr.out
        have f2 := frozen_of_row wr w.heap.size 2 _ _ hr.out
        have f3 := frozen_of_row wr w.heap.size 3 _ _ hr.out
        rw [← hje] at HS2
        clear hje
        go_wp2
        refine bodyPost_ret (v := .agg #[.int .i64 3, .int .i64 base, .int .i64 ((base : Int) + (p.values.length : Int)), .int .i64 (durUp p.status base j : Int)]) (by simp [results, Tryz.results103, go_sem, r0, r1, r2, r3]) rfl ⟨by rw [HS2.out]; rfl, ?_⟩
        exact (((hB.setCell (by simp) _).setCell (by simp) _).setCell (by simp) _).setCell (by simp) _

theorem stands_any {k : Nat → Nat} {w : World} {cp b : Nat} {p : RPen} (e : Int) (h : PenIs k w cp b p) (hok : PenOk p) :
    Calls Tryz.prog 103 #[.pointer (some ⟨b, 0, none⟩), .int .i64 e] w fun en w' => en = .returned p.stands.val ∧ Below w.heap.size w w' := by
  obtain ⟨vF, vS, vV, hB, hF, hS, hV⟩ := h.ex
  cases ho : p.over
  · by_cases h4 : p.fenced.length < 4
    · obtain ⟨fa, fcap, rfl, _⟩ := msgs_cells hF
      have e1 : p.stands = ⟨1, 0, 0, 0⟩ := by unfold RPen.stands; rw [ho, if_neg (by simp), if_pos h4]
      rw [e1]
      exact stands_few w b e fa p.fenced.length fcap (by omega) (by rw [← ho]; exact hB.cell 3) (hB.cell 0)
    · exact stands_many e h ho hok (by omega)
  · have e1 : p.stands = ⟨p.a0, p.a1, p.a2, p.a3⟩ := by unfold RPen.stands; rw [ho, if_pos rfl]
    rw [e1]
    exact stands_over w b e _ _ _ _ (by rw [← ho]; exact hB.cell 3) (hB.cell 4) (hB.cell 5) (hB.cell 6) (hB.cell 7)
end Go.Proofs.YtfpbkghcjaonlaaGreat

/-
  sixfoldref: the volume whole; place, Message, Writer.
-/
namespace Go.Proofs.YtfpbkghcjaonlaaGreat
open Go.RowKit

structure RSeg where
  up : Bool
  epochs : List Int
  lists : List (List (Int × Int))
  entries : List Ent

def RSeg.epoch (s : RSeg) : Int := s.epochs.getLastD 0
def RSeg.cuts (s : RSeg) : List (Int × Int) := s.lists.getLastD []

structure StoreIs (k : Nat → Nat) (w : World) (cs b : Nat) (s : RSeg) : Prop where
  ex : ∃ vE vL vN, Blk k w cs b 89 [.bool s.up, vE, vL, vN] ∧ Rows k w (cs + 1) 3 1 vE (s.epochs.map intRow) ∧ ListsIs k w (cs + 2) vL s.lists ∧ Rows k w (cs + 3) 141 5 vN (s.entries.map entRow)

theorem StoreIs.evo {k k' : Nat → Nat} {w w' : World} {cs b : Nat} {s : RSeg} {C : Nat → Prop} (h : StoreIs k w cs b s) (g : Evo k k' C w w') (hi : ¬ C IM) (h0 : ¬ C cs) (h1 : ¬ C (cs + 1)) (h2 : ¬ C (cs + 2)) (h3 : ¬ C (cs + 3)) : StoreIs k' w' cs b s := by
  obtain ⟨vE, vL, vN, a, b, c, d⟩ := h.ex
  exact ⟨vE, vL, vN, a.evo g h0, b.evo g h1, c.evo g h2 hi, d.evo g h3⟩

structure StoreOk (s : RSeg) : Prop where
  e0 : 0 < s.epochs.length
  el : s.epochs.length ≤ 4000000000
  l0 : 0 < s.lists.length
  ll : s.lists.length ≤ 4000000000
  lk : ∀ l ∈ s.lists, l.length ≤ 1000
  nl : s.entries.length ≤ 4000000000

def ptrRow (b : Nat) : List Value := [.pointer (some ⟨b, 0, none⟩)]
def cSegs : Nat := 12
def cPens : Nat := 13
def cS (i : Nat) : Nat := 20 + 4 * i
def cP (i : Nat) : Nat := 50 + 4 * i

structure SegsIs (k : Nat → Nat) (w : World) (v : Value) (bs : List Nat) (segs : List RSeg) : Prop where
  own : Rows k w cSegs 85 1 v (bs.map ptrRow)
  l1 : bs.length = 6
  l2 : segs.length = 6
  all : ∀ i (h : i < bs.length) (h2 : i < segs.length), StoreIs k w (cS i) bs[i] segs[i]

structure PensIs (k : Nat → Nat) (w : World) (v : Value) (bs : List Nat) (pens : List RPen) : Prop where
  own : Rows k w cPens 124 1 v (bs.map ptrRow)
  l1 : bs.length = pens.length
  l2 : pens.length ≤ 9
  all : ∀ i (h : i < bs.length) (h2 : i < pens.length), PenIs k w (cP i) bs[i] pens[i]

structure RVol where
  wi : Int
  fl : Int
  net : List (Msg × Bool)
  segs : List RSeg
  pens : List RPen

structure YVol (k : Nat → Nat) (w : World) (q : Nat) (r : RVol) : Prop where
  ex : ∃ vSegs vPens sb pb, YNet k w q r.wi r.fl vSegs vPens r.net ∧ SegsIs k w vSegs sb r.segs ∧ PensIs k w vPens pb r.pens

structure YOk (r : RVol) : Prop where
  nl : r.net.length ≤ 4000000000
  nk : ∀ p ∈ r.net, MsgOk p.1
  sk : ∀ s ∈ r.segs, StoreOk s
  pk : ∀ p ∈ r.pens, PenOk p

theorem SegsIs.evo {k k' : Nat → Nat} {w w' : World} {v : Value} {bs : List Nat} {segs : List RSeg} {C : Nat → Prop} (h : SegsIs k w v bs segs) (g : Evo k k' C w w') (hi : ¬ C IM) (h0 : ¬ C cSegs) (h1 : ∀ c, 20 ≤ c → c < 50 → ¬ C c) : SegsIs k' w' v bs segs := by
  refine ⟨h.own.evo g h0, h.l1, h.l2, fun i a b => ?_⟩
  have := h.l1
  exact (h.all i a b).evo g hi (h1 _ (by unfold cS; omega) (by unfold cS; omega)) (h1 _ (by unfold cS; omega) (by unfold cS; omega)) (h1 _ (by unfold cS; omega) (by unfold cS; omega)) (h1 _ (by unfold cS; omega) (by unfold cS; omega))

theorem PensIs.evo {k k' : Nat → Nat} {w w' : World} {v : Value} {bs : List Nat} {pens : List RPen} {C : Nat → Prop} (h : PensIs k w v bs pens) (g : Evo k k' C w w') (hi : ¬ C IM) (h0 : ¬ C cPens) (h1 : ∀ c, 50 ≤ c → c < 90 → ¬ C c) : PensIs k' w' v bs pens := by
  refine ⟨h.own.evo g h0, h.l1, h.l2, fun i a b => ?_⟩
  have := h.l2
  exact (h.all i a b).evo g hi (h1 _ (by unfold cP; omega) (by unfold cP; omega)) (h1 _ (by unfold cP; omega) (by unfold cP; omega)) (h1 _ (by unfold cP; omega) (by unfold cP; omega)) (h1 _ (by unfold cP; omega) (by unfold cP; omega))

/-- The document's volume stays as it is while other colours turn. -/
theorem YVol.evo {k k' : Nat → Nat} {w w' : World} {q : Nat} {r : RVol} {C : Nat → Prop} (h : YVol k w q r) (g : Evo k k' C w w') (hi : ¬ C IM) (h1 : ∀ c, 10 ≤ c → c < 100 → ¬ C c) : YVol k' w' q r := by
  obtain ⟨vS, vP, sb, pb, a, b, c⟩ := h.ex
  exact ⟨vS, vP, sb, pb, a.evo g hi (h1 _ (by decide) (by decide)) (h1 _ (by decide) (by decide)), b.evo g hi (h1 _ (by decide) (by decide)) (fun c x y => h1 c (by omega) (by omega)), c.evo g hi (h1 _ (by decide) (by decide)) (fun c x y => h1 c (by omega) (by omega))⟩

theorem ptrs_cells {k : Nat → Nat} {w : World} {c e : Nat} {v : Value} {l : List Nat} (h : Rows k w c e 1 v (l.map ptrRow)) :
    ∃ a cap, v = .slice a l.length cap ∧ ∀ i, (hi : i < l.length) → ∃ b, a = some ⟨b, 0, none⟩ ∧ w.cell? ⟨b, i, none⟩ = some (.pointer (some ⟨l[i], 0, none⟩)) := by
  obtain ⟨a, cap, rfl, _⟩ := h.form
  refine ⟨a, cap, by simp, fun i hi => ?_⟩
  obtain ⟨b, cap', hv, _, _, _, hc, _⟩ := h.at (by simp; omega)
  simp at hv
  refine ⟨b, hv.1, ?_⟩
  have := hc i 0 (by simpa using hi) (by omega)
  simpa [ptrRow] using this

/-- Where the k-th message in flight stands among all. -/
def placeOf : List (Msg × Bool) → Nat → Option Nat
  | [], _ => none
  | p :: r, x => if p.2 then (placeOf r x).map (· + 1) else match x with | 0 => some 0 | y + 1 => (placeOf r y).map (· + 1)
def placeI (net : List (Msg × Bool)) (x : Int) : Int := if x < 0 then -1 else ((placeOf net x.toNat).map (fun n : Nat => (n : Int))).getD (-1)

theorem placeOf_lt : ∀ (net : List (Msg × Bool)) (x i : Nat), placeOf net x = some i → ∃ h : i < net.length, net[i].2 = false
  | [], _, _, h => by simp [placeOf] at h
  | p :: r, x, i, h => by
    simp only [placeOf] at h
    split at h
    · obtain ⟨j, hj, rfl⟩ := Option.map_eq_some_iff.1 h
      obtain ⟨a, b⟩ := placeOf_lt r x j hj
      exact ⟨by simp; omega, by simpa using b⟩
    · rename_i hp
      cases x with
      | zero => simp at h; subst h; exact ⟨by simp, by simpa using hp⟩
      | succ y =>
        simp at h
        obtain ⟨j, hj, rfl⟩ := h
        obtain ⟨a, b⟩ := placeOf_lt r y j hj
        exact ⟨by simp; omega, by simpa using b⟩

/-- What is left to be looked through at j, with x to go: the answer is the same. -/
theorem placeOf_drop (net : List (Msg × Bool)) (j : Nat) (h : j < net.length) (x : Nat) :
    placeOf (net.drop j) x = if net[j].2 then (placeOf (net.drop (j + 1)) x).map (· + 1) else match x with | 0 => some 0 | y + 1 => (placeOf (net.drop (j + 1)) y).map (· + 1) := by
  rw [List.drop_eq_getElem_cons h]; rfl

set_option maxHeartbeats 1000000 in
theorem place_core (w : World) (q : Nat) (a : Option Addr) (net : List (Msg × Bool)) (cap : Nat) (x : Nat) (hx : x ≤ 9223372036854775807) (hlen : net.length ≤ 4000000000)
    (hnet : w.cell? ⟨q, 2, none⟩ = some (.slice a net.length cap))
    (hg : ∀ i, (hi : i < net.length) → ∃ b, a = some ⟨b, 0, none⟩ ∧ w.cell? ⟨b, i * 10 + 9, none⟩ = some (.bool net[i].2)) :
    Calls Tryz.prog 98 #[.pointer (some ⟨q, 0, none⟩), .int .i64 x] w fun e w' => e = .returned (.int .i64 (((placeOf net x).map (fun n : Nat => (n : Int))).getD (-1))) ∧ w' = w := by
  go_enter Tryz.func98, Tryz.ntmps98
  go_wp2
  go_loop [1, 5] (fun y i => ∃ j z : Nat, j ≤ net.length ∧ i = .int .i64 j ∧ y = .int .i64 z ∧ z ≤ x ∧ Hid (placeOf net x = (placeOf (net.drop j) z).map (· + j))) (fun _ i => net.length - (intOf i).toNat)
  case atStart => exact ⟨0, x, Nat.zero_le _, rfl, rfl, Nat.le_refl _, hide (by simp)⟩
  case round =>
    obtain ⟨j, z, hj, rfl, rfl, hzx, hp⟩ := hrel
    by_cases hlt : j < net.length
    · obtain ⟨b, rfl, hgone⟩ := hg j hlt
      have hd := placeOf_drop net j hlt z
      cases hb : net[j].2
      · rw [hb] at hgone hd
        cases z with
        | zero =>
          have HE : Hid (placeOf net x = some j) := hide (by rw [hp.out, hd]; simp)
          clear hd hp hb
          go_wp2
          go_ret
          exact ⟨by rw [HE.out]; rfl, rfl⟩
        | succ y =>
          have HE : Hid (placeOf net x = (placeOf (net.drop (j + 1)) y).map (· + (j + 1))) := hide (by
            rw [hp.out, hd]; simp; congr 1; funext u; simp; omega)
          have hy0 : (((y + 1 : Nat) : Int) == 0) = false := by simp; omega
          have hy1 : decide ((0 : Int) ≤ ((y + 1 : Nat) : Int)) = true := by simp; omega
          clear hd hp hb
          go_wp2
          go_round
          case rel => exact ⟨j + 1, y, by omega, by go_num, by go_num, by omega, HE⟩
          case measure => simp [intOf]; omega
      · rw [hb] at hgone hd
        have HE : Hid (placeOf net x = (placeOf (net.drop (j + 1)) z).map (· + (j + 1))) := hide (by
            rw [hp.out, hd]; simp; congr 1; funext u; simp; omega)
        have hz1 : decide ((0 : Int) ≤ (z : Int)) = true := by simp
        clear hd hp hb
        go_wp2
        go_round
        case rel => exact ⟨j + 1, z, by omega, by go_num, rfl, by omega, HE⟩
        case measure => simp [intOf]; omega
    · have HE : Hid (placeOf net x = none) := hide (by rw [hp.out, List.drop_of_length_le (by omega)]; rfl)
      have hlt' : decide ((j : Int) < (net.length : Int)) = false := by simp; omega
      clear hp
      go_wp2
      go_ret
      exact ⟨by rw [HE.out]; rfl, rfl⟩

set_option maxHeartbeats 1000000 in
theorem place_neg (w : World) (q : Nat) (a : Option Addr) (n cap : Nat) (x : Int) (hx : x < 0) (hnet : w.cell? ⟨q, 2, none⟩ = some (.slice a n cap)) :
    Calls Tryz.prog 98 #[.pointer (some ⟨q, 0, none⟩), .int .i64 x] w fun e w' => e = .returned (.int .i64 (-1)) ∧ w' = w := by
  have hx' : decide (0 ≤ x) = false := by simp; omega
  by_cases hn : 0 < n
  · have hn' : decide ((0 : Int) < (n : Int)) = true := by simp; omega
    go_enter Tryz.func98, Tryz.ntmps98
    go_wp2
    refine wp_loop_rounds 1 ?_
    rw [rounds_succ]
    go_wp2
    go_ret
    exact ⟨rfl, rfl⟩
  · have hn' : decide ((0 : Int) < (n : Int)) = false := by simp; omega
    go_enter Tryz.func98, Tryz.ntmps98
    go_wp2
    refine wp_loop_rounds 1 ?_
    rw [rounds_succ]
    go_wp2
    go_ret
    exact ⟨rfl, rfl⟩

theorem place_any {k : Nat → Nat} {w : World} {q : Nat} {wi fl vNet vSegs vPens : Value} {net : List (Msg × Bool)} {rows : List (List Value)} (x : Int) (hx : x ≤ 9223372036854775807)
    (hY : Blk k w cY q 84 [wi, fl, vNet, vSegs, vPens]) (hN : NetIs k w vNet net rows) (hlen : net.length ≤ 4000000000) :
    Calls Tryz.prog 98 #[.pointer (some ⟨q, 0, none⟩), .int .i64 x] w fun e w' => e = .returned (.int .i64 (placeI net x)) ∧ w' = w := by
  obtain ⟨a, cap, hv, hg⟩ := net_gone hN
  have hc : w.cell? ⟨q, 2, none⟩ = some (.slice a net.length cap) := by rw [hY.cell, hv]; rfl
  unfold placeI
  by_cases h0 : x < 0
  · rw [if_pos h0]; exact place_neg w q a net.length cap x h0 hc
  · rw [if_neg h0]
    obtain ⟨n, rfl⟩ := Int.eq_ofNat_of_zero_le (show 0 ≤ x by omega)
    simpa using place_core w q a net cap n (by omega) hlen hc hg

theorem net_msg {k : Nat → Nat} {w : World} {v : Value} {net : List (Msg × Bool)} {rows : List (List Value)} (h : NetIs k w v net rows) :
    ∃ a cap, v = .slice a net.length cap ∧ ∀ i, (hi : i < net.length) → ∃ b vc vm, a = some ⟨b, 0, none⟩ ∧ k b = cNet ∧ w.cell? ⟨b, i * 10, none⟩ = some (.int .i64 net[i].1.kind) ∧ w.cell? ⟨b, i * 10 + 1, none⟩ = some (.int .i64 net[i].1.frm) ∧
      w.cell? ⟨b, i * 10 + 2, none⟩ = some (.int .i64 net[i].1.to_) ∧ w.cell? ⟨b, i * 10 + 3, none⟩ = some (.int .i64 net[i].1.epoch) ∧ w.cell? ⟨b, i * 10 + 4, none⟩ = some (.int .i64 net[i].1.lsn) ∧
      w.cell? ⟨b, i * 10 + 5, none⟩ = some (.int .i64 net[i].1.value) ∧ w.cell? ⟨b, i * 10 + 6, none⟩ = some (.int .i64 net[i].1.scl) ∧ w.cell? ⟨b, i * 10 + 7, none⟩ = some vc ∧ w.cell? ⟨b, i * 10 + 8, none⟩ = some vm ∧
      w.cell? ⟨b, i * 10 + 9, none⟩ = some (.bool net[i].2) ∧ (∀ j, w.frozen? ⟨b, j, none⟩ = false) ∧ CutsIm k w vc net[i].1.cuts ∧ IntsIm k w vm net[i].1.marks := by
  have hlen := h.all.1
  obtain ⟨a, cap, rfl, _⟩ := h.own.form
  refine ⟨a, cap, by rw [hlen], fun i hi => ?_⟩
  obtain ⟨b, cap', hv, hk, _, _, hc, hf⟩ := h.own.at (by omega)
  simp at hv
  obtain ⟨r0, ⟨vc, vm, hr, hcc, hmm⟩, hr2⟩ := h.all.2 i hi (by omega)
  have f : ∀ j, j < 10 → w.cell? ⟨b, i * 10 + j, none⟩ = (msgCells net[i].1 vc vm ++ [.bool net[i].2])[j]? := fun j hj => by rw [hc i j (by omega) hj, hr2, hr]; rfl
  exact ⟨b, vc, vm, hv.1, hk, f 0 (by omega), f 1 (by omega), f 2 (by omega), f 3 (by omega), f 4 (by omega), f 5 (by omega), f 6 (by omega), f 7 (by omega), f 8 (by omega), f 9 (by omega), hf, hcc, hmm⟩

/-- The k-th message in flight. -/
def messageAt (net : List (Msg × Bool)) (x : Int) : Option Msg := if x < 0 then none else (placeOf net x.toNat).bind fun i => net[i]?.map (·.1)

set_option maxHeartbeats 1000000 in
theorem message_none (w : World) (q : Nat) (x : Int) (hcall : ∀ W, Below w.heap.size w W → Calls Tryz.prog 98 #[.pointer (some ⟨q, 0, none⟩), .int .i64 x] W fun e w' => e = .returned (.int .i64 (-1)) ∧ w' = W) :
    Calls Tryz.prog 60 #[.pointer (some ⟨q, 0, none⟩), .int .i64 x] w fun e w' => e = .returned (.tuple #[.agg #[.int .i64 0, .int .i64 0, .int .i64 0, .int .i64 0, .int .i64 0, .int .i64 0, .int .i64 0, .slice none 0 0, .slice none 0 0], .int .i64 12]) ∧ Below w.heap.size w w' := by
  have HC := hide hcall
  clear hcall
  go_enter Tryz.func60, Tryz.ntmps60
  go_wp2_with fail
  refine (HC.out _ ((Below.refl _ _).alloc (Nat.le_refl _) _)).mono ?_
  rintro e w1 ⟨rfl, rfl⟩
  go_wp2_with fail
  exact bodyPost_ret (v := .tuple #[.agg #[.int .i64 0, .int .i64 0, .int .i64 0, .int .i64 0, .int .i64 0, .int .i64 0, .int .i64 0, .slice none 0 0, .slice none 0 0], .int .i64 12]) (by simp [results, Tryz.results60, go_sem]) rfl ⟨rfl, (Below.refl _ _).alloc (Nat.le_refl _) _⟩

set_option maxHeartbeats 1000000 in
theorem message_some (w : World) (q b n cap i : Nat) (x : Int) (m : Msg) (vc vm : Value) (hin : i < n) (hvc : ∃ a n c, vc = .slice a n c) (hvm : ∃ a n c, vm = .slice a n c) (hq : w.cell? ⟨q, 2, none⟩ = some (.slice (some ⟨b, 0, none⟩) n cap))
    (h0 : w.cell? ⟨b, i * 10, none⟩ = some (.int .i64 m.kind)) (h1 : w.cell? ⟨b, i * 10 + 1, none⟩ = some (.int .i64 m.frm)) (h2 : w.cell? ⟨b, i * 10 + 2, none⟩ = some (.int .i64 m.to_)) (h3 : w.cell? ⟨b, i * 10 + 3, none⟩ = some (.int .i64 m.epoch))
    (h4 : w.cell? ⟨b, i * 10 + 4, none⟩ = some (.int .i64 m.lsn)) (h5 : w.cell? ⟨b, i * 10 + 5, none⟩ = some (.int .i64 m.value)) (h6 : w.cell? ⟨b, i * 10 + 6, none⟩ = some (.int .i64 m.scl)) (h7 : w.cell? ⟨b, i * 10 + 7, none⟩ = some vc) (h8 : w.cell? ⟨b, i * 10 + 8, none⟩ = some vm)
    (hcall : ∀ W, Below w.heap.size w W → Calls Tryz.prog 98 #[.pointer (some ⟨q, 0, none⟩), .int .i64 x] W fun e w' => e = .returned (.int .i64 i) ∧ w' = W) :
    Calls Tryz.prog 60 #[.pointer (some ⟨q, 0, none⟩), .int .i64 x] w fun e w' => e = .returned (.tuple #[.agg #[.int .i64 m.kind, .int .i64 m.frm, .int .i64 m.to_, .int .i64 m.epoch, .int .i64 m.lsn, .int .i64 m.value, .int .i64 m.scl, vc, vm], .int .i64 0]) ∧ Below w.heap.size w w' := by
  have HC := hide hcall
  clear hcall
  have hql := World.block_lt_of_cell? w _ hq
  have hbl := World.block_lt_of_cell? w _ h0
  obtain ⟨z0, z1, z2, rfl⟩ := hvc
  obtain ⟨y0, y1, y2, rfl⟩ := hvm
  go_enter Tryz.func60, Tryz.ntmps60
  go_wp2_with fail
  refine (HC.out _ ((Below.refl _ _).alloc (Nat.le_refl _) _)).mono ?_
  rintro e w1 ⟨rfl, rfl⟩
  go_wp2_with fail
  exact bodyPost_ret (v := .tuple #[.agg #[.int .i64 m.kind, .int .i64 m.frm, .int .i64 m.to_, .int .i64 m.epoch, .int .i64 m.lsn, .int .i64 m.value, .int .i64 m.scl, .slice z0 z1 z2, .slice y0 y1 y2], .int .i64 0]) (by simp [results, Tryz.results60, go_sem]) rfl ⟨rfl, (Below.refl _ _).alloc (Nat.le_refl _) _⟩

/-- What Message answers. -/
def MsgAns (k : Nat → Nat) (w : World) (o : Option Msg) (v : Value) : Prop := match o with
  | none => v = .tuple #[.agg #[.int .i64 0, .int .i64 0, .int .i64 0, .int .i64 0, .int .i64 0, .int .i64 0, .int .i64 0, .slice none 0 0, .slice none 0 0], .int .i64 12]
  | some m => ∃ vc vm, v = .tuple #[.agg #[.int .i64 m.kind, .int .i64 m.frm, .int .i64 m.to_, .int .i64 m.epoch, .int .i64 m.lsn, .int .i64 m.value, .int .i64 m.scl, vc, vm], .int .i64 0] ∧ CutsIm k w vc m.cuts ∧ IntsIm k w vm m.marks

theorem refMessage_any {k : Nat → Nat} {w : World} {q : Nat} {wi fl : Int} {vSegs vPens : Value} {net : List (Msg × Bool)} (x : Int) (hx : x ≤ 9223372036854775807) (hY : YNet k w q wi fl vSegs vPens net) (hlen : net.length ≤ 4000000000) :
    Calls Tryz.prog 60 #[.pointer (some ⟨q, 0, none⟩), .int .i64 x] w fun e w' => (∃ v, e = .returned v ∧ MsgAns k w (messageAt net x) v) ∧ Below w.heap.size w w' := by
  obtain ⟨vNet, rows, hB, hN⟩ := hY.ex
  have hcall : ∀ W, Below w.heap.size w W → Calls Tryz.prog 98 #[.pointer (some ⟨q, 0, none⟩), .int .i64 x] W fun e w' => e = .returned (.int .i64 (placeI net x)) ∧ w' = W := fun W hW =>
    have ev : Evo k k noC w W := Evo.of_below hW
    place_any x hx (hB.evo ev (noC_not _)) (hN.evo ev (noC_not _) (noC_not _)) hlen
  have hnone : messageAt net x = none → placeI net x = -1 → Calls Tryz.prog 60 #[.pointer (some ⟨q, 0, none⟩), .int .i64 x] w fun e w' => (∃ v, e = .returned v ∧ MsgAns k w (messageAt net x) v) ∧ Below w.heap.size w w' := by
    intro h1 h2
    rw [h2] at hcall
    refine (message_none w q x hcall).mono ?_
    rintro e w' ⟨rfl, hb⟩
    exact ⟨⟨_, rfl, by rw [h1]; rfl⟩, hb⟩
  by_cases h0 : x < 0
  · exact hnone (by unfold messageAt; rw [if_pos h0]) (by unfold placeI; rw [if_pos h0])
  · cases hp : placeOf net x.toNat with
    | none => exact hnone (by unfold messageAt; rw [if_neg h0, hp]; rfl) (by unfold placeI; rw [if_neg h0, hp]; rfl)
    | some i =>
      obtain ⟨hi, _⟩ := placeOf_lt net _ _ hp
      have e1 : placeI net x = i := by unfold placeI; rw [if_neg h0, hp]; rfl
      have e2 : messageAt net x = some net[i].1 := by unfold messageAt; rw [if_neg h0, hp]; simp [hi]
      rw [e1] at hcall
      obtain ⟨a, cap, hv, hg⟩ := net_msg hN
      obtain ⟨b, vc, vm, rfl, _, h0, h1, h2, h3, h4, h5, h6, h7, h8, _, _, hcc, hmm⟩ := hg i hi
      have hq : w.cell? ⟨q, 2, none⟩ = some (.slice (some ⟨b, 0, none⟩) net.length cap) := by rw [hB.cell, hv]; rfl
      refine (message_some w q b net.length cap i x net[i].1 vc vm hi (Rows.shape hcc) (Rows.shape hmm) hq h0 h1 h2 h3 h4 h5 h6 h7 h8 hcall).mono ?_
      rintro e w' ⟨rfl, hb⟩
      exact ⟨⟨_, rfl, by rw [e2]; exact ⟨vc, vm, rfl, hcc, hmm⟩⟩, hb⟩
end Go.Proofs.YtfpbkghcjaonlaaGreat
