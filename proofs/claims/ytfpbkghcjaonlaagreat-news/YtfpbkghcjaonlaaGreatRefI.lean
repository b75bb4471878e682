/-
  sixfoldref: stands, end.
-/
import Derived.Test.YtfpbkghcjaonlaaGreatRefH
namespace Go.Proofs.YtfpbkghcjaonlaaGreat
open Go.RowKit

theorem heap_alloc_old' (w : World) (o : Obj) (i : Nat) (h : i < w.heap.size) : (w.alloc o).heap[i]? = w.heap[i]? := Below.heap_alloc w o i h

structure RPen where
  fenced : List Msg
  status : List Msg
  values : List Int
  over : Bool
  a0 : Int
  a1 : Int
  a2 : Int
  a3 : Int

/-- What a writer is at. -/
structure WSt where
  phase : Int
  base : Int
  next : Int
  dur : Int

def WSt.val (s : WSt) : Value := .agg #[.int .i64 s.phase, .int .i64 s.base, .int .i64 s.next, .int .i64 s.dur]

def durUp (st : List Msg) (base : Nat) : Nat → Nat
  | 0 => 0
  | j + 1 => if fourOf st ((base + j : Nat) : Int) then base + j else durUp st base j

def RPen.stands (p : RPen) : WSt :=
  if p.over then ⟨p.a0, p.a1, p.a2, p.a3⟩
  else if p.fenced.length < 4 then ⟨1, 0, 0, 0⟩
  else if fourOf p.status (baseOf p.fenced : Int) then ⟨3, (baseOf p.fenced : Int), (baseOf p.fenced : Int) + (p.values.length : Int), (durUp p.status (baseOf p.fenced) (p.values.length + 1) : Int)⟩
  else ⟨2, (baseOf p.fenced : Int), (baseOf p.fenced : Int) + (p.values.length : Int), 0⟩

/-- A pen in memory; colours cp (its block), cp + 1, cp + 2, cp + 3. -/
structure PenIs (k : Nat → Nat) (w : World) (cp b : Nat) (p : RPen) : Prop where
  ex : ∃ vF vS vV, Blk k w cp b 126 [vF, vS, vV, .bool p.over, .int .i64 p.a0, .int .i64 p.a1, .int .i64 p.a2, .int .i64 p.a3] ∧
    MsgsIs k w (cp + 1) vF p.fenced ∧ MsgsIs k w (cp + 2) vS p.status ∧ Rows k w (cp + 3) 3 1 vV (p.values.map intRow)

theorem PenIs.evo {k k' : Nat → Nat} {w w' : World} {cp b : Nat} {p : RPen} {C : Nat → Prop} (h : PenIs k w cp b p) (g : Evo k k' C w w') (hi : ¬ C IM) (h0 : ¬ C cp) (h1 : ¬ C (cp + 1)) (h2 : ¬ C (cp + 2)) (h3 : ¬ C (cp + 3)) : PenIs k' w' cp b p := by
  obtain ⟨vF, vS, vV, a, b, c, d⟩ := h.ex
  exact ⟨vF, vS, vV, a.evo g h0, b.evo g h1 hi, c.evo g h2 hi, d.evo g h3⟩

structure PenOk (p : RPen) : Prop where
  f : ∀ m ∈ p.fenced, MsgOk m
  fl : p.fenced.length ≤ 4000000000
  sl : p.status.length ≤ 4000000000
  vl : p.values.length ≤ 4000000000

set_option maxHeartbeats 1000000 in
theorem stands_over (w : World) (b : Nat) (e a0 a1 a2 a3 : Int) (h3 : w.cell? ⟨b, 3, none⟩ = some (.bool true)) (h4 : w.cell? ⟨b, 4, none⟩ = some (.int .i64 a0)) (h5 : w.cell? ⟨b, 5, none⟩ = some (.int .i64 a1)) (h6 : w.cell? ⟨b, 6, none⟩ = some (.int .i64 a2)) (h7 : w.cell? ⟨b, 7, none⟩ = some (.int .i64 a3)) :
    Calls Tryz.prog 103 #[.pointer (some ⟨b, 0, none⟩), .int .i64 e] w fun en w' => en = .returned (WSt.val ⟨a0, a1, a2, a3⟩) ∧ Below w.heap.size w w' := by
  have hbl := World.block_lt_of_cell? w _ h3
  go_enter Tryz.func103, Tryz.ntmps103
  go_wp2_with fail
  exact bodyPost_ret (v := .agg #[.int .i64 a0, .int .i64 a1, .int .i64 a2, .int .i64 a3]) (by simp [results, Tryz.results103, go_sem]) rfl ⟨rfl, (Below.refl _ _).alloc (Nat.le_refl _) _⟩

set_option maxHeartbeats 1000000 in
theorem stands_few (w : World) (b : Nat) (e : Int) (a : Option Addr) (n cap : Nat) (hn : (n : Int) < 4) (h3 : w.cell? ⟨b, 3, none⟩ = some (.bool false)) (h0 : w.cell? ⟨b, 0, none⟩ = some (.slice a n cap)) :
    Calls Tryz.prog 103 #[.pointer (some ⟨b, 0, none⟩), .int .i64 e] w fun en w' => en = .returned (WSt.val ⟨1, 0, 0, 0⟩) ∧ Below w.heap.size w w' := by
  have hbl := World.block_lt_of_cell? w _ h3
  go_enter Tryz.func103, Tryz.ntmps103
  go_wp2_with fail
  exact bodyPost_ret (v := .agg #[.int .i64 1, .int .i64 0, .int .i64 0, .int .i64 0]) (by simp [results, Tryz.results103, go_sem]) rfl ⟨rfl, (Below.refl _ _).alloc (Nat.le_refl _) _⟩

set_option maxHeartbeats 4000000 in
theorem stands_many {k : Nat → Nat} {w : World} {cp b : Nat} {p : RPen} (e : Int) (h : PenIs k w cp b p) (ho : p.over = false) (hok : PenOk p) (h4 : 4 ≤ p.fenced.length) :
    Calls Tryz.prog 103 #[.pointer (some ⟨b, 0, none⟩), .int .i64 e] w fun en w' => en = .returned p.stands.val ∧ Below w.heap.size w w' := by
  obtain ⟨vF, vS, vV, hB, hF, hS, hV⟩ := h.ex
  have hst : p.stands = if fourOf p.status (baseOf p.fenced : Int) then ⟨3, (baseOf p.fenced : Int), (baseOf p.fenced : Int) + (p.values.length : Int), (durUp p.status (baseOf p.fenced) (p.values.length + 1) : Int)⟩
      else ⟨2, (baseOf p.fenced : Int), (baseOf p.fenced : Int) + (p.values.length : Int), 0⟩ := by
    unfold RPen.stands; rw [ho, if_neg (by simp), if_neg (by omega)]
  have hbs : baseOf p.fenced ≤ 4000000000 := baseAll_le _ _ hok.f 4
  have hvl := hok.vl
  have hbl := hB.lt
  have z0 : w.cell? ⟨b, 0, none⟩ = some vF := hB.cell 0
  have z1 : w.cell? ⟨b, 1, none⟩ = some vS := hB.cell 1
  have z2 : w.cell? ⟨b, 2, none⟩ = some vV := hB.cell 2
  have z3 : w.cell? ⟨b, 3, none⟩ = some (.bool false) := by rw [← ho]; exact hB.cell 3
  have HD : Hid (∀ W, Below w.heap.size w W → Calls Tryz.prog 73 #[.pointer (some ⟨b, 0, none⟩), .int .i64 e] W fun en w' => (∃ z, en = .returned (.tuple #[z, .int .i64 (baseOf p.fenced)]) ∧ Made w' W.heap.size 53 2 z ((decCuts p.fenced e).map cutRow)) ∧ Below W.heap.size W w') := hide fun W hW =>
    decided_any e ((hW.cell hbl).trans z0) (hF.evo (Evo.of_below (C := noC) hW) (noC_not _) (noC_not _)) h4 hok.fl hok.f
  have H4 : Hid (∀ (n : Int) W, Below w.heap.size w W → Calls Tryz.prog 120 #[.pointer (some ⟨b, 0, none⟩), .int .i64 n] W fun en w' => en = .returned (.bool (fourOf p.status n)) ∧ w' = W) := hide fun n W hW =>
    four_any n ((hW.cell hbl).trans z1) (hS.evo (Evo.of_below (C := noC) hW) (noC_not _) (noC_not _)) hok.sl
  have HS := hide hst
  obtain ⟨fa, fcap, rfl, _⟩ := msgs_cells hF
  obtain ⟨va, vcap, rfl, _⟩ := ints_cells hV
  clear hst hF hS hV hB h z1
  generalize baseOf p.fenced = base at *
  have h4i : decide ((p.fenced.length : Int) < 4) = false := by simp; omega
  go_enter Tryz.func103, Tryz.ntmps103
  go_wp2_with fail
  refine (HD.out _ ((Below.refl _ _).alloc (Nat.le_refl _) _)).mono ?_
  rintro e1 w1 ⟨⟨z, rfl, hz⟩, hb1⟩
  obtain ⟨zx, zc, rfl⟩ := hz.form
  have hs1 := hb1.size
  simp only [World.size_alloc] at hs1 hb1
  have hB1 : Below w.heap.size w w1 := ((Below.refl w.heap.size w).alloc (Nat.le_refl _) _).trans (hb1.mono (by omega))
  have q2 : w1.cell? ⟨b, 2, none⟩ = _ := (hB1.cell (p := ⟨b, 2, none⟩) hbl).trans z2
  have hr1 : w1.heap[w.heap.size]? = some (.cells #[.int .i64 0, .int .i64 0, .int .i64 0, .int .i64 0] 105 (0, 0)) := (hb1.block w.heap.size (by omega)).trans (heap_alloc_new w _)
  have c0 : w1.cell? ⟨w.heap.size, 0, none⟩ = some (.int .i64 0) := by rw [cell_of_row _ _ 0 _ _ _ hr1]; rfl
  have c1 : w1.cell? ⟨w.heap.size, 1, none⟩ = some (.int .i64 0) := by rw [cell_of_row _ _ 1 _ _ _ hr1]; rfl
  have c2 : w1.cell? ⟨w.heap.size, 2, none⟩ = some (.int .i64 0) := by rw [cell_of_row _ _ 2 _ _ _ hr1]; rfl
  have c3 : w1.cell? ⟨w.heap.size, 3, none⟩ = some (.int .i64 0) := by rw [cell_of_row _ _ 3 _ _ _ hr1]; rfl
  have f0 := frozen_of_row w1 w.heap.size 0 _ _ hr1
  have f1 := frozen_of_row w1 w.heap.size 1 _ _ hr1
  have f2 := frozen_of_row w1 w.heap.size 2 _ _ hr1
  have f3 := frozen_of_row w1 w.heap.size 3 _ _ hr1
  have hlt1 : w.heap.size < w1.heap.size := by omega
  have HR1 := hide hr1
  clear hr1 hz HD
  have HK := hide (H4.out (base : Int) (w1.alloc (Obj.cells #[.int .i64 2, .int .i64 base, .int .i64 ((base : Int) + (p.values.length : Int)), .int .i64 0] 105)) (hB1.alloc (by omega) _))
  cases h4b : fourOf p.status (base : Int)
  · have HS2 : Hid (p.stands = ⟨2, (base : Int), (base : Int) + (p.values.length : Int), 0⟩) := hide (by rw [HS.out, h4b]; rfl)
    go_wp2_with fail
    refine HK.out.mono ?_
    rintro e2 w2 ⟨rfl, hw2⟩
    subst hw2
    rw [h4b]
    clear h4b
    go_wp2_with fail
    refine bodyPost_ret (v := .agg #[.int .i64 2, .int .i64 base, .int .i64 ((base : Int) + (p.values.length : Int)), .int .i64 0]) (by simp [results, Tryz.results103, go_sem, c0, c1, c2, c3, hlt1]) rfl ⟨by rw [HS2.out]; rfl, ?_⟩
    refine Below.alloc (Below.setCell (Below.setCell (Below.setCell (Below.setCell hB1 ?_ _) ?_ _) ?_ _) ?_ _) ?_ _
    all_goals first | exact Nat.le_refl _ | (simp; omega)
  · have HS2 : Hid (p.stands = ⟨3, (base : Int), (base : Int) + (p.values.length : Int), (durUp p.status base (p.values.length + 1) : Int)⟩) := hide (by rw [HS.out, h4b]; rfl)
    go_wp2_with fail
    refine HK.out.mono ?_
    rintro e2 w2 ⟨rfl, hw2⟩
    subst hw2
    rw [h4b]
    clear h4b
    go_wp2_with fail
    clear c0 c1 c2 c3 f0 f1 f2 f3
    go_loopw [9] (fun i wr => Below w.heap.size w wr ∧ ∃ j : Nat, j ≤ p.values.length + 1 ∧ i = .int .i64 ((base : Int) + (j : Int)) ∧
        Hid (wr.heap[w.heap.size]? = some (.cells #[.int .i64 0, .int .i64 0, .int .i64 0, .int .i64 0] 105 (0, 0))) ∧
        Hid (wr.heap[w1.heap.size]? = some (.cells #[.int .i64 3, .int .i64 base, .int .i64 ((base : Int) + (p.values.length : Int)), .int .i64 (durUp p.status base j : Int)] 105 (0, 0)))) (fun i _ => base + p.values.length + 1 - (intOf i).toNat)
    case atStart => exact ⟨hB1.alloc (by omega) _, 0, by omega, by simp, hide ((heap_alloc_old' w1 _ _ hlt1).trans HR1.out), hide (heap_alloc_new w1 _)⟩
    case round =>
      obtain ⟨hB, j, hj, rfl, hr, hx⟩ := hrel
      have hsz := hB.size
      have hxl := (Array.getElem?_eq_some_iff.1 hx.out).1
      have x0 : wr.cell? ⟨w1.heap.size, 0, none⟩ = some (.int .i64 3) := by rw [cell_of_row _ _ 0 _ _ _ hx.out]; rfl
      have x1 : wr.cell? ⟨w1.heap.size, 1, none⟩ = some (.int .i64 base) := by rw [cell_of_row _ _ 1 _ _ _ hx.out]; rfl
      have x2 : wr.cell? ⟨w1.heap.size, 2, none⟩ = some (.int .i64 ((base : Int) + (p.values.length : Int))) := by rw [cell_of_row _ _ 2 _ _ _ hx.out]; rfl
      have x3 : wr.cell? ⟨w1.heap.size, 3, none⟩ = some (.int .i64 (durUp p.status base j : Int)) := by rw [cell_of_row _ _ 3 _ _ _ hx.out]; rfl
      have g3 := frozen_of_row wr w1.heap.size 3 _ _ hx.out
      by_cases hjl : j < p.values.length + 1
      · have HK2 := hide (H4.out ((base : Int) + (j : Int)) wr hB)
        have hdu : durUp p.status base (j + 1) = if fourOf p.status ((base + j : Nat) : Int) then base + j else durUp p.status base j := rfl
        rw [show ((base + j : Nat) : Int) = (base : Int) + (j : Int) from by omega] at hdu
        cases h4c : fourOf p.status ((base : Int) + (j : Int))
        · rw [h4c] at hdu
          have HDU := hide hdu
          clear hdu
          go_wp2_with fail
          refine HK2.out.mono ?_
          rintro e2 w2 ⟨rfl, hw2⟩
          subst hw2
          rw [h4c]
          clear h4c
          go_wp2_with fail
          go_roundw
          case rel => exact ⟨hB, j + 1, by omega, by go_num, hr, by rw [HDU.out]; exact hx⟩
          case measure => simp [intOf]; omega
        · rw [h4c] at hdu
          have HDU := hide hdu
          clear hdu
          go_wp2_with fail
          refine HK2.out.mono ?_
          rintro e2 w2 ⟨rfl, hw2⟩
          subst hw2
          rw [h4c]
          clear h4c
          go_wp2_with fail
          go_roundw
          case rel =>
            refine ⟨hB.setCell (by simp; omega) _, j + 1, by omega, by go_num, hide ?_, hide ?_⟩
            · rw [heap_setCell_other _ _ _ _ (by simp; omega)]; exact hr.out
            · rw [heap_setCell_same _ _ 3 _ _ _ hx.out, HDU.out]; simp
          case measure => simp [intOf]; omega
      · have hje : j = p.values.length + 1 := by omega
        have r0 : wr.cell? ⟨w.heap.size, 0, none⟩ = some (.int .i64 0) := by rw [cell_of_row _ _ 0 _ _ _ hr.out]; rfl
        have r1 : wr.cell? ⟨w.heap.size, 1, none⟩ = some (.int .i64 0) := by rw [cell_of_row _ _ 1 _ _ _ hr.out]; rfl
        have r2 : wr.cell? ⟨w.heap.size, 2, none⟩ = some (.int .i64 0) := by rw [cell_of_row _ _ 2 _ _ _ hr.out]; rfl
        have r3 : wr.cell? ⟨w.heap.size, 3, none⟩ = some (.int .i64 0) := by rw [cell_of_row _ _ 3 _ _ _ hr.out]; rfl
        have f0 := frozen_of_row wr w.heap.size 0 _ _ hr.out
        have f1 := frozen_of_row wr w.heap.size 1 _ _ hr.out
        have f2 := frozen_of_row wr w.heap.size 2 _ _ hr.out
        have f3 := frozen_of_row wr w.heap.size 3 _ _ hr.out
        rw [← hje] at HS2
        clear hje
        go_wp2
        refine bodyPost_ret (v := .agg #[.int .i64 3, .int .i64 base, .int .i64 ((base : Int) + (p.values.length : Int)), .int .i64 (durUp p.status base j : Int)]) (by simp [results, Tryz.results103, go_sem, r0, r1, r2, r3]) rfl ⟨by rw [HS2.out]; rfl, ?_⟩
        exact (((hB.setCell (by simp) _).setCell (by simp) _).setCell (by simp) _).setCell (by simp) _

theorem stands_any {k : Nat → Nat} {w : World} {cp b : Nat} {p : RPen} (e : Int) (h : PenIs k w cp b p) (hok : PenOk p) :
    Calls Tryz.prog 103 #[.pointer (some ⟨b, 0, none⟩), .int .i64 e] w fun en w' => en = .returned p.stands.val ∧ Below w.heap.size w w' := by
  obtain ⟨vF, vS, vV, hB, hF, hS, hV⟩ := h.ex
  cases ho : p.over
  · by_cases h4 : p.fenced.length < 4
    · obtain ⟨fa, fcap, rfl, _⟩ := msgs_cells hF
      have e1 : p.stands = ⟨1, 0, 0, 0⟩ := by unfold RPen.stands; rw [ho, if_neg (by simp), if_pos h4]
      rw [e1]
      exact stands_few w b e fa p.fenced.length fcap (by omega) (by rw [← ho]; exact hB.cell 3) (hB.cell 0)
    · exact stands_many e h ho hok (by omega)
  · have e1 : p.stands = ⟨p.a0, p.a1, p.a2, p.a3⟩ := by unfold RPen.stands; rw [ho, if_pos rfl]
    rw [e1]
    exact stands_over w b e _ _ _ _ (by rw [← ho]; exact hB.cell 3) (hB.cell 4) (hB.cell 5) (hB.cell 6) (hB.cell 7)
end Go.Proofs.YtfpbkghcjaonlaaGreat
