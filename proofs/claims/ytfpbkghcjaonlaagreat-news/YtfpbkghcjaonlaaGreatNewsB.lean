/-
  sixfoldlaw: made; plays of nothing; News.
-/
import Derived.Test.YtfpbkghcjaonlaaGreatNewsA
import Derived.Test.YtfpbkghcjaonlaaGreatRefM
namespace Go.Proofs.YtfpbkghcjaonlaaGreat
open Go.RowKit

/-- Nothing is ours as the call begins. -/
def k0 : Nat → Nat := fun _ => 0
def cOurs : Nat → Prop := fun c => 10 ≤ c

theorem below_of_ours {k' : Nat → Nat} {w w' : World} (h : Evo k0 k' cOurs w w') : Below w.heap.size w w' :=
  ⟨h.os, h.tape, h.output, h.size, fun b hb => h.keep b hb (by unfold cOurs k0; omega)⟩

set_option maxHeartbeats 2000000 in
theorem made_bad (w : World) (a b : Int) (h : a < 1 ∨ 8 < a ∨ b < 1 ∨ 200 < b) :
    Calls Tryz.prog 9 #[.agg #[.int .i64 a, .int .i64 b]] w fun e w' => e = .returned (.tuple #[.pointer none, .bool true]) ∧ Below w.heap.size w w' := by
  have HX := hide (fun W => xnew_bad W a b h)
  have HY := hide (fun W => refNew_bad W a b h)
  clear h
  go_enter Tryz.func9, Tryz.ntmps9
  go_wp2_with fail
  refine (HX.out _).mono ?_
  rintro e1 w1 ⟨rfl, hb1⟩
  have hs1 := hb1.size
  simp only [World.size_alloc] at hs1
  have hk : Blk (fun _ => 0) w1 0 w.heap.size 23 [.int .i64 a, .int .i64 b] := ⟨(hb1.block w.heap.size (by simp)).trans (heap_alloc_new w _), rfl⟩
  have c0 : w1.cell? ⟨w.heap.size, 0, none⟩ = some (.int .i64 a) := hk.cell 0
  have c1 : w1.cell? ⟨w.heap.size, 1, none⟩ = some (.int .i64 b) := hk.cell 1
  have hB1 : Below w.heap.size w w1 := ((Below.refl _ _).alloc (Nat.le_refl _) _).trans (hb1.mono (by simp))
  clear hk hb1
  go_wp2_with fail
  refine (HY.out _).mono ?_
  rintro e1 w2 ⟨rfl, hb2⟩
  go_wp2_with fail
  go_ret2
  exact ⟨rfl, hB1.trans (hb2.mono (by omega))⟩

set_option maxHeartbeats 2000000 in
theorem made_good (w : World) (a b : Int) (h1 : ¬ a < 1) (h2 : ¬ 8 < a) (h3 : ¬ b < 1) (h4 : ¬ 200 < b) :
    Calls Tryz.prog 9 #[.agg #[.int .i64 a, .int .i64 b]] w fun e w' => ∃ g px py k', e = .returned (.tuple #[.pointer (some ⟨g, 0, none⟩), .bool true]) ∧ Evo k0 k' cOurs w w' ∧
      NewQ a b px py k' w' ∧ LawIs k' w' is205 g px py 0 0 0 ∧ Clean k' w' := by
  have HX := hide (fun W => xnew_good W a b h1 h2 h3 h4)
  have HY := hide (fun k W => refNew_good k W a b h1 h2 h3 h4)
  clear h1 h2 h3 h4
  go_enter Tryz.func9, Tryz.ntmps9
  go_wp2_with fail
  refine (HX.out _).mono ?_
  rintro e1 w1 ⟨px, rfl, hpx, hxb, hb1⟩
  have hs1 := hb1.size
  simp only [World.size_alloc] at hs1 hpx
  have hk : Blk (fun _ => 0) w1 0 w.heap.size 23 [.int .i64 a, .int .i64 b] := ⟨(hb1.block w.heap.size (by simp)).trans (heap_alloc_new w _), rfl⟩
  have c0 : w1.cell? ⟨w.heap.size, 0, none⟩ = some (.int .i64 a) := hk.cell 0
  have c1 : w1.cell? ⟨w.heap.size, 1, none⟩ = some (.int .i64 b) := hk.cell 1
  have hB1 : Below w.heap.size w w1 := ((Below.refl _ _).alloc (Nat.le_refl _) _).trans (hb1.mono (by simp))
  have ev1 : Evo k0 (fun g => if g = px then cX else 0) cOurs w w1 := (Evo.of_below (k := k0) hB1).recolour _ (fun i hi => by show (if i = px then cX else 0) = k0 i; rw [if_neg (by omega)]; rfl)
  have hX1 : Blk (fun g => if g = px then cX else 0) w1 cX px 77 (volCells a b (.slice none 0 0) (newRows 6) (.slice none 0 0)) := ⟨hxb, if_pos rfl⟩
  clear hk hb1 hxb
  go_wp2_with fail
  refine (HY.out (fun g => if g = px then cX else 0) _).mono ?_
  rintro e1 w2 ⟨py, k2, rfl, ev2, hY2⟩
  have hX2 := hX1.evo ev2 (by unfold cRef cX; omega)
  clear hX1
  go_wp2_with fail
  go_ret2
  have ev3 : Evo k2 (fun g => if g < w2.heap.size then k2 g else if g = w2.heap.size then 200 else 0) noC w2 (w2.alloc (Obj.cells #[.pointer (some ⟨px, 0, none⟩), .pointer (some ⟨py, 0, none⟩), .slice none 0 0, .slice none 0 0, .slice none 0 0] 48)) :=
    ((Evo.refl k2 noC w2).alloc _).recolour _ (fun i hi => if_pos hi)
  have evA := ev1.trans ((ev2.mono (fun c h => by unfold cRef at h; unfold cOurs; omega)).trans (ev3.mono (fun _ h => h.elim)))
  have hQ3 : NewQ a b px py _ _ := ⟨hX2.evo ev3 (noC_not _), hY2.evo ev3 (noC_not _) (fun c _ _ => noC_not c)⟩
  have hL3 : LawIs (fun g => if g < w2.heap.size then k2 g else if g = w2.heap.size then 200 else 0) (w2.alloc (Obj.cells #[.pointer (some ⟨px, 0, none⟩), .pointer (some ⟨py, 0, none⟩), .slice none 0 0, .slice none 0 0, .slice none 0 0] 48)) is205 w2.heap.size px py 0 0 0 := by
    refine ⟨.slice none 0 0, .slice none 0 0, .slice none 0 0, ⟨heap_alloc_new w2 _, ?_⟩, ⟨[], Rows.nil _ _ _ _ _, rfl, by simp⟩, ⟨[], Rows.nil _ _ _ _ _, rfl, by simp⟩, ⟨[], Rows.nil _ _ _ _ _, rfl, by simp⟩⟩
    show (if w2.heap.size < w2.heap.size then _ else _) = _
    rw [if_neg (by omega), if_pos rfl]
  have hC0 : Clean k0 w := fun g _ => .inl (by unfold k0; omega)
  refine ⟨w2.heap.size, px, py, reco w.heap.size _, rfl, evA.recol, ⟨hQ3.x.recol (by decide), hQ3.y.recol⟩, ?_, hC0.recol evA⟩
  exact hL3.recol (fun c hc => by unfold is205 at hc; omega) (fun g hg => by rw [evA.col g hg]; exact hC0 g hg)

set_option maxHeartbeats 2000000 in
theorem plays_nil (w : World) (a b p : Int) :
    Calls Tryz.prog 8 #[.agg #[.int .i64 a, .int .i64 b], .slice none 0 0, .int .i64 p] w fun e w' => e = .returned (.bool true) ∧ Below w.heap.size w w' := by
  by_cases h : a < 1 ∨ 8 < a ∨ b < 1 ∨ 200 < b
  · have HM := hide (fun W => made_bad W a b h)
    clear h
    go_enter Tryz.func8, Tryz.ntmps8
    go_wp2_with fail
    refine (HM.out _).mono ?_
    rintro e1 w1 ⟨rfl, hb1⟩
    go_wp2_with fail
    go_ret
    exact ⟨rfl, ((Below.refl _ _).alloc (Nat.le_refl _) _).trans (hb1.mono (by simp))⟩
  · have HM := hide (fun W => made_good W a b (by omega) (by omega) (by omega) (by omega))
    clear h
    go_enter Tryz.func8, Tryz.ntmps8
    go_wp2_with fail
    refine (HM.out _).mono ?_
    rintro e1 w1 ⟨g, px, py, k1, rfl, ev1, hq, hL, hc⟩
    have HL := hide (last_any (fl := 0) (NewQ a b px py) (fun k k' w w' hq ev => hq.evo ev (fun c hc => by unfold cLaw; omega)) (fun k w hq => newSides hq) (by omega) hq hL hc (by omega) (by omega) (by omega))
    clear hq hL hc
    go_wp2_with fail
    refine wp_loop_rounds 1 ?_
    rw [rounds_succ]
    go_wp2_with fail
    refine HL.out.mono ?_
    rintro e1 w2 ⟨rfl, k2, ev2, _⟩
    go_wp2_with fail
    go_ret
    have evA : Evo k0 k2 cOurs (w.alloc (Obj.cells #[.int .i64 a, .int .i64 b] 23)) w2 := ev1.trans (ev2.mono (fun c h => by unfold cLaw at h; unfold cOurs; omega))
    exact ⟨rfl, ((Below.refl _ _).alloc (Nat.le_refl _) _).trans ((below_of_ours evA).mono (by simp))⟩

set_option maxHeartbeats 2000000 in
theorem news_any (w : World) (a b : Int) :
    Calls Tryz.prog 3 #[.agg #[.int .i64 a, .int .i64 b]] w fun e w' => e = .returned (.bool true) ∧ Below w.heap.size w w' := by
  have HP := hide (fun W => plays_nil W a b 0)
  go_enter Tryz.func3, Tryz.ntmps3
  go_wp2_with fail
  refine (HP.out _).mono ?_
  rintro e1 w1 ⟨rfl, hb1⟩
  go_wp2_with fail
  go_ret
  exact ⟨rfl, ((Below.refl _ _).alloc (Nat.le_refl _) _).trans (hb1.mono (by simp))⟩
end Go.Proofs.YtfpbkghcjaonlaaGreat
