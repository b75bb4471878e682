/-
  The program: sixfold.New.
-/
import Derived.Test.YtfpbkghcjaonlaaGreatXA
import Derived.Deep.RegionWith
namespace Go.Proofs.YtfpbkghcjaonlaaGreat
open Go.RowKit

/-- The cells of a volume: the network's two, six segments, the writers. -/
def volCells (wi room : Int) (vM : Value) (rows : List (List Value)) (vW : Value) : List Value := [.int .i64 wi, .int .i64 room, vM] ++ (rows.flatten ++ [vW])

theorem volCells_seg {wi room : Int} {vM vW : Value} {rows : List (List Value)} (hl : ∀ r ∈ rows, r.length = 123) (i j : Nat) (hi : i < rows.length) (hj : j < 123) :
    (volCells wi room vM rows vW)[3 + i * 123 + j]? = (rows[i]'hi)[j]? := by
  unfold volCells
  have hf := flatten_len hl
  have hlt : (i + 1) * 123 ≤ rows.length * 123 := Nat.mul_le_mul_right _ hi
  rw [List.getElem?_append_right (by simp; omega)]
  rw [show 3 + i * 123 + j - [Value.int .i64 wi, .int .i64 room, vM].length = i * 123 + j from by simp; omega]
  rw [List.getElem?_append_left (by rw [hf]; omega)]
  exact flatten_get hl i j hi hj

theorem flatten_splice {rows : List (List Value)} {size : Nat} (hl : ∀ r ∈ rows, r.length = size) (i : Nat) (hi : i < rows.length) (r : List Value) :
    rows.flatten.take (i * size) ++ r ++ rows.flatten.drop (i * size + size) = (rows.set i r).flatten := by
  induction rows generalizing i with
  | nil => simp at hi
  | cons a rs ih =>
    have ha := hl a List.mem_cons_self
    cases i with
    | zero => simp [← ha]
    | succ i =>
      have h1 := ih (fun x hx => hl x (List.mem_cons_of_mem _ hx)) i (by simpa using hi)
      simp only [List.flatten_cons, List.set_cons_succ]
      rw [← h1]
      have e1 : (i + 1) * size = a.length + i * size := by rw [ha, Nat.add_mul]; omega
      rw [e1, List.take_length_add_append, show a.length + i * size + size = a.length + (i * size + size) from by omega, List.drop_length_add_append]
      simp

theorem volCells_len {wi room : Int} {vM vW : Value} {rows : List (List Value)} (hl : ∀ r ∈ rows, r.length = 123) (h6 : rows.length = 6) : (volCells wi room vM rows vW).length = 742 := by
  unfold volCells
  have hf := flatten_len hl
  simp only [List.length_append, List.length_cons, List.length_nil]
  omega

theorem volCells_splice {wi room : Int} {vM vW : Value} {rows : List (List Value)} (hl : ∀ r ∈ rows, r.length = 123) (i : Nat) (hi : i < rows.length) (r : List Value) (hr : r.length = 123) :
    (volCells wi room vM rows vW).take (3 + i * 123) ++ r ++ (volCells wi room vM rows vW).drop (3 + i * 123 + r.length) = volCells wi room vM (rows.set i r) vW := by
  unfold volCells
  have hf := flatten_len hl
  have hlt : (i + 1) * 123 ≤ rows.length * 123 := Nat.mul_le_mul_right _ hi
  rw [hr, ← flatten_splice hl i hi r]
  have e2 : ([Value.int .i64 wi, .int .i64 room, vM]).length = 3 := rfl
  rw [show 3 + i * 123 = ([Value.int .i64 wi, .int .i64 room, vM]).length + i * 123 from by rw [e2], List.take_length_add_append]
  rw [show ([Value.int .i64 wi, .int .i64 room, vM]).length + i * 123 + 123 = ([Value.int .i64 wi, .int .i64 room, vM]).length + (i * 123 + 123) from by omega, List.drop_length_add_append]
  rw [List.take_append_of_le_length (by rw [hf]; omega), List.drop_append_of_le_length (by rw [hf]; omega)]
  simp

def segZeroRow : List Value := .bool false :: .int .i64 0 :: .slice none 0 0 :: List.replicate 120 (.int .i64 0)
theorem volZero_row (a : Int) : Tryz.zeroCells77.setIfInBounds 0 (.int .i64 a) = (volCells a 0 (.slice none 0 0) (List.replicate 6 segZeroRow) (.slice none 0 0)).toArray := by kernel_rfl
theorem segNewRow_len : segNewRow.length = 123 := by simp [segNewRow]
theorem segZeroRow_len : segZeroRow.length = 123 := by simp [segZeroRow]
theorem segNewRow_one : ∀ v ∈ segNewRow, v.oneCell' = true := by
  intro v hv
  simp only [segNewRow, List.mem_cons, List.mem_replicate] at hv
  rcases hv with rfl | rfl | rfl | ⟨_, rfl⟩ <;> rfl

/-- i segments are new, the rest is as it was laid. -/
def newRows (i : Nat) : List (List Value) := List.replicate i segNewRow ++ List.replicate (6 - i) segZeroRow
theorem newRows_len (i : Nat) (h : i ≤ 6) : (newRows i).length = 6 := by simp [newRows]; omega
theorem newRows_all (i : Nat) : ∀ r ∈ newRows i, r.length = 123 := by
  intro r hr
  simp only [newRows, List.mem_append, List.mem_replicate] at hr
  rcases hr with ⟨_, rfl⟩ | ⟨_, rfl⟩
  · exact segNewRow_len
  · exact segZeroRow_len
theorem newRows_set (i : Nat) (h : i < 6) : (newRows i).set i segNewRow = newRows (i + 1) := by
  unfold newRows
  rw [List.set_append_right _ _ (by simp), show 6 - i = (6 - (i + 1)) + 1 from by omega, List.replicate_succ, List.replicate_succ']
  simp

set_option maxHeartbeats 1000000 in
theorem xnew_bad (w : World) (a b : Int) (h : a < 1 ∨ 8 < a ∨ b < 1 ∨ 200 < b) :
    Calls Tryz.prog 14 #[.agg #[.int .i64 a, .int .i64 b]] w fun e w' => e = .returned (.tuple #[.pointer none, .int .i64 1]) ∧ Below w.heap.size w w' := by
  by_cases h1 : a < 1
  · have d1 : decide (a < 1) = true := by simpa using h1
    go_enter Tryz.func14, Tryz.ntmps14
    go_wp2
    go_ret2
    exact ⟨rfl, (Below.refl _ _).alloc (Nat.le_refl _) _⟩
  · have d1 : decide (a < 1) = false := by simpa using h1
    by_cases h2 : 8 < a
    · go_enter Tryz.func14, Tryz.ntmps14
      go_wp2
      go_ret2
      exact ⟨rfl, (Below.refl _ _).alloc (Nat.le_refl _) _⟩
    · by_cases h3 : b < 1
      · have d3 : decide (b < 1) = true := by simpa using h3
        go_enter Tryz.func14, Tryz.ntmps14
        go_wp2
        go_ret2
        exact ⟨rfl, (Below.refl _ _).alloc (Nat.le_refl _) _⟩
      · have d3 : decide (b < 1) = false := by simpa using h3
        have h4 : 200 < b := by omega
        clear h
        go_enter Tryz.func14, Tryz.ntmps14
        go_wp2
        go_ret2
        exact ⟨rfl, (Below.refl _ _).alloc (Nat.le_refl _) _⟩

theorem Below.setCells {B : Nat} {a : World} {b : Nat} (hb : B ≤ b) : ∀ (vs : List Value) {w : World} (o : Nat), Below B a w → Below B a (w.setCells b o vs)
  | [], _, _, h => h
  | _ :: r, _, o, h => Below.setCells hb r (o + 1) (h.setCell hb _)

set_option maxRecDepth 100000 in
set_option maxHeartbeats 4000000 in
theorem xnew_good (w : World) (a b : Int) (h1 : ¬ a < 1) (h2 : ¬ 8 < a) (h3 : ¬ b < 1) (h4 : ¬ 200 < b) :
    Calls Tryz.prog 14 #[.agg #[.int .i64 a, .int .i64 b]] w fun e w' => ∃ g, e = .returned (.tuple #[.pointer (some ⟨g, 0, none⟩), .int .i64 0]) ∧ w.heap.size ≤ g ∧
      w'.heap[g]? = some (.cells (volCells a b (.slice none 0 0) (newRows 6) (.slice none 0 0)).toArray 77 (0, 0)) ∧ Below w.heap.size w w' := by
  have d1 : decide (a < 1) = false := by simpa using h1
  have d3 : decide (b < 1) = false := by simpa using h3
  go_enter Tryz.func14, Tryz.ntmps14
  go_wp2_with fail
  refine (netNew_any _ b).mono ?_
  rintro e1 w1 ⟨rfl, hb1⟩
  have hs1 := hb1.size
  simp only [World.size_alloc] at hs1
  have hB1 : Below w.heap.size w w1 := (((Below.refl w.heap.size w).alloc (Nat.le_refl _) _).alloc (by simp) _).trans (hb1.mono (by simp; omega))
  have hK1 : Blk (fun _ => 0) w1 0 (w.heap.size + 1) 77 (volCells a 0 (.slice none 0 0) (newRows 0) (.slice none 0 0)) := by
    refine ⟨(hb1.block _ (by simp)).trans ?_, rfl⟩
    rw [heap_alloc2_new, volZero_row]
    rfl
  have n0 : w1.cell? ⟨w.heap.size + 1, 1, none⟩ = some (.int .i64 0) := hK1.cell 1
  have n1 : w1.cell? ⟨w.heap.size + 1, 2, none⟩ = some (.slice none 0 0) := hK1.cell 2
  have f0 := hK1.free 1
  have f1 := hK1.free 2
  clear hb1
  go_wp2_with fail
  have hK2 : Hid (Blk (fun _ => 0) ((w1.setCell ⟨w.heap.size + 1, 1, none⟩ (.int .i64 b)).setCell ⟨w.heap.size + 1, 2, none⟩ (.slice none 0 0)) 0 (w.heap.size + 1) 77 (volCells a b (.slice none 0 0) (newRows 0) (.slice none 0 0))) := hide ((hK1.set 1 _).set 2 _)
  have hB2 := (hB1.setCell (p := ⟨w.heap.size + 1, 1, none⟩) (by simp) (.int .i64 b)).setCell (p := ⟨w.heap.size + 1, 2, none⟩) (by simp) (.slice none 0 0)
  clear hK1 n0 n1 f0 f1
  go_loopw [5] (fun i wr => Below w.heap.size w wr ∧ ∃ j : Nat, j ≤ 6 ∧ i = .int .i64 j ∧ Hid (Blk (fun _ => 0) wr 0 (w.heap.size + 1) 77 (volCells a b (.slice none 0 0) (newRows j) (.slice none 0 0)))) (fun i _ => 6 - (intOf i).toNat)
  case atStart => exact ⟨hB2, 0, by omega, rfl, hK2⟩
  case round =>
    obtain ⟨hB, j, hj, rfl, hK⟩ := hrel
    by_cases hlt : j < 6
    · have hsz := hB.size
      have hnr : (newRows j).length = 6 := newRows_len j hj
      have hS : Hid (∀ w2, Below wr.heap.size wr.drew w2 → Blk (fun _ => 0) w2 0 (w.heap.size + 1) 77 (volCells a b (.slice none 0 0) (newRows j) (.slice none 0 0)) ∧
          (storeCells ⟨w.heap.size + 1, 3 + j * 123, none⟩ segNewRow).run Tryz.prog w2 = .ok () (w2.setCells (w.heap.size + 1) (3 + j * 123) segNewRow)) := hide fun w2 hb => by
        have hk2 : Blk (fun _ => 0) w2 0 (w.heap.size + 1) 77 (volCells a b (.slice none 0 0) (newRows j) (.slice none 0 0)) := ⟨(hb.block _ hK.out.lt).trans hK.out.1, rfl⟩
        have hth := hk2.there (3 + j * 123) 123 (by rw [volCells_len (newRows_all j) hnr]; omega)
        have := run_storeCells_cells (P := Tryz.prog) (w.heap.size + 1) (3 + j * 123) segNewRow 0 w2 (fun x hx => by rw [segNewRow_len] at hx; simpa using (hth x hx).1) (fun x hx => by rw [segNewRow_len] at hx; simpa using (hth x hx).2) segNewRow_one
        exact ⟨hk2, by simpa using this⟩
      go_wp2_with fail
      go_region_with (go_at_call 27; refine (segNew_any _).mono ?_; rintro e2 w2 ⟨rfl, hb2⟩; have hst := (hS.out w2 hb2).2; have HK2 := hide (hS.out w2 hb2).1)
      go_wp2_with fail
      go_roundw
      case rel =>
        refine ⟨Below.setCells (by omega) _ _ (hB.drew.trans (hb2.mono hsz)), j + 1, by omega, by go_num, hide ?_⟩
        have h9 := Blk.setCells segNewRow (3 + j * 123) HK2.out (by rw [volCells_len (newRows_all j) hnr, segNewRow_len]; omega)
        rw [volCells_splice (newRows_all j) j (by omega) segNewRow segNewRow_len, newRows_set j hlt] at h9
        exact h9
      case measure => simp [intOf]; omega
    · have h6 : j = 6 := by omega
      rw [h6] at hK
      clear h6
      go_wp2
      go_ret2
      exact ⟨w.heap.size + 1, rfl, by omega, hK.out.1, hB⟩
end Go.Proofs.YtfpbkghcjaonlaaGreat
