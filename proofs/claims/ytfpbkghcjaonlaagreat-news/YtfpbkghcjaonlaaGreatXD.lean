/-
  The program: a segment's records.
-/
import Derived.Test.YtfpbkghcjaonlaaGreatXC
namespace Go.Proofs.YtfpbkghcjaonlaaGreat
open Go.RowKit

theorem Tryz.infoPlaceSize : (Tryz.prog.info? 70).map (·.size) = some 3 := by kernel_rfl
theorem Tryz.infoPlacesSize : (Tryz.prog.info? 71).map (·.size) = some 120 := by kernel_rfl

theorem flatten_row {rows : List (List Value)} {size : Nat} (h : ∀ r ∈ rows, r.length = size) (i : Nat) (hi : i < rows.length) : (rows.flatten.drop (i * size)).take size = rows[i] := by
  induction rows generalizing i with
  | nil => simp at hi
  | cons r rs ih =>
    have hr := h r List.mem_cons_self
    cases i with
    | zero => simp [← hr]
    | succ i =>
      have e1 : (i + 1) * size = r.length + i * size := by rw [hr, Nat.add_mul]; omega
      simp only [List.flatten_cons, List.getElem_cons_succ]
      rw [e1, List.drop_length_add_append]
      exact ih (fun x hx => h x (List.mem_cons_of_mem _ hx)) i (by simpa using hi)

theorem run_index_place (pl : List (Int × Int × Int)) (hl : pl.length = 40) (j : Nat) (hj : j < pl.length) (w : World) :
    (Instr.index 71 (.agg (pl.map placeRow).flatten.toArray) (.int .i64 j)).run Tryz.prog w = .ok (.agg #[.int .i64 pl[j].1, .int .i64 pl[j].2.1, .int .i64 pl[j].2.2]) w := by
  cases hq : Tryz.prog.info? 70 with
  | none => have := Tryz.infoPlaceSize; rw [hq] at this; simp at this
  | some i =>
    have hs : i.size = 3 := by have := Tryz.infoPlaceSize; rw [hq] at this; simpa using this
    have hrow := flatten_row (placeRows_len pl) j (by simpa using hj)
    have h40 : j < 40 := by omega
    have hr2 : (pl.map placeRow)[j]'(by simpa using hj) = placeRow pl[j] := by simp
    rw [hr2] at hrow
    simp [Instr.index, asIntOf, run_underlying Tryz.underlying71, part, isAgg, run_underlying Tryz.underlying70, sizeOf, typeInfo, hq, hs, h40, hrow]
    rfl

/-- The records of one state among the first n places. -/
def xrecsUp (l : List (Int × Int × Int)) (st : Int) (n : Nat) : List Ent := (List.range n).filterMap fun (i : Nat) => l[i]?.bind fun p => if p.1 == st then some ⟨(i : Int) + 1, p.2.1, p.2.2, false, false⟩ else none
theorem xrecsUp_succ (l : List (Int × Int × Int)) (st : Int) (n : Nat) (h : n < l.length) : xrecsUp l st (n + 1) = xrecsUp l st n ++ (if l[n].1 == st then [⟨(n : Int) + 1, l[n].2.1, l[n].2.2, false, false⟩] else []) := by
  unfold xrecsUp
  rw [List.range_succ, List.filterMap_append]
  congr 1
  simp only [List.filterMap_cons, List.filterMap_nil, List.getElem?_eq_getElem h, Option.bind_some]
  cases (l[n].1 == st) <;> simp
theorem xrecsUp_len (l : List (Int × Int × Int)) (st : Int) (n : Nat) : (xrecsUp l st n).length ≤ n := by
  unfold xrecsUp
  exact Nat.le_trans (List.length_filterMap_le _ _) (by simp)

set_option maxRecDepth 100000 in
set_option maxHeartbeats 4000000 in
theorem xrecords_any {w : World} {b o : Nat} {s : XSeg} {vc : Value} (st : Int) (h : SegAt w b o s vc) :
    Calls Tryz.prog 119 #[.pointer (some ⟨b, o, none⟩), .int .i64 st] w fun e w' => (∃ z, e = .returned z ∧ Made w' w.heap.size 59 3 z ((xrecsUp s.places st 40).map recRow)) ∧ Below w.heap.size w w' := by
  have hl := h.len
  have hrange : w.rangeAt b (o + 3) (s.places.map placeRow).flatten := fun j v hv => by
    have hlen := flatten_len (placeRows_len s.places)
    have hj : j < 120 := by
      have := (List.getElem?_eq_some_iff.1 hv).1
      rw [hlen] at this; simp [hl] at this; omega
    rw [show o + 3 + j = o + (3 + j) from by omega, h.cell (3 + j) (by omega)]
    unfold xsegRow
    rw [List.getElem?_append_right (by simp), show 3 + j - [Value.bool s.up, .int .i64 s.epoch, vc].length = j from by simp]
    exact hv
  have hix := fun (j : Nat) (hj : j < s.places.length) (W : World) => run_index_place s.places hl j hj W
  have HIX := hide hix
  have hsz120 : (Tryz.prog.info? 71).map (·.size) = some (s.places.map placeRow).flatten.length := by
    rw [Tryz.infoPlacesSize, flatten_len (placeRows_len s.places)]; simp [hl]
  have HSZ := hide hsz120
  have HRG := hide hrange
  clear hix hsz120 hrange h
  generalize hfl : (s.places.map placeRow).flatten = fl at *
  have HFL := hide hfl
  clear hfl
  go_enter Tryz.func119, Tryz.ntmps119
  go_wp2_with (refine wpList_load_mid rfl 71 (.tmp 10) rfl b (o + 3) rfl fl _ HRG.out Tryz.underlying71 rfl HSZ.out ?_)
  go_loopw [5, 12] (fun z i wr => Below w.heap.size w wr ∧ ∃ j : Nat, i = .int .i64 j ∧ j ≤ 40 ∧ Made wr w.heap.size 59 3 z ((xrecsUp s.places st j).map recRow)) (fun _ i _ => 40 - (intOf i).toNat)
  case atStart => exact ⟨Below.refl _ _, 0, rfl, by omega, Made.nil _ _ _ _⟩
  case round =>
    obtain ⟨hB, j, rfl, hj, hM⟩ := hrel
    have hsz := hB.size
    by_cases hlt : j < 40
    · have hd : decide ((j : Int) < 40) = true := by simp; omega
      have hx := fun W => HIX.out j (by omega) W
      have hs := xrecsUp_succ s.places st j (by omega)
      have hrl := xrecsUp_len s.places st j
      generalize hp0 : s.places[j].1 = p0 at *
      generalize hp1 : s.places[j].2.1 = p1 at *
      generalize hp2 : s.places[j].2.2 = p2 at *
      clear hp0 hp1 hp2
      cases hst : (p0 == st)
      · rw [hst] at hs
        have HS := hide hs
        clear hs
        go_wp2_with fail
        go_roundw
        case rel => exact ⟨hB.alloc (by omega) _, j + 1, by go_num, by omega, by rw [HS.out]; simpa using hM.kept ((Below.refl _ _).alloc (Nat.le_refl _) _)⟩
        case measure => simp [intOf]; omega
      · rw [hst] at hs
        have HS := hide hs
        clear hs
        have hM2 := hM.kept (((Below.refl _ _).alloc (Nat.le_refl _) (Obj.cells #[.int .i64 p0, .int .i64 p1, .int .i64 p2] 70)).alloc (by simp) (Obj.cells #[.int .i64 ((j : Int) + 1), .int .i64 p1, .int .i64 p2] 59))
        go_wp2_with (at_builtin; go_must (refine wpList_append_made (.tmp 20) (.tmp 28) 55 59 _ 3 24 _ ((xrecsUp s.places st j).map recRow) (xrecsUp s.places st j).length (recRow ⟨(j : Int) + 1, p1, p2, false, false⟩) w.heap.size ⟨wr.heap.size + 1, 0, none⟩ 1 (by simp) rfl rfl Tryz.underlying55 Tryz.infoRecord rfl (by decide) rfl rfl hM2 rfl (cell_two_new' _ _ _ _) (by simp [recRow, Value.oneCell']) (by simp only [maxLen]; omega) (by omega) (by simp; omega) ?_; intro ao cap2 w2 hM3 hB3))
        go_roundw
        case rel => exact ⟨((hB.alloc (by omega) _).alloc (by simp; omega) _).trans hB3, j + 1, by go_num, by omega, by rw [HS.out]; simpa using hM3⟩
        case measure => simp [intOf]; omega
    · have hje : j = 40 := by omega
      have hd : decide ((j : Int) < 40) = false := by simp; omega
      rw [hje] at hM
      clear hje
      go_wp2
      go_ret
      exact ⟨⟨_, rfl, hM⟩, hB⟩
end Go.Proofs.YtfpbkghcjaonlaaGreat
