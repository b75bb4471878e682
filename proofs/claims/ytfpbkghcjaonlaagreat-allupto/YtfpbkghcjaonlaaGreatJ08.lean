import Derived.Test.YtfpbkghcjaonlaaGreatJ07
import Derived.Test.YtfpbkghcjaonlaaGreatJ05
/-
  The program: a segment's records.
-/
namespace Go.Proofs.YtfpbkghcjaonlaaGreat
open Go.RowKit

theorem Tryz.infoPlaceSize : (Tryz.prog.info? 70).map (·.size) = some 3 := by kernel_rfl
theorem Tryz.infoPlacesSize : (Tryz.prog.info? 71).map (·.size) = some 120 := by kernel_rfl

theorem flatten_row {rows : List (List Value)} {size : Nat} (h : ∀ r ∈ rows, r.length = size) (i : Nat) (hi : i < rows.length) : (rows.flatten.drop (i * size)).take size = rows[i] := by
  induction rows generalizing i with
  | nil => simp at hi
  | cons r rs ih =>
    have hr := h r List.mem_cons_self
    cases i with
    | zero => simp [← hr]
    | succ i =>
      have e1 : (i + 1) * size = r.length + i * size := by rw [hr, Nat.add_mul]; omega
      simp only [List.flatten_cons, List.getElem_cons_succ]
      rw [e1, List.drop_length_add_append]
      exact ih (fun x hx => h x (List.mem_cons_of_mem _ hx)) i (by simpa using hi)

theorem run_index_place (pl : List (Int × Int × Int)) (hl : pl.length = 40) (j : Nat) (hj : j < pl.length) (w : World) :
    (Instr.index 71 (.agg (pl.map placeRow).flatten.toArray) (.int .i64 j)).run Tryz.prog w = .ok (.agg #[.int .i64 pl[j].1, .int .i64 pl[j].2.1, .int .i64 pl[j].2.2]) w := by
  cases hq : Tryz.prog.info? 70 with
  | none => have := Tryz.infoPlaceSize; rw [hq] at this; simp at this
  | some i =>
    have hs : i.size = 3 := by have := Tryz.infoPlaceSize; rw [hq] at this; simpa using this
    have hrow := flatten_row (placeRows_len pl) j (by simpa using hj)
    have h40 : j < 40 := by omega
    have hr2 : (pl.map placeRow)[j]'(by simpa using hj) = placeRow pl[j] := by simp
    rw [hr2] at hrow
    simp [Instr.index, asIntOf, run_underlying Tryz.underlying71, part, isAgg, run_underlying Tryz.underlying70, sizeOf, typeInfo, hq, hs, h40, hrow]
    rfl

/-- The records of one state among the first n places. -/
def xrecsUp (l : List (Int × Int × Int)) (st : Int) (n : Nat) : List Ent := (List.range n).filterMap fun (i : Nat) => l[i]?.bind fun p => if p.1 == st then some ⟨(i : Int) + 1, p.2.1, p.2.2, false, false⟩ else none
theorem xrecsUp_succ (l : List (Int × Int × Int)) (st : Int) (n : Nat) (h : n < l.length) : xrecsUp l st (n + 1) = xrecsUp l st n ++ (if l[n].1 == st then [⟨(n : Int) + 1, l[n].2.1, l[n].2.2, false, false⟩] else []) := by
  unfold xrecsUp
  rw [List.range_succ, List.filterMap_append]
  congr 1
  simp only [List.filterMap_cons, List.filterMap_nil, List.getElem?_eq_getElem h, Option.bind_some]
  cases (l[n].1 == st) <;> simp
theorem xrecsUp_len (l : List (Int × Int × Int)) (st : Int) (n : Nat) : (xrecsUp l st n).length ≤ n := by
  unfold xrecsUp
  exact Nat.le_trans (List.length_filterMap_le _ _) (by simp)

set_option maxRecDepth 100000 in
set_option maxHeartbeats 4000000 in
theorem xrecords_any {w : World} {b o : Nat} {s : XSeg} {vc : Value} (st : Int) (h : SegAt w b o s vc) :
    Calls Tryz.prog 119 #[.pointer (some ⟨b, o, none⟩), .int .i64 st] w fun e w' => (∃ z, e = .returned z ∧ Made w' w.heap.size 59 3 z ((xrecsUp s.places st 40).map recRow)) ∧ Below w.heap.size w w' := by
  have hl := h.len
  have hrange : w.rangeAt b (o + 3) (s.places.map placeRow).flatten := fun j v hv => by
    have hlen := flatten_len (placeRows_len s.places)
    have hj : j < 120 := by
      have := (List.getElem?_eq_some_iff.1 hv).1
      rw [hlen] at this; simp [hl] at this; omega
    rw [show o + 3 + j = o + (3 + j) from by omega, h.cell (3 + j) (by omega)]
    unfold xsegRow
    rw [List.getElem?_append_right (by simp), show 3 + j - [Value.bool s.up, .int .i64 s.epoch, vc].length = j from by simp]
    exact hv
  have hix := fun (j : Nat) (hj : j < s.places.length) (W : World) => run_index_place s.places hl j hj W
  have HIX := hide hix
  have hsz120 : (Tryz.prog.info? 71).map (·.size) = some (s.places.map placeRow).flatten.length := by
    rw [Tryz.infoPlacesSize, flatten_len (placeRows_len s.places)]; simp [hl]
  have HSZ := hide hsz120
  have HRG := hide hrange
  clear hix hsz120 hrange h
  generalize hfl : (s.places.map placeRow).flatten = fl at *
  have HFL := hide hfl
  clear hfl
  go_enter Tryz.func119, Tryz.ntmps119
  go_wp2_with (refine wpList_load_mid rfl 71 (.tmp 10) rfl b (o + 3) rfl fl _ HRG.out Tryz.underlying71 rfl HSZ.out ?_)
  go_loopw [5, 12] (fun z i wr => Below w.heap.size w wr ∧ ∃ j : Nat, i = .int .i64 j ∧ j ≤ 40 ∧ Made wr w.heap.size 59 3 z ((xrecsUp s.places st j).map recRow)) (fun _ i _ => 40 - (intOf i).toNat)
  case atStart => exact ⟨Below.refl _ _, 0, rfl, by omega, Made.nil _ _ _ _⟩
  case round =>
    obtain ⟨hB, j, rfl, hj, hM⟩ := hrel
    have hsz := hB.size
    by_cases hlt : j < 40
    · have hd : decide ((j : Int) < 40) = true := by simp; omega
      have hx := fun W => HIX.out j (by omega) W
      have hs := xrecsUp_succ s.places st j (by omega)
      have hrl := xrecsUp_len s.places st j
      generalize hp0 : s.places[j].1 = p0 at *
      generalize hp1 : s.places[j].2.1 = p1 at *
      generalize hp2 : s.places[j].2.2 = p2 at *
      clear hp0 hp1 hp2
      cases hst : (p0 == st)
      · rw [hst] at hs
        have HS := hide hs
        clear hs
        go_wp2_with fail
        go_roundw
        case rel => exact ⟨hB.alloc (by omega) _, j + 1, by go_num, by omega, by rw [HS.out]; simpa using hM.kept ((Below.refl _ _).alloc (Nat.le_refl _) _)⟩
        case measure => simp [intOf]; omega
      · rw [hst] at hs
        have HS := hide hs
        clear hs
        have hM2 := hM.kept (((Below.refl _ _).alloc (Nat.le_refl _) (Obj.cells #[.int .i64 p0, .int .i64 p1, .int .i64 p2] 70)).alloc (by simp) (Obj.cells #[.int .i64 ((j : Int) + 1), .int .i64 p1, .int .i64 p2] 59))
        go_wp2_with (at_builtin; go_must (refine wpList_append_made (.tmp 20) (.tmp 28) 55 59 _ 3 24 _ ((xrecsUp s.places st j).map recRow) (xrecsUp s.places st j).length (recRow ⟨(j : Int) + 1, p1, p2, false, false⟩) w.heap.size ⟨wr.heap.size + 1, 0, none⟩ 1 (by simp) rfl rfl Tryz.underlying55 Tryz.infoRecord rfl (by decide) rfl rfl hM2 rfl (cell_two_new' _ _ _ _) (by simp [recRow, Value.oneCell']) (by simp only [maxLen]; omega) (by omega) (by simp; omega) ?_; intro ao cap2 w2 hM3 hB3))
        go_roundw
        case rel => exact ⟨((hB.alloc (by omega) _).alloc (by simp; omega) _).trans hB3, j + 1, by go_num, by omega, by rw [HS.out]; simpa using hM3⟩
        case measure => simp [intOf]; omega
    · have hje : j = 40 := by omega
      have hd : decide ((j : Int) < 40) = false := by simp; omega
      rw [hje] at hM
      clear hje
      go_wp2
      go_ret
      exact ⟨⟨_, rfl, hM⟩, hB⟩
end Go.Proofs.YtfpbkghcjaonlaaGreat

/-
  The program: a segment's State; Segment.
-/
namespace Go.Proofs.YtfpbkghcjaonlaaGreat
open Go.RowKit

/-- What State hands back: three lists of its own, in three blocks. -/
def XState (B0 : Nat) (w' : World) (s : XSeg) (v : Value) : Prop :=
  ∃ vc vk vb B1 B2, v = .agg #[.bool s.up, .int .i64 s.epoch, .int .i64 (xscl s), vc, vk, vb] ∧ B0 ≤ B1 ∧ B1 ≤ B2 ∧ (∀ g, vc.ownBlock = some g → g < B1) ∧ (∀ g, vk.ownBlock = some g → g < B2) ∧
    Made w' B0 53 2 vc (s.cuts.map cutRow) ∧ Made w' B1 59 3 vk ((xrecsUp s.places 2 40).map recRow) ∧ Made w' B2 59 3 vb ((xrecsUp s.places 1 40).map recRow)

theorem Made.block {w : World} {B e size : Nat} {v : Value} {rows : List (List Value)} (h : Made w B e size v rows) : ∀ g, v.ownBlock = some g → B ≤ g ∧ g < w.heap.size := h.2.lt

set_option maxHeartbeats 4000000 in
theorem state_any {k : Nat → Nat} {w : World} {b o : Nat} {s : XSeg} {vc0 : Value} (h : SegAt w b o s vc0) (hc : CutsIm k w vc0 s.cuts) (hcl : s.cuts.length ≤ 4000000000) :
    Calls Tryz.prog 100 #[.pointer (some ⟨b, o, none⟩)] w fun e w' => (∃ v, e = .returned v ∧ XState w.heap.size w' s v) ∧ Below w.heap.size w w' := by
  have hbl := h.lt
  have s0 : w.cell? ⟨b, o, none⟩ = some (.bool s.up) := h.cell 0 (by omega)
  have s1 : w.cell? ⟨b, o + 1, none⟩ = some (.int .i64 s.epoch) := h.cell 1 (by omega)
  have s2 : w.cell? ⟨b, o + 2, none⟩ = some vc0 := h.cell 2 (by omega)
  have HC : Hid (∀ W, Below w.heap.size w W → Calls Tryz.prog 113 #[.pointer (some ⟨b, o, none⟩)] W fun e w' => e = .returned (.int .i64 (xscl s)) ∧ w' = W) := hide fun W hW => xscl_any (h.below hW)
  have HP : Hid (∀ W, Below w.heap.size w W → Calls Tryz.prog 118 #[vc0] W fun e w' => (∃ z, e = .returned z ∧ Made w' W.heap.size 53 2 z (s.cuts.map cutRow)) ∧ Below W.heap.size W w') := hide fun W hW => copy_any (hc.evo (Evo.of_below (C := noC) hW) (noC_not _)) hcl
  have HR : Hid (∀ (st : Int) W, Below w.heap.size w W → Calls Tryz.prog 119 #[.pointer (some ⟨b, o, none⟩), .int .i64 st] W fun e w' => (∃ z, e = .returned z ∧ Made w' W.heap.size 59 3 z ((xrecsUp s.places st 40).map recRow)) ∧ Below W.heap.size W w') := hide fun st W hW => xrecords_any st (h.below hW)
  clear h hc
  go_enter Tryz.func100, Tryz.ntmps100
  go_wp2_with fail
  go_region_held3 (fun w' => w'.cell? ⟨b, o, none⟩ = some (.bool s.up) ∧ w'.cell? ⟨b, o + 1, none⟩ = some (.int .i64 s.epoch)) (go_keep) (fail)
  obtain ⟨W, hW⟩ : ∃ W, W = ((w.alloc (Obj.cells #[.bool false, .int .i64 0, .int .i64 0, .slice none 0 0, .slice none 0 0, .slice none 0 0] 97)).alloc (Obj.cells #[.bool s.up, .int .i64 s.epoch, .int .i64 0, .slice none 0 0, .slice none 0 0, .slice none 0 0] 97)).drew := ⟨_, rfl⟩
  have hB0 : Below w.heap.size w W := by rw [hW]; exact (((Below.refl _ _).alloc (Nat.le_refl _) _).alloc (by simp) _).drew
  have ho0 : W.heap[w.heap.size + 1]? = some (.cells #[.bool s.up, .int .i64 s.epoch, .int .i64 0, .slice none 0 0, .slice none 0 0, .slice none 0 0] 97 (0, 0)) := by rw [hW]; exact heap_alloc2_new w _ _
  have hr0 : W.heap[w.heap.size]? = some (.cells #[.bool false, .int .i64 0, .int .i64 0, .slice none 0 0, .slice none 0 0, .slice none 0 0] 97 (0, 0)) := by rw [hW]; exact heap_alloc2_old w _ _
  rw [← hW]
  have HO := hide ho0
  have HR0 := hide hr0
  obtain ⟨d0, d1, d2, d3, d4, d5, d6, d7, d8, d9, d10, d11⟩ := cells6 ho0
  clear hW ho0 hr0
  have hsz := hB0.size
  have t2 := (hB0.cell (p := ⟨b, o + 2, none⟩) hbl).trans s2
  -- the Scl
  have HK := hide (HC.out _ hB0)
  go_wp2_with fail
  refine HK.out.mono ?_
  rintro e1 w1 ⟨rfl, hw1⟩
  subst hw1
  clear HK
  have hBa := hB0.setCell (p := ⟨w.heap.size + 1, 2, none⟩) (by simp) (.int .i64 (xscl s))
  have HOa := hide (heap_setCell_same w1 (w.heap.size + 1) 2 _ _ (.int .i64 (xscl s)) HO.out)
  have HRa := hide ((heap_setCell_other w1 ⟨w.heap.size + 1, 2, none⟩ w.heap.size (.int .i64 (xscl s)) (by simp)).trans HR0.out)
  have hsa := hBa.size
  -- the cuts
  have HK := hide (HP.out _ hBa)
  go_wp2_with fail
  refine HK.out.mono ?_
  rintro e1 w2 ⟨⟨zc, rfl, hk2⟩, hb2⟩
  clear HK d0 d1 d2 d3 d4 d5 d6 d7 d8 d9 d10 d11 t2
  obtain ⟨ca, cc, hcf⟩ := hk2.form
  simp only [List.length_map] at hcf
  subst hcf
  have hlo2 : w.heap.size + 1 < w1.heap.size := (Array.getElem?_eq_some_iff.1 HO.out).1
  have hz1 : (w1.setCell ⟨w.heap.size + 1, 2, none⟩ (.int .i64 (xscl s))).heap.size = w1.heap.size := by simp [World.setCell]
  have hB2 : Below w.heap.size w w2 := hBa.trans (hb2.mono (by omega))
  have o2 := (hb2.block (w.heap.size + 1) (by omega)).trans HOa.out
  have r2 := (hb2.block w.heap.size (by omega)).trans HRa.out
  simp only [List.setIfInBounds_toArray, List.set_cons_succ, List.set_cons_zero] at o2
  obtain ⟨d0, d1, d2, d3, d4, d5, d6, d7, d8, d9, d10, d11⟩ := cells6 o2
  have HO2 := hide o2
  have HR2 := hide r2
  clear o2 r2
  have hsz2 := hb2.size
  -- the kept ones
  have hBb := hB2.setCell (p := ⟨w.heap.size + 1, 3, none⟩) (by simp) (.slice ca s.cuts.length cc)
  have HOb := hide (heap_setCell_same w2 (w.heap.size + 1) 3 _ _ (.slice ca s.cuts.length cc) HO2.out)
  have HRb := hide ((heap_setCell_other w2 ⟨w.heap.size + 1, 3, none⟩ w.heap.size (.slice ca s.cuts.length cc) (by simp)).trans HR2.out)
  have HK := hide (HR.out 2 _ hBb)
  go_wp2_with fail
  refine HK.out.mono ?_
  rintro e1 w3 ⟨⟨zk, rfl, hk3⟩, hb3⟩
  clear HK d0 d1 d2 d3 d4 d5 d6 d7 d8 d9 d10 d11
  obtain ⟨ka, kc, hkf⟩ := hk3.form
  simp only [List.length_map] at hkf
  subst hkf
  have hz2 : (w2.setCell ⟨w.heap.size + 1, 3, none⟩ (.slice ca s.cuts.length cc)).heap.size = w2.heap.size := by simp [World.setCell]
  have hB3 : Below w.heap.size w w3 := hBb.trans (hb3.mono (by omega))
  have o3 := (hb3.block (w.heap.size + 1) (by omega)).trans HOb.out
  have r3 := (hb3.block w.heap.size (by omega)).trans HRb.out
  simp only [List.setIfInBounds_toArray, List.set_cons_succ, List.set_cons_zero] at o3
  obtain ⟨d0, d1, d2, d3, d4, d5, d6, d7, d8, d9, d10, d11⟩ := cells6 o3
  have HO3 := hide o3
  have HR3 := hide r3
  clear o3 r3
  have hsz3 := hb3.size
  -- the buffer
  have hBc := hB3.setCell (p := ⟨w.heap.size + 1, 4, none⟩) (by simp) (.slice ka (xrecsUp s.places 2 40).length kc)
  have HOc := hide (heap_setCell_same w3 (w.heap.size + 1) 4 _ _ (.slice ka (xrecsUp s.places 2 40).length kc) HO3.out)
  have HRc := hide ((heap_setCell_other w3 ⟨w.heap.size + 1, 4, none⟩ w.heap.size (.slice ka (xrecsUp s.places 2 40).length kc) (by simp)).trans HR3.out)
  have HK := hide (HR.out 1 _ hBc)
  go_wp2_with fail
  refine HK.out.mono ?_
  rintro e1 w4 ⟨⟨zb, rfl, hk4⟩, hb4⟩
  clear HK d0 d1 d2 d3 d4 d5 d6 d7 d8 d9 d10 d11
  obtain ⟨ba, bc, hbf⟩ := hk4.form
  simp only [List.length_map] at hbf
  subst hbf
  have hz3 : (w3.setCell ⟨w.heap.size + 1, 4, none⟩ (.slice ka (xrecsUp s.places 2 40).length kc)).heap.size = w3.heap.size := by simp [World.setCell]
  have hB4 : Below w.heap.size w w4 := hBc.trans (hb4.mono (by omega))
  have o4 := (hb4.block (w.heap.size + 1) (by omega)).trans HOc.out
  have r4 := (hb4.block w.heap.size (by omega)).trans HRc.out
  simp only [List.setIfInBounds_toArray, List.set_cons_succ, List.set_cons_zero] at o4
  obtain ⟨d0, d1, d2, d3, d4, d5, d6, d7, d8, d9, d10, d11⟩ := cells6 o4
  obtain ⟨g0, g1, g2, g3, g4, g5, g6, g7, g8, g9, g10, g11⟩ := cells6 r4
  have HO4 := hide o4
  have HR4 := hide r4
  clear o4 r4
  have hsz4 := hb4.size
  go_wp2_with fail
  rw [hz1] at hk2 hb2 hsz2
  rw [hz2] at hk3 hb3 hsz3
  rw [hz3] at hk4 hb4 hsz4
  refine bodyPost_ret (v := .agg #[.bool s.up, .int .i64 s.epoch, .int .i64 (xscl s), .slice ca s.cuts.length cc, .slice ka (xrecsUp s.places 2 40).length kc, .slice ba (xrecsUp s.places 1 40).length bc]) (by simp [results, Tryz.results100, go_sem, g0, g1, g2, g3, g4, g5]) rfl ⟨⟨_, rfl, _, _, _, w2.heap.size, w3.heap.size, rfl, by omega, by omega, fun g hg => (hk2.block g hg).2, fun g hg => (hk3.block g hg).2, ?_, ?_, ?_⟩, ?_⟩
  · refine (hk2.keeps fun d hd hd2 => ?_).weaken (by omega)
    rw [other6 (by omega), heap_setCell_other _ _ _ _ (by simp; omega), hb4.block d (by omega), heap_setCell_other _ _ _ _ (by simp; omega), hb3.block d (by omega), heap_setCell_other _ _ _ _ (by simp; omega)]
  · refine hk3.keeps fun d hd hd2 => ?_
    rw [other6 (by omega), heap_setCell_other _ _ _ _ (by simp; omega), hb4.block d (by omega), heap_setCell_other _ _ _ _ (by simp; omega)]
  · refine hk4.keeps fun d hd hd2 => ?_
    rw [other6 (by omega), heap_setCell_other _ _ _ _ (by simp; omega)]
  · exact below6 (hB4.setCell (p := ⟨w.heap.size + 1, 5, none⟩) (by simp) _) (Nat.le_refl _) _ _ _ _ _ _
end Go.Proofs.YtfpbkghcjaonlaaGreat

/-
  The program: Segment; Writer, Message, Flight where there is none.
-/
namespace Go.Proofs.YtfpbkghcjaonlaaGreat
open Go.RowKit

def ZSeg : Value := .tuple #[.agg #[.bool false, .int .i64 0, .int .i64 0, .slice none 0 0, .slice none 0 0, .slice none 0 0], .int .i64 11]

set_option maxHeartbeats 1000000 in
theorem isSegment_any (w : World) (n : Int) : Calls Tryz.prog 85 #[.int .i64 n] w fun e w' => e = .returned (.bool (decide (0 ≤ n) && decide (n < 6))) ∧ w' = w := by
  by_cases h0 : 0 ≤ n
  · have d0 : decide (0 ≤ n) = true := by simpa using h0
    go_enter Tryz.func85, Tryz.ntmps85
    go_wp2
    go_ret
    exact ⟨by simp [d0], rfl⟩
  · have d0 : decide (0 ≤ n) = false := by simpa using h0
    go_enter Tryz.func85, Tryz.ntmps85
    go_wp2
    go_ret
    exact ⟨by simp, rfl⟩

set_option maxHeartbeats 1000000 in
theorem xsegment_no (w : World) (b : Nat) (n : Int) (hn : n < 0 ∨ 5 < n) :
    Calls Tryz.prog 51 #[.pointer (some ⟨b, 0, none⟩), .int .i64 n] w fun e w' => e = .returned ZSeg ∧ Below w.heap.size w w' := by
  have hv : (decide (0 ≤ n) && decide (n < 6)) = false := by rw [Bool.and_eq_false_iff]; simp; omega
  have HC := hide (fun W => isSegment_any W n)
  rw [hv] at HC
  clear hv hn
  go_enter Tryz.func51, Tryz.ntmps51
  go_wp2_with fail
  refine (HC.out _).mono ?_
  rintro e w1 ⟨rfl, rfl⟩
  go_wp2_with fail
  exact bodyPost_ret (v := ZSeg) (by simp [ZSeg, results, Tryz.results51, go_sem]) rfl ⟨rfl, (Below.refl _ _).alloc (Nat.le_refl _) _⟩

set_option maxHeartbeats 4000000 in
theorem xsegment_in {k : Nat → Nat} {w : World} {b : Nat} {s : XSeg} {vc0 : Value} (i : Nat) (hi : i < 6) (h : SegAt w b (3 + i * 123) s vc0) (hc : CutsIm k w vc0 s.cuts) (hcl : s.cuts.length ≤ 4000000000) :
    Calls Tryz.prog 51 #[.pointer (some ⟨b, 0, none⟩), .int .i64 i] w fun e w' => (∃ v, e = .returned (.tuple #[v, .int .i64 0]) ∧ XState w.heap.size w' s v) ∧ Below w.heap.size w w' := by
  have hv : (decide (0 ≤ (i : Int)) && decide ((i : Int) < 6)) = true := by simp; omega
  have HI := hide (fun W => isSegment_any W (i : Int))
  rw [hv] at HI
  have HS : Hid (∀ W, Below w.heap.size w W → Calls Tryz.prog 100 #[.pointer (some ⟨b, 3 + i * 123, none⟩)] W fun e w' => (∃ v, e = .returned v ∧ XState W.heap.size w' s v) ∧ Below W.heap.size W w') := hide fun W hW => state_any (h.below hW) (hc.evo (Evo.of_below (C := noC) hW) (noC_not _)) hcl
  clear hv h hc
  go_enter Tryz.func51, Tryz.ntmps51
  go_wp2_with fail
  refine (HI.out _).mono ?_
  rintro e w1 ⟨rfl, hw1⟩
  subst hw1
  go_wp2_with fail
  have hB0 : Below w.heap.size w (w.alloc (Obj.cells #[.bool false, .int .i64 0, .int .i64 0, .slice none 0 0, .slice none 0 0, .slice none 0 0] 97)) := (Below.refl _ _).alloc (Nat.le_refl _) _
  refine (HS.out _ hB0).mono ?_
  rintro e w1 ⟨⟨v, rfl, hX⟩, hb1⟩
  have hs1 := hb1.size
  simp only [World.size_alloc] at hs1
  have hr1 := (hb1.block w.heap.size (by simp)).trans (heap_alloc_new w _)
  obtain ⟨g0, g1, g2, g3, g4, g5, g6, g7, g8, g9, g10, g11⟩ := cells6 hr1
  have hB1 : Below w.heap.size w w1 := hB0.trans (hb1.mono (by simp))
  have hX' := hX
  obtain ⟨vc, vk, vb, B1, B2, rfl, hl1, hl2, hlc, hlk, hm1, hm2, hm3⟩ := hX
  obtain ⟨ca, cc, hcf⟩ := hm1.form
  obtain ⟨ka, kc, hkf⟩ := hm2.form
  obtain ⟨ba, bc, hbf⟩ := hm3.form
  subst hcf hkf hbf
  clear hr1 hb1 HS HI hX'
  simp only [World.size_alloc] at hl1 hm1
  go_wp2_with fail
  refine bodyPost_ret (v := .tuple #[.agg #[.bool s.up, .int .i64 s.epoch, .int .i64 (xscl s), .slice ca (s.cuts.map cutRow).length cc, .slice ka ((xrecsUp s.places 2 40).map recRow).length kc, .slice ba ((xrecsUp s.places 1 40).map recRow).length bc], .int .i64 0]) (by simp [results, Tryz.results51, go_sem, g0, g1, g2, g3, g4, g5]) rfl ⟨⟨_, rfl, ⟨_, _, _, B1, B2, rfl, by omega, hl2, hlc, hlk, ?_, ?_, ?_⟩⟩, ?_⟩
  · exact (hm1.keeps fun d hd hd2 => other6 (by omega) _ _ _ _ _ _).weaken (by omega)
  · exact hm2.keeps fun d hd hd2 => other6 (by omega) _ _ _ _ _ _
  · exact hm3.keeps fun d hd hd2 => other6 (by omega) _ _ _ _ _ _
  · exact below6 hB1 (Nat.le_refl _) _ _ _ _ _ _

theorem below9 {B : Nat} {a w : World} (h : Below B a w) {b : Nat} (hb : B ≤ b) (v0 v1 v2 v3 v4 v5 v6 v7 v8 : Value) :
    Below B a (((((((((w.setCell ⟨b, 0, none⟩ v0).setCell ⟨b, 1, none⟩ v1).setCell ⟨b, 2, none⟩ v2).setCell ⟨b, 3, none⟩ v3).setCell ⟨b, 4, none⟩ v4).setCell ⟨b, 5, none⟩ v5).setCell ⟨b, 6, none⟩ v6).setCell ⟨b, 7, none⟩ v7).setCell ⟨b, 8, none⟩ v8) := by
  have h6 := below6 h hb v0 v1 v2 v3 v4 v5
  exact ((h6.setCell (p := ⟨b, 6, none⟩) hb v6).setCell (p := ⟨b, 7, none⟩) hb v7).setCell (p := ⟨b, 8, none⟩) hb v8

def ZMsg : Value := .tuple #[.agg #[.int .i64 0, .int .i64 0, .int .i64 0, .int .i64 0, .int .i64 0, .int .i64 0, .int .i64 0, .slice none 0 0, .slice none 0 0], .int .i64 12]

set_option maxHeartbeats 1000000 in
theorem isWriter_any (w : World) (b : Nat) (n : Int) (a : Option Addr) (len cap : Nat) (hc : w.cell? ⟨b, 741, none⟩ = some (.slice a len cap)) :
    Calls Tryz.prog 68 #[.pointer (some ⟨b, 0, none⟩), .int .i64 n] w fun e w' => e = .returned (.bool (decide (1 ≤ n) && decide (n ≤ (len : Int)))) ∧ w' = w := by
  by_cases h0 : 1 ≤ n
  · have d0 : decide (1 ≤ n) = true := by simpa using h0
    go_enter Tryz.func68, Tryz.ntmps68
    go_wp2
    go_ret
    exact ⟨by simp [d0], rfl⟩
  · have d0 : decide (1 ≤ n) = false := by simpa using h0
    go_enter Tryz.func68, Tryz.ntmps68
    go_wp2
    go_ret
    exact ⟨by simp, rfl⟩

set_option maxHeartbeats 1000000 in
theorem xwriter_no (w : World) (b : Nat) (n : Int) (a : Option Addr) (len cap : Nat) (hc : w.cell? ⟨b, 741, none⟩ = some (.slice a len cap)) (hn : n < 1 ∨ (len : Int) < n) :
    Calls Tryz.prog 57 #[.pointer (some ⟨b, 0, none⟩), .int .i64 n] w fun e w' => e = .returned (.tuple #[.agg #[.int .i64 0, .int .i64 0, .int .i64 0, .int .i64 0], .int .i64 3]) ∧ Below w.heap.size w w' := by
  have hv : (decide (1 ≤ n) && decide (n ≤ (len : Int))) = false := by rw [Bool.and_eq_false_iff]; simp; omega
  have hbl := World.block_lt_of_cell? w _ hc
  have HC : Hid (∀ W, Below w.heap.size w W → Calls Tryz.prog 68 #[.pointer (some ⟨b, 0, none⟩), .int .i64 n] W fun e w' => e = .returned (.bool false) ∧ w' = W) := hide fun W hW => by
    rw [← hv]; exact isWriter_any W b n a len cap ((hW.cell hbl).trans hc)
  clear hv hn
  go_enter Tryz.func57, Tryz.ntmps57
  go_wp2_with fail
  refine (HC.out _ ((Below.refl _ _).alloc (Nat.le_refl _) _)).mono ?_
  rintro e w1 ⟨rfl, rfl⟩
  go_wp2_with fail
  exact bodyPost_ret (v := .tuple #[.agg #[.int .i64 0, .int .i64 0, .int .i64 0, .int .i64 0], .int .i64 3]) (by simp [results, Tryz.results57, go_sem]) rfl ⟨rfl, (Below.refl _ _).alloc (Nat.le_refl _) _⟩

set_option maxHeartbeats 1000000 in
theorem look_no (w : World) (b : Nat) (n : Int) (a : Option Addr) (len cap : Nat) (hc : w.cell? ⟨b, 2, none⟩ = some (.slice a len cap)) (hn : n < 0 ∨ (len : Int) ≤ n) :
    Calls Tryz.prog 99 #[.pointer (some ⟨b, 1, none⟩), .int .i64 n] w fun e w' => e = .returned (.tuple #[.agg #[.int .i64 0, .int .i64 0, .int .i64 0, .int .i64 0, .int .i64 0, .int .i64 0, .int .i64 0, .slice none 0 0, .slice none 0 0], .bool false]) ∧ Below w.heap.size w w' := by
  have hbl := World.block_lt_of_cell? w _ hc
  by_cases h0 : n < 0
  · have d0 : decide (n < 0) = true := by simpa using h0
    go_enter Tryz.func99, Tryz.ntmps99
    go_wp2
    exact bodyPost_ret (v := .tuple #[.agg #[.int .i64 0, .int .i64 0, .int .i64 0, .int .i64 0, .int .i64 0, .int .i64 0, .int .i64 0, .slice none 0 0, .slice none 0 0], .bool false]) (by simp [results, Tryz.results99, go_sem]) rfl ⟨rfl, (Below.refl _ _).alloc (Nat.le_refl _) _⟩
  · have d0 : decide (n < 0) = false := by simpa using h0
    have h1 : (len : Int) ≤ n := by omega
    clear hn
    go_enter Tryz.func99, Tryz.ntmps99
    go_wp2
    exact bodyPost_ret (v := .tuple #[.agg #[.int .i64 0, .int .i64 0, .int .i64 0, .int .i64 0, .int .i64 0, .int .i64 0, .int .i64 0, .slice none 0 0, .slice none 0 0], .bool false]) (by simp [results, Tryz.results99, go_sem]) rfl ⟨rfl, (Below.refl _ _).alloc (Nat.le_refl _) _⟩

set_option maxHeartbeats 1000000 in
theorem xmessage_no (w : World) (b : Nat) (n : Int) (a : Option Addr) (len cap : Nat) (hc : w.cell? ⟨b, 2, none⟩ = some (.slice a len cap)) (hn : n < 0 ∨ (len : Int) ≤ n) :
    Calls Tryz.prog 59 #[.pointer (some ⟨b, 0, none⟩), .int .i64 n] w fun e w' => e = .returned ZMsg ∧ Below w.heap.size w w' := by
  have hbl := World.block_lt_of_cell? w _ hc
  have HC : Hid (∀ W, Below w.heap.size w W → Calls Tryz.prog 99 #[.pointer (some ⟨b, 1, none⟩), .int .i64 n] W fun e w' => e = .returned (.tuple #[.agg #[.int .i64 0, .int .i64 0, .int .i64 0, .int .i64 0, .int .i64 0, .int .i64 0, .int .i64 0, .slice none 0 0, .slice none 0 0], .bool false]) ∧ Below W.heap.size W w') := hide fun W hW =>
    look_no W b n a len cap ((hW.cell hbl).trans hc) hn
  clear hn
  go_enter Tryz.func59, Tryz.ntmps59
  go_wp2_with fail
  refine (HC.out _ ((Below.refl _ _).alloc (Nat.le_refl _) _)).mono ?_
  rintro e w1 ⟨rfl, hb1⟩
  have hs1 := hb1.size
  simp only [World.size_alloc] at hs1
  have hB1 : Below w.heap.size w w1 := ((Below.refl _ _).alloc (Nat.le_refl _) _).trans (hb1.mono (by simp))
  have hk : Blk (fun _ => 0) w1 0 w.heap.size 109 [.int .i64 0, .int .i64 0, .int .i64 0, .int .i64 0, .int .i64 0, .int .i64 0, .int .i64 0, .slice none 0 0, .slice none 0 0] := ⟨(hb1.block w.heap.size (by simp)).trans (heap_alloc_new w _), rfl⟩
  have g0 : w1.cell? ⟨w.heap.size, 0, none⟩ = some (.int .i64 0) := hk.cell 0
  have g1 : w1.cell? ⟨w.heap.size, 1, none⟩ = some (.int .i64 0) := hk.cell 1
  have g2 : w1.cell? ⟨w.heap.size, 2, none⟩ = some (.int .i64 0) := hk.cell 2
  have g3 : w1.cell? ⟨w.heap.size, 3, none⟩ = some (.int .i64 0) := hk.cell 3
  have g4 : w1.cell? ⟨w.heap.size, 4, none⟩ = some (.int .i64 0) := hk.cell 4
  have g5 : w1.cell? ⟨w.heap.size, 5, none⟩ = some (.int .i64 0) := hk.cell 5
  have g6 : w1.cell? ⟨w.heap.size, 6, none⟩ = some (.int .i64 0) := hk.cell 6
  have g7 : w1.cell? ⟨w.heap.size, 7, none⟩ = some (.slice none 0 0) := hk.cell 7
  have g8 : w1.cell? ⟨w.heap.size, 8, none⟩ = some (.slice none 0 0) := hk.cell 8
  have f0 := hk.free 0
  have f1 := hk.free 1
  have f2 := hk.free 2
  have f3 := hk.free 3
  have f4 := hk.free 4
  have f5 := hk.free 5
  have f6 := hk.free 6
  have f7 := hk.free 7
  have f8 := hk.free 8
  have hlt : w.heap.size < w1.heap.size := by omega
  clear hb1 hk HC
  go_wp2_with fail
  refine bodyPost_ret (v := ZMsg) (by simp [ZMsg, results, Tryz.results59, go_sem, g0, g1, g2, g3, g4, g5, g6, g7, g8, hlt]) rfl ⟨rfl, ?_⟩
  have b9 := below9 hB1 (Nat.le_refl w.heap.size) (.int .i64 0) (.int .i64 0) (.int .i64 0) (.int .i64 0) (.int .i64 0) (.int .i64 0) (.int .i64 0) (.slice none 0 0) (.slice none 0 0)
  exact b9.alloc b9.size _

set_option maxHeartbeats 1000000 in
theorem netFlight_any (w : World) (b : Nat) (a : Option Addr) (len cap : Nat) (hc : w.cell? ⟨b, 2, none⟩ = some (.slice a len cap)) :
    Calls Tryz.prog 104 #[.pointer (some ⟨b, 1, none⟩)] w fun e w' => e = .returned (.int .i64 len) ∧ w' = w := by
  go_enter Tryz.func104, Tryz.ntmps104
  go_wp2
  go_ret
  exact ⟨rfl, rfl⟩

set_option maxHeartbeats 1000000 in
theorem xflight_any (w : World) (b : Nat) (a : Option Addr) (len cap : Nat) (hc : w.cell? ⟨b, 2, none⟩ = some (.slice a len cap)) :
    Calls Tryz.prog 63 #[.pointer (some ⟨b, 0, none⟩)] w fun e w' => e = .returned (.int .i64 len) ∧ w' = w := by
  have HC := hide (netFlight_any w b a len cap hc)
  go_enter Tryz.func63, Tryz.ntmps63
  go_wp2_with fail
  refine HC.out.mono ?_
  rintro e w1 ⟨rfl, rfl⟩
  go_wp2_with fail
  go_ret
  exact ⟨rfl, rfl⟩
end Go.Proofs.YtfpbkghcjaonlaaGreat

/-
  sixfoldlaw: segment.
-/
namespace Go.Proofs.YtfpbkghcjaonlaaGreat
open Go.RowKit

/-- What Segment answers, on either side. -/
structure SegD where
  err : Int
  up : Bool
  epoch : Int
  scl : Int
  cuts : List (Int × Int)
  kept : List Ent
  buf : List Ent

def XAns (B0 : Nat) (w' : World) (d : SegD) (v : Value) : Prop :=
  ∃ vc vk vb B1 B2, v = .tuple #[.agg #[.bool d.up, .int .i64 d.epoch, .int .i64 d.scl, vc, vk, vb], .int .i64 d.err] ∧ B0 ≤ B1 ∧ B1 ≤ B2 ∧ (∀ g, vc.ownBlock = some g → g < B1) ∧ (∀ g, vk.ownBlock = some g → g < B2) ∧
    Made w' B0 53 2 vc (d.cuts.map cutRow) ∧ Made w' B1 59 3 vk (d.kept.map recRow) ∧ Made w' B2 59 3 vb (d.buf.map recRow)

def YAns (w' : World) (d : SegD) (v : Value) : Prop :=
  ∃ vc vk vb k1 k2 k3 c1 c2 c3, v = .tuple #[.agg #[.bool d.up, .int .i64 d.epoch, .int .i64 d.scl, vc, vk, vb], .int .i64 d.err] ∧
    Rows k1 w' c1 53 2 vc (d.cuts.map cutRow) ∧ Rows k2 w' c2 59 3 vk (d.kept.map recRow) ∧ Rows k3 w' c3 59 3 vb (d.buf.map recRow)

theorem Rows.below {k : Nat → Nat} {w w' : World} {c e size : Nat} {v : Value} {rows : List (List Value)} (h : Rows k w c e size v rows) (hb : Below w.heap.size w w') : Rows k w' c e size v rows := h.evo (Evo.of_below (C := noC) hb) (noC_not _)

/-- No list that is still to be written down. -/
def Clean (k : Nat → Nat) (w : World) : Prop := ∀ g, g < w.heap.size → k g < 204 ∨ k g = 205

def reco (n : Nat) (k : Nat → Nat) (g : Nat) : Nat := if g < n then k g else if 204 ≤ k g then 205 else k g

theorem Rows.recol {k : Nat → Nat} {w : World} {c e size n : Nat} {v : Value} {rows : List (List Value)} (h : Rows k w c e size v rows) (hc : c < 204) : Rows (reco n k) w c e size v rows := by
  refine ⟨h.len, h.own, fun g hg => ?_⟩
  have h1 := h.col g hg
  unfold reco
  split
  · exact h1
  · rw [if_neg (by omega)]; exact h1
theorem Rows.recol5 {k : Nat → Nat} {w : World} {c e size n : Nat} {v : Value} {rows : List (List Value)} (h : Rows k w c e size v rows) (hc : 204 ≤ c) (hold : ∀ g, g < n → k g < 204 ∨ k g = 205) : Rows (reco n k) w 205 e size v rows := by
  refine ⟨h.len, h.own, fun g hg => ?_⟩
  have h1 := h.col g hg
  unfold reco
  split
  · rename_i hlt
    rcases hold g hlt with h2 | h2
    · omega
    · exact h2
  · rw [if_pos (by omega)]

theorem OutsOk.recol {k : Nat → Nat} {w : World} {L : Nat → Prop} {c e1 e size n m : Nat} {mk : Nat → List Value} {v : Value} (h : OutsOk k w L c e1 e size mk v m) (hc : c < 204) (hL : ∀ c, L c → 204 ≤ c) (hold : ∀ g, g < n → k g < 204 ∨ k g = 205) : OutsOk (reco n k) w (fun c => c = 205) c e1 e size mk v m := by
  obtain ⟨rows, a, b, d⟩ := h
  refine ⟨rows, a.recol hc, b, fun r hr => ?_⟩
  obtain ⟨v0, m0, n0, c0, h1, h2, h3, h4, h5⟩ := d r hr
  exact ⟨v0, m0, n0, 205, h1, h2, h3, rfl, h5.recol5 (hL _ h4) hold⟩

theorem LawIs.recol {k : Nat → Nat} {w : World} {L : Nat → Prop} {b px py nC nR nI n : Nat} (h : LawIs k w L b px py nC nR nI) (hL : ∀ c, L c → 204 ≤ c) (hold : ∀ g, g < n → k g < 204 ∨ k g = 205) : LawIs (reco n k) w (fun c => c = 205) b px py nC nR nI := by
  obtain ⟨vC, vR, vI, hB, oC, oR, oI⟩ := h.ex
  refine ⟨vC, vR, vI, ⟨hB.1, ?_⟩, oC.recol (by decide) hL hold, oR.recol (by decide) hL hold, oI.recol (by decide) hL hold⟩
  have := hB.2
  unfold reco
  split
  · exact this
  · rw [if_neg (by omega)]; exact this

theorem Evo.recol {k1 k2 : Nat → Nat} {C : Nat → Prop} {a b : World} (h : Evo k1 k2 C a b) : Evo k1 (reco a.heap.size k2) C a b := h.recolour _ (fun _ hi => if_pos hi)
theorem Clean.recol {k1 k2 : Nat → Nat} {C : Nat → Prop} {a b : World} (h : Clean k1 a) (g : Evo k1 k2 C a b) : Clean (reco a.heap.size k2) b := by
  intro i hi
  unfold reco
  split
  · rename_i hlt; rw [g.col i hlt]; exact h i hlt
  · split
    · exact .inr rfl
    · exact .inl (by omega)

/-- The three lists of an answer get colours of their own. -/
def colour3 (n : Nat) (k : Nat → Nat) (vc vk vb : Value) (g : Nat) : Nat := if g < n then k g else if vc.ownBlock = some g then 204 else if vk.ownBlock = some g then 206 else if vb.ownBlock = some g then 207 else 0

theorem Made.colour {k' : Nat → Nat} {w : World} {B e size c : Nat} {v : Value} {rows : List (List Value)} (h : Made w B e size v rows) (hc : ∀ g, v.ownBlock = some g → k' g = c) : Rows k' w c e size v rows := by
  refine ⟨h.1, ⟨h.2.1, ?_⟩, hc⟩
  rcases h.2.2 with hn | ⟨b, cap, cur, hv, hb, r⟩
  · exact .inl hn
  · exact .inr ⟨b, cap, cur, hv, Nat.zero_le _, r⟩

theorem colour3_rows {n B1 B2 : Nat} {k : Nat → Nat} {w : World} {vc vk vb : Value} {rc rk rb : List (List Value)} {e1 e2 e3 z1 z2 z3 : Nat} (h1 : Made w n e1 z1 vc rc) (h2 : Made w B1 e2 z2 vk rk) (h3 : Made w B2 e3 z3 vb rb) (hn1 : n ≤ B1) (h12 : B1 ≤ B2)
    (hc : ∀ g, vc.ownBlock = some g → g < B1) (hk : ∀ g, vk.ownBlock = some g → g < B2) :
    Rows (colour3 n k vc vk vb) w 204 e1 z1 vc rc ∧ Rows (colour3 n k vc vk vb) w 206 e2 z2 vk rk ∧ Rows (colour3 n k vc vk vb) w 207 e3 z3 vb rb := by
  refine ⟨h1.colour fun g hg => ?_, h2.colour fun g hg => ?_, h3.colour fun g hg => ?_⟩
  · have := (h1.block g hg).1
    unfold colour3; rw [if_neg (by omega), if_pos hg]
  · have := (h2.block g hg).1
    unfold colour3; rw [if_neg (by omega), if_neg (fun e => by have := hc g e; omega), if_pos hg]
  · have := (h3.block g hg).1
    unfold colour3; rw [if_neg (by omega), if_neg (fun e => by have := hc g e; omega), if_neg (fun e => by have := hk g e; omega), if_pos hg]

theorem below_colour3 {n : Nat} {k : Nat → Nat} {w w' : World} (hn : n = w.heap.size) (h : Below w.heap.size w w') (vc vk vb : Value) (C : Nat → Prop) : Evo k (colour3 n k vc vk vb) C w w' := by
  subst hn
  exact (Evo.of_below (k := k) h).recolour _ (fun _ hi => if_pos hi)
end Go.Proofs.YtfpbkghcjaonlaaGreat

/-
  Other colours for what is no store of the document's volume.
-/
namespace Go.Proofs.YtfpbkghcjaonlaaGreat
open Go.RowKit

section
variable {k : Nat → Nat} {w : World} {n : Nat}
theorem Blk.recol {c b e : Nat} {cs : List Value} (h : Blk k w c b e cs) (hc : c < 204) : Blk (reco n k) w c b e cs := by
  refine ⟨h.1, ?_⟩
  have := h.2
  unfold reco
  split
  · exact this
  · rw [if_neg (by omega)]; exact this
theorem CutsIm.recol {v : Value} {l : List (Int × Int)} (h : CutsIm k w v l) : CutsIm (reco n k) w v l := Rows.recol h (by decide)
theorem IntsIm.recol {v : Value} {l : List Int} (h : IntsIm k w v l) : IntsIm (reco n k) w v l := Rows.recol h (by decide)
theorem MsgIs.recol {m : Msg} {r : List Value} (h : MsgIs k w m r) : MsgIs (reco n k) w m r := by
  obtain ⟨vc, vm, hr, h1, h2⟩ := h
  exact ⟨vc, vm, hr, h1.recol, h2.recol⟩
theorem PostIs.recol {m : Msg × Bool} {r : List Value} (h : PostIs k w m r) : PostIs (reco n k) w m r := by
  obtain ⟨r0, h0, hr⟩ := h
  exact ⟨r0, h0.recol, hr⟩
theorem NetIs.recol {v : Value} {net : List (Msg × Bool)} {rows : List (List Value)} (h : NetIs k w v net rows) : NetIs (reco n k) w v net rows := ⟨h.own.recol (by decide), h.all.imp fun _ _ x => x.recol⟩
theorem YNet.recol {q : Nat} {wi fl : Int} {vSegs vPens : Value} {net : List (Msg × Bool)} (h : YNet k w q wi fl vSegs vPens net) : YNet (reco n k) w q wi fl vSegs vPens net := by
  obtain ⟨vNet, rows, hY, hN⟩ := h.ex
  exact ⟨vNet, rows, hY.recol (by decide), hN.recol⟩
theorem ListsIs.recol {c : Nat} {v : Value} {ls : List (List (Int × Int))} (h : ListsIs k w c v ls) (hc : c < 204) : ListsIs (reco n k) w c v ls := by
  obtain ⟨rows, h1, h2⟩ := h
  exact ⟨rows, h1.recol hc, h2.imp fun l r ⟨x, hr, hx⟩ => ⟨x, hr, hx.recol⟩⟩
theorem MsgsIs.recol {c : Nat} {v : Value} {ms : List Msg} (h : MsgsIs k w c v ms) (hc : c < 204) : MsgsIs (reco n k) w c v ms := by
  obtain ⟨rows, h1, h2⟩ := h
  exact ⟨rows, h1.recol hc, h2.imp fun l r x => x.recol⟩
theorem StoreIs.recol {cs b : Nat} {s : RSeg} (h : StoreIs k w cs b s) (hc : cs < 100) : StoreIs (reco n k) w cs b s := by
  obtain ⟨vE, vL, vN, a, b, c, d⟩ := h.ex
  exact ⟨vE, vL, vN, a.recol (by omega), b.recol (by omega), c.recol (by omega), d.recol (by omega)⟩
theorem PenIs.recol {cp b : Nat} {p : RPen} (h : PenIs k w cp b p) (hc : cp < 100) : PenIs (reco n k) w cp b p := by
  obtain ⟨vF, vS, vV, a, b, c, d⟩ := h.ex
  exact ⟨vF, vS, vV, a.recol (by omega), b.recol (by omega), c.recol (by omega), d.recol (by omega)⟩
theorem YVol.recol {q : Nat} {r : RVol} (h : YVol k w q r) : YVol (reco n k) w q r := by
  obtain ⟨vS, vP, sb, pb, a, b, c⟩ := h.ex
  refine ⟨vS, vP, sb, pb, a.recol, ⟨b.own.recol (by decide), b.l1, b.l2, fun i h1 h2 => ?_⟩, ⟨c.own.recol (by decide), c.l1, c.l2, fun i h1 h2 => ?_⟩⟩
  · have := b.l1
    exact (b.all i h1 h2).recol (by unfold cS; omega)
  · have := c.l2
    exact (c.all i h1 h2).recol (by unfold cP; omega)
end
end Go.Proofs.YtfpbkghcjaonlaaGreat

/-
  sixfoldref: Drop, Copy, end.
-/
namespace Go.Proofs.YtfpbkghcjaonlaaGreat
open Go.RowKit

def goneAt (net : List (Msg × Bool)) (i : Nat) : List (Msg × Bool) := match net[i]? with | some p => net.set i (p.1, true) | none => net
theorem goneAt_of {net : List (Msg × Bool)} {i : Nat} (h : i < net.length) : goneAt net i = net.set i (net[i].1, true) := by unfold goneAt; rw [List.getElem?_eq_getElem h]

theorem NetIs.gone {k : Nat → Nat} {w : World} {b n cap : Nat} {net : List (Msg × Bool)} {rows : List (List Value)} (h : NetIs k w (.slice (some ⟨b, 0, none⟩) n cap) net rows) (i : Nat) (hi : i < net.length) (hk : k b = cNet) :
    ∃ rows', NetIs k (w.setCell ⟨b, i * 10 + 9, none⟩ (.bool true)) (.slice (some ⟨b, 0, none⟩) n cap) (goneAt net i) rows' := by
  have hl := h.all.1
  have ev : Evo k k (fun c => c = cNet) w (w.setCell ⟨b, i * 10 + 9, none⟩ (.bool true)) := (Evo.refl _ _ _).setCell _ _ (fun _ => hk)
  refine ⟨_, h.own.set i 9 (by omega) (by omega) (.bool true), ?_⟩
  rw [goneAt_of hi]
  refine All2.set (h.all.imp fun _ _ x => x.evo ev (by decide)) i ?_
  obtain ⟨r0, ⟨vc, vm, hr, h1, h2⟩, hr2⟩ := h.all.2 i hi (by omega)
  refine ⟨r0, ⟨vc, vm, hr, h1.evo ev (by decide), h2.evo ev (by decide)⟩, ?_⟩
  rw [hr2, hr]; rfl

theorem YVol.with_net {k k' : Nat → Nat} {w w' : World} {q : Nat} {r : RVol} {net : List (Msg × Bool)} {vSegs vPens : Value} {sb pb : List Nat} {C : Nat → Prop} (hS : SegsIs k w vSegs sb r.segs) (hP : PensIs k w vPens pb r.pens) (ev : Evo k k' C w w')
    (hN : YNet k' w' q r.wi r.fl vSegs vPens net) (hC : ∀ c, C c → c = cY ∨ c = cNet) : YVol k' w' q { r with net := net } := by
  refine ⟨vSegs, vPens, sb, pb, hN, hS.evo ev ?_ ?_ ?_, hP.evo ev ?_ ?_ ?_⟩
  · intro h; have := hC _ h; revert this; decide
  · intro h; have := hC _ h; revert this; decide
  · intro c _ _ h; have := hC _ h; unfold cY cNet at this; omega
  · intro h; have := hC _ h; revert this; decide
  · intro h; have := hC _ h; revert this; decide
  · intro c _ _ h; have := hC _ h; unfold cY cNet at this; omega

/-- The error of a number of a message, and where it stands. -/
def placeE (net : List (Msg × Bool)) (x : Int) : Option Nat := if x < 0 then none else placeOf net x.toNat
theorem placeI_some {net : List (Msg × Bool)} {x : Int} {i : Nat} (h : placeE net x = some i) : placeI net x = i ∧ i < net.length := by
  unfold placeE at h
  by_cases h0 : x < 0
  · rw [if_pos h0] at h; simp at h
  · rw [if_neg h0] at h
    unfold placeI; rw [if_neg h0, h]
    exact ⟨rfl, (placeOf_lt net _ _ h).1⟩
theorem placeI_none {net : List (Msg × Bool)} {x : Int} (h : placeE net x = none) : placeI net x = -1 := by
  unfold placeE at h
  unfold placeI
  by_cases h0 : x < 0
  · rw [if_pos h0]
  · rw [if_neg h0] at h; rw [if_neg h0, h]; rfl

def RVol.drop (r : RVol) (x : Int) : RVol := match placeE r.net x with | some i => { r with net := goneAt r.net i } | none => r
def RVol.err12 (r : RVol) (x : Int) : Int := if (placeE r.net x).isSome then 0 else 12

set_option maxHeartbeats 1000000 in
theorem refDrop_any {k : Nat → Nat} {w : World} {q : Nat} {r : RVol} (x : Int) (hx : x ≤ 9223372036854775807) (hY : YVol k w q r) (hok : YOk r) :
    Calls Tryz.prog 47 #[.pointer (some ⟨q, 0, none⟩), .int .i64 x] w fun e w' => e = .returned (.int .i64 (r.err12 x)) ∧ ∃ k', Evo k k' cRef w w' ∧ YVol k' w' q (r.drop x) := by
  obtain ⟨vSegs, vPens, sb, pb, ⟨vNet, rows, hB, hN⟩, hS, hP⟩ := hY.ex
  have hcall := place_any x hx hB hN hok.nl
  cases hp : placeE r.net x with
  | none =>
    rw [placeI_none hp] at hcall
    have HC := hide hcall
    have HE : Hid (r.err12 x = 12 ∧ r.drop x = r) := hide ⟨by unfold RVol.err12; rw [hp]; rfl, by unfold RVol.drop; rw [hp]⟩
    clear hcall hp
    go_enter Tryz.func47, Tryz.ntmps47
    go_wp2_with fail
    refine HC.out.mono ?_
    rintro e1 w1 ⟨rfl, hw⟩
    subst hw
    go_wp2_with fail
    go_ret
    exact ⟨by rw [HE.out.1]; rfl, k, Evo.refl _ _ _, by rw [HE.out.2]; exact hY⟩
  | some i =>
    obtain ⟨e1, hi⟩ := placeI_some hp
    rw [e1] at hcall
    obtain ⟨a, cap, hv, hg⟩ := net_msg hN
    obtain ⟨b, vc, vm, rfl, hkb, _, _, _, _, _, _, _, _, _, h9, hfr, _, _⟩ := hg i hi
    subst hv
    have y2 : w.cell? ⟨q, 2, none⟩ = _ := hB.cell 2
    simp only [List.getElem?_cons_zero, List.getElem?_cons_succ] at y2
    have hf9 := hfr (i * 10 + 9)
    have hln := hok.nl
    obtain ⟨rows', hN'⟩ := hN.gone i hi hkb
    have ev : Evo k k (fun c => c = cNet) w (w.setCell ⟨b, i * 10 + 9, none⟩ (.bool true)) := (Evo.refl _ _ _).setCell _ _ (fun _ => hkb)
    have hY' := YVol.with_net (r := r) hS hP ev ⟨_, rows', hB.evo ev (by decide), hN'⟩ (fun c h => .inr h)
    have HC := hide hcall
    have HE : Hid (r.err12 x = 0 ∧ r.drop x = { r with net := goneAt r.net i }) := hide ⟨by unfold RVol.err12; rw [hp]; rfl, by unfold RVol.drop; rw [hp]⟩
    clear hcall hp hfr hg e1
    go_enter Tryz.func47, Tryz.ntmps47
    go_wp2_with fail
    refine HC.out.mono ?_
    rintro e1 w1 ⟨rfl, hw⟩
    subst hw
    go_wp2_with fail
    go_ret
    exact ⟨by rw [HE.out.1]; rfl, k, ev.mono (fun c h => by subst h; exact ⟨by decide, by decide⟩), by rw [HE.out.2]; exact hY'⟩

def RVol.send (r : RVol) (m : Msg) : RVol := { r with net := sendNet r.fl r.net m }
def RVol.copy (r : RVol) (x : Int) : RVol := match messageAt r.net x with | some m => r.send m | none => r

/-- send, of the volume whole. -/
theorem refSend_any {k : Nat → Nat} {w : World} {q : Nat} {r : RVol} (m : Msg) {vc vm : Value} (hY : YVol k w q r) (hok : r.net.length ≤ 4000000000) (hc : CutsIm k w vc m.cuts) (hm : IntsIm k w vm m.marks) :
    Calls Tryz.prog 67 #[.pointer (some ⟨q, 0, none⟩), .agg #[.int .i64 m.kind, .int .i64 m.frm, .int .i64 m.to_, .int .i64 m.epoch, .int .i64 m.lsn, .int .i64 m.value, .int .i64 m.scl, vc, vm]] w fun e w' => e = .returned (.tuple #[]) ∧
      ∃ k', Evo k k' (fun c => c = cY ∨ c = cNet) w w' ∧ YVol k' w' q (r.send m) := by
  obtain ⟨vSegs, vPens, sb, pb, hNet, hS, hP⟩ := hY.ex
  refine (send_any m hNet hok hc hm).mono ?_
  rintro e w' ⟨rfl, k', ev, hN'⟩
  exact ⟨rfl, k', ev, YVol.with_net hS hP ev hN' (fun c h => h)⟩

theorem cRef_of {c : Nat} (h : c = cY ∨ c = cNet) : cRef c := by rcases h with rfl | rfl <;> exact ⟨by decide, by decide⟩

set_option maxHeartbeats 1000000 in
theorem refCopy_any {k : Nat → Nat} {w : World} {q : Nat} {r : RVol} (x : Int) (hx : x ≤ 9223372036854775807) (hY : YVol k w q r) (hok : YOk r) :
    Calls Tryz.prog 49 #[.pointer (some ⟨q, 0, none⟩), .int .i64 x] w fun e w' => e = .returned (.int .i64 (r.err12 x)) ∧ ∃ k', Evo k k' cRef w w' ∧ YVol k' w' q (r.copy x) := by
  have hY0 := hY
  obtain ⟨vSegs, vPens, sb, pb, ⟨vNet, rows, hB, hN⟩, hS, hP⟩ := hY.ex
  have hcall := place_any x hx hB hN hok.nl
  have hma : messageAt r.net x = (placeE r.net x).bind fun i => r.net[i]?.map (·.1) := by unfold messageAt placeE; split <;> rfl
  cases hp : placeE r.net x with
  | none =>
    rw [placeI_none hp] at hcall
    rw [hp] at hma
    have HC := hide hcall
    have HE : Hid (r.err12 x = 12 ∧ r.copy x = r) := hide ⟨by unfold RVol.err12; rw [hp]; rfl, by unfold RVol.copy; rw [hma]; rfl⟩
    clear hcall hp hma
    go_enter Tryz.func49, Tryz.ntmps49
    go_wp2_with fail
    refine HC.out.mono ?_
    rintro e1 w1 ⟨rfl, hw⟩
    subst hw
    go_wp2_with fail
    go_ret
    exact ⟨by rw [HE.out.1]; rfl, k, Evo.refl _ _ _, by rw [HE.out.2]; exact hY0⟩
  | some i =>
    obtain ⟨e1, hi⟩ := placeI_some hp
    rw [e1] at hcall
    rw [hp] at hma
    simp only [Option.bind_some, List.getElem?_eq_getElem hi, Option.map_some] at hma
    obtain ⟨a, cap, hv, hg⟩ := net_msg hN
    obtain ⟨b, vc, vm, rfl, hkb, q0, q1, q2, q3, q4, q5, q6, q7, q8, _, _, hcc, hmm⟩ := hg i hi
    subst hv
    have y2 : w.cell? ⟨q, 2, none⟩ = _ := hB.cell 2
    simp only [List.getElem?_cons_zero, List.getElem?_cons_succ] at y2
    have hln := hok.nl
    obtain ⟨z0, z1, z2, hz⟩ := Rows.shape hcc
    subst hz
    obtain ⟨x0, x1, x2, hz⟩ := Rows.shape hmm
    subst hz
    have HC := hide hcall
    have HS := hide (refSend_any r.net[i].1 hY0 hok.nl hcc hmm)
    have HE : Hid (r.err12 x = 0 ∧ r.copy x = r.send r.net[i].1) := hide ⟨by unfold RVol.err12; rw [hp]; rfl, by unfold RVol.copy; rw [hma]⟩
    clear hcall hp hg e1 hma
    go_enter Tryz.func49, Tryz.ntmps49
    go_wp2_with fail
    refine HC.out.mono ?_
    rintro e1 w1 ⟨rfl, hw⟩
    subst hw
    go_wp2_with fail
    refine HS.out.mono ?_
    rintro e1 w2 ⟨rfl, k', ev, hY'⟩
    go_wp2_with fail
    go_ret
    exact ⟨by rw [HE.out.1]; rfl, k', ev.mono (fun c h => cRef_of h), by rw [HE.out.2]; exact hY'⟩
end Go.Proofs.YtfpbkghcjaonlaaGreat
