import Derived.Test.YtfpbkghcjaonlaaJ02
/-
  The program: cuts.Copy, a segment's scl and records.
-/
namespace Go.Proofs.Ytfpbkghcjaonlaa
open Go.RowKit

set_option maxHeartbeats 1000000 in
theorem copy_any {k : Nat → Nat} {w : World} {c : Nat} {v : Value} {l : List (Int × Int)} (h : Rows k w c 92 2 v (l.map cutRow)) (hl : l.length ≤ 4000000000) :
    Calls Try.prog 83 #[v] w fun e w' => (∃ z, e = .returned z ∧ Made w' w.heap.size 92 2 z (l.map cutRow)) ∧ Below w.heap.size w w' := by
  obtain ⟨a, cap, rfl, hc⟩ := cuts_cells h
  clear h
  go_enter Try.func83, Try.ntmps83
  go_wp2
  go_loopw [3, 8] (fun o i wr => Below w.heap.size w wr ∧ ∃ j : Nat, i = .int .i64 j ∧ j ≤ l.length ∧ Made wr w.heap.size 92 2 o ((l.take j).map cutRow)) (fun _ i _ => l.length - (intOf i).toNat)
  case atStart => exact ⟨Below.refl _ _, 0, rfl, Nat.zero_le _, Made.nil _ _ _ _⟩
  case round =>
    obtain ⟨hB, j, rfl, hj, hM⟩ := hrel
    have hsz := hB.size
    by_cases hlt : j < l.length
    · obtain ⟨g, rfl, q0, q1⟩ := hc j hlt
      have hgl : g < w.heap.size := World.block_lt_of_cell? w _ q0
      have p0 := (hB.cell (p := ⟨g, j * 2, none⟩) hgl).trans q0
      have p1 := (hB.cell (p := ⟨g, j * 2 + 1, none⟩) hgl).trans q1
      have HR := hide (cutRow_take l j hlt)
      generalize hcn : l[j] = cn at *
      clear hcn q0 q1
      have hM2 := hM.kept (((Below.refl _ _).alloc (Nat.le_refl _) (Obj.cells #[.int .i64 cn.1, .int .i64 cn.2] 92)).alloc (by simp) (Obj.cells #[.int .i64 cn.1, .int .i64 cn.2] 92))
      go_wp2_with (at_builtin; go_must (refine wpList_append_made (.tmp 12) (.tmp 14) 63 92 _ 2 16 _ ((l.take j).map cutRow) j (cutRow cn) w.heap.size ⟨wr.heap.size + 1, 0, none⟩ 1 (by simp; omega) rfl rfl Try.underlying63 Try.infoCut rfl (by decide) rfl rfl hM2 rfl (cell_two_new' _ _ _ _) (by simp [cutRow, Value.oneCell']) (by simp only [maxLen]; omega) (by omega) (by simp; omega) ?_; intro ao cap2 w2 hM3 hB3))
      go_roundw
      case rel => exact ⟨((hB.alloc (by omega) _).alloc (by simp; omega) _).trans hB3, j + 1, by go_num, by omega, by rw [HR.out]; simpa using hM3⟩
      case measure => simp [intOf]; omega
    · have hje : j = l.length := by omega
      rw [hje, List.take_length] at hM
      clear hje
      go_wp2
      go_ret
      exact ⟨⟨_, rfl, hM⟩, hB⟩

/-- A segment of the program. -/
structure XSeg where
  up : Bool
  epoch : Int
  cuts : List (Int × Int)
  places : List (Int × Int × Int)

def placeRow (p : Int × Int × Int) : List Value := [.int .i64 p.1, .int .i64 p.2.1, .int .i64 p.2.2]
def xsegRow (s : XSeg) (vc : Value) : List Value := [.bool s.up, .int .i64 s.epoch, vc] ++ (s.places.map placeRow).flatten

/-- The segment's cells lie at offset o of block b. -/
structure SegAt (w : World) (b o : Nat) (s : XSeg) (vc : Value) : Prop where
  cell : ∀ j, j < 123 → w.cell? ⟨b, o + j, none⟩ = (xsegRow s vc)[j]?
  len : s.places.length = 40

theorem placeRows_len (l : List (Int × Int × Int)) : ∀ r ∈ l.map placeRow, r.length = 3 := by
  intro r hr
  obtain ⟨p, _, rfl⟩ := List.mem_map.1 hr
  rfl

theorem SegAt.lt {w : World} {b o : Nat} {s : XSeg} {vc : Value} (h : SegAt w b o s vc) : b < w.heap.size := World.block_lt_of_cell? w ⟨b, o + 0, none⟩ (h.cell 0 (by omega))
theorem SegAt.below {w w' : World} {b o : Nat} {s : XSeg} {vc : Value} (h : SegAt w b o s vc) (hb : Below w.heap.size w w') : SegAt w' b o s vc :=
  ⟨fun j hj => (hb.cell (p := ⟨b, o + j, none⟩) h.lt).trans (h.cell j hj), h.len⟩
theorem SegAt.place {w : World} {b o : Nat} {s : XSeg} {vc : Value} (h : SegAt w b o s vc) (i : Nat) (hi : i < s.places.length) :
    w.cell? ⟨b, o + 3 + i * 3, none⟩ = some (.int .i64 s.places[i].1) ∧ w.cell? ⟨b, o + 3 + i * 3 + 1, none⟩ = some (.int .i64 s.places[i].2.1) ∧ w.cell? ⟨b, o + 3 + i * 3 + 2, none⟩ = some (.int .i64 s.places[i].2.2) := by
  have hl := h.len
  have f : ∀ j, j < 3 → w.cell? ⟨b, o + 3 + i * 3 + j, none⟩ = (placeRow s.places[i])[j]? := fun j hj => by
    have := h.cell (3 + (i * 3 + j)) (by omega)
    rw [show o + (3 + (i * 3 + j)) = o + 3 + i * 3 + j from by omega] at this
    rw [this]
    unfold xsegRow
    rw [List.getElem?_append_right (by simp), show 3 + (i * 3 + j) - [Value.bool s.up, .int .i64 s.epoch, vc].length = i * 3 + j from by simp]
    rw [flatten_get (placeRows_len _) i j (by simpa using hi) hj]
    simp
  exact ⟨f 0 (by omega), f 1 (by omega), f 2 (by omega)⟩

def xsclUp (l : List (Int × Int × Int)) : Nat → Nat → Nat
  | 0, n => n
  | f + 1, n => match l[n]? with | some p => if p.1 == 2 then xsclUp l f (n + 1) else n | none => n
def xscl (s : XSeg) : Nat := xsclUp s.places 40 0
theorem xsclUp_step (l : List (Int × Int × Int)) (f n : Nat) (h : n < l.length) : xsclUp l (f + 1) n = if l[n].1 == 2 then xsclUp l f (n + 1) else n := by
  simp only [xsclUp]; rw [List.getElem?_eq_getElem h]

set_option maxHeartbeats 1000000 in
theorem xscl_any {w : World} {b o : Nat} {s : XSeg} {vc : Value} (h : SegAt w b o s vc) :
    Calls Try.prog 81 #[.pointer (some ⟨b, o, none⟩)] w fun e w' => e = .returned (.int .i64 (xscl s)) ∧ w' = w := by
  have hl := h.len
  have hp := h.place
  clear h
  go_enter Try.func81, Try.ntmps81
  go_wp2
  go_loop [3] (fun i => ∃ j : Nat, j ≤ 40 ∧ i = .int .i64 j ∧ Hid (xscl s = xsclUp s.places (40 - j) j)) (fun i => 40 - (intOf i).toNat)
  case atStart => exact ⟨0, by omega, rfl, hide rfl⟩
  case round =>
    obtain ⟨j, hj, rfl, hx⟩ := hrel
    by_cases hlt : j < 40
    · have hd : decide ((j : Int) < 40) = true := by simp; omega
      obtain ⟨q0, _, _⟩ := hp j (by omega)
      have hs := xsclUp_step s.places (40 - (j + 1)) j (by omega)
      rw [show 40 - (j + 1) + 1 = 40 - j from by omega] at hs
      have hx' := hx.out
      rw [hs] at hx'
      clear hs hx
      cases hst : (s.places[j].1 == 2)
      · rw [hst] at hx'
        have HX := hide hx'
        clear hx'
        go_wp2
        go_ret
        exact ⟨by rw [HX.out]; rfl, rfl⟩
      · rw [hst] at hx'
        have HX := hide hx'
        clear hx'
        go_wp2
        go_round
        case rel => exact ⟨j + 1, by omega, by go_num, HX⟩
        case measure => simp [intOf]; omega
    · have hd : decide ((j : Int) < 40) = false := by simp; omega
      have HX : Hid (xscl s = j) := hide (by rw [hx.out, show 40 - j = 0 from by omega]; rfl)
      clear hx
      go_wp2
      go_ret
      exact ⟨by rw [HX.out]; rfl, rfl⟩
end Go.Proofs.Ytfpbkghcjaonlaa

/-
  The program: a segment's records.
-/
namespace Go.Proofs.Ytfpbkghcjaonlaa
open Go.RowKit

theorem Try.infoPlaceSize : (Try.prog.info? 80).map (·.size) = some 3 := by kernel_rfl
theorem Try.infoPlacesSize : (Try.prog.info? 81).map (·.size) = some 120 := by kernel_rfl

theorem flatten_row {rows : List (List Value)} {size : Nat} (h : ∀ r ∈ rows, r.length = size) (i : Nat) (hi : i < rows.length) : (rows.flatten.drop (i * size)).take size = rows[i] := by
  induction rows generalizing i with
  | nil => simp at hi
  | cons r rs ih =>
    have hr := h r List.mem_cons_self
    cases i with
    | zero => simp [← hr]
    | succ i =>
      have e1 : (i + 1) * size = r.length + i * size := by rw [hr, Nat.add_mul]; omega
      simp only [List.flatten_cons, List.getElem_cons_succ]
      rw [e1, List.drop_length_add_append]
      exact ih (fun x hx => h x (List.mem_cons_of_mem _ hx)) i (by simpa using hi)

theorem run_index_place (pl : List (Int × Int × Int)) (hl : pl.length = 40) (j : Nat) (hj : j < pl.length) (w : World) :
    (Instr.index 81 (.agg (pl.map placeRow).flatten.toArray) (.int .i64 j)).run Try.prog w = .ok (.agg #[.int .i64 pl[j].1, .int .i64 pl[j].2.1, .int .i64 pl[j].2.2]) w := by
  cases hq : Try.prog.info? 80 with
  | none => have := Try.infoPlaceSize; rw [hq] at this; simp at this
  | some i =>
    have hs : i.size = 3 := by have := Try.infoPlaceSize; rw [hq] at this; simpa using this
    have hrow := flatten_row (placeRows_len pl) j (by simpa using hj)
    have h40 : j < 40 := by omega
    have hr2 : (pl.map placeRow)[j]'(by simpa using hj) = placeRow pl[j] := by simp
    rw [hr2] at hrow
    simp [Instr.index, asIntOf, run_underlying Try.underlying81, part, isAgg, run_underlying Try.underlying80, sizeOf, typeInfo, hq, hs, h40, hrow]
    rfl

/-- The records of one state among the first n places. -/
def xrecsUp (l : List (Int × Int × Int)) (st : Int) (n : Nat) : List Ent := (List.range n).filterMap fun (i : Nat) => l[i]?.bind fun p => if p.1 == st then some ⟨(i : Int) + 1, p.2.1, p.2.2, false, false⟩ else none
theorem xrecsUp_succ (l : List (Int × Int × Int)) (st : Int) (n : Nat) (h : n < l.length) : xrecsUp l st (n + 1) = xrecsUp l st n ++ (if l[n].1 == st then [⟨(n : Int) + 1, l[n].2.1, l[n].2.2, false, false⟩] else []) := by
  unfold xrecsUp
  rw [List.range_succ, List.filterMap_append]
  congr 1
  simp only [List.filterMap_cons, List.filterMap_nil, List.getElem?_eq_getElem h, Option.bind_some]
  cases (l[n].1 == st) <;> simp
theorem xrecsUp_len (l : List (Int × Int × Int)) (st : Int) (n : Nat) : (xrecsUp l st n).length ≤ n := by
  unfold xrecsUp
  exact Nat.le_trans (List.length_filterMap_le _ _) (by simp)

set_option maxRecDepth 100000 in
set_option maxHeartbeats 4000000 in
theorem xrecords_any {w : World} {b o : Nat} {s : XSeg} {vc : Value} (st : Int) (h : SegAt w b o s vc) :
    Calls Try.prog 84 #[.pointer (some ⟨b, o, none⟩), .int .i64 st] w fun e w' => (∃ z, e = .returned z ∧ Made w' w.heap.size 70 3 z ((xrecsUp s.places st 40).map recRow)) ∧ Below w.heap.size w w' := by
  have hl := h.len
  have hrange : w.rangeAt b (o + 3) (s.places.map placeRow).flatten := fun j v hv => by
    have hlen := flatten_len (placeRows_len s.places)
    have hj : j < 120 := by
      have := (List.getElem?_eq_some_iff.1 hv).1
      rw [hlen] at this; simp [hl] at this; omega
    rw [show o + 3 + j = o + (3 + j) from by omega, h.cell (3 + j) (by omega)]
    unfold xsegRow
    rw [List.getElem?_append_right (by simp), show 3 + j - [Value.bool s.up, .int .i64 s.epoch, vc].length = j from by simp]
    exact hv
  have hix := fun (j : Nat) (hj : j < s.places.length) (W : World) => run_index_place s.places hl j hj W
  have HIX := hide hix
  have hsz120 : (Try.prog.info? 81).map (·.size) = some (s.places.map placeRow).flatten.length := by
    rw [Try.infoPlacesSize, flatten_len (placeRows_len s.places)]; simp [hl]
  have HSZ := hide hsz120
  have HRG := hide hrange
  clear hix hsz120 hrange h
  generalize hfl : (s.places.map placeRow).flatten = fl at *
  have HFL := hide hfl
  clear hfl
  go_enter Try.func84, Try.ntmps84
  go_wp2_with (refine wpList_load_mid rfl 81 (.tmp 10) rfl b (o + 3) rfl fl _ HRG.out Try.underlying81 rfl HSZ.out ?_)
  go_loopw [5, 12] (fun z i wr => Below w.heap.size w wr ∧ ∃ j : Nat, i = .int .i64 j ∧ j ≤ 40 ∧ Made wr w.heap.size 70 3 z ((xrecsUp s.places st j).map recRow)) (fun _ i _ => 40 - (intOf i).toNat)
  case atStart => exact ⟨Below.refl _ _, 0, rfl, by omega, Made.nil _ _ _ _⟩
  case round =>
    obtain ⟨hB, j, rfl, hj, hM⟩ := hrel
    have hsz := hB.size
    by_cases hlt : j < 40
    · have hd : decide ((j : Int) < 40) = true := by simp; omega
      have hx := fun W => HIX.out j (by omega) W
      have hs := xrecsUp_succ s.places st j (by omega)
      have hrl := xrecsUp_len s.places st j
      generalize hp0 : s.places[j].1 = p0 at *
      generalize hp1 : s.places[j].2.1 = p1 at *
      generalize hp2 : s.places[j].2.2 = p2 at *
      clear hp0 hp1 hp2
      cases hst : (p0 == st)
      · rw [hst] at hs
        have HS := hide hs
        clear hs
        go_wp2_with fail
        go_roundw
        case rel => exact ⟨hB.alloc (by omega) _, j + 1, by go_num, by omega, by rw [HS.out]; simpa using hM.kept ((Below.refl _ _).alloc (Nat.le_refl _) _)⟩
        case measure => simp [intOf]; omega
      · rw [hst] at hs
        have HS := hide hs
        clear hs
        have hM2 := hM.kept (((Below.refl _ _).alloc (Nat.le_refl _) (Obj.cells #[.int .i64 p0, .int .i64 p1, .int .i64 p2] 80)).alloc (by simp) (Obj.cells #[.int .i64 ((j : Int) + 1), .int .i64 p1, .int .i64 p2] 70))
        go_wp2_with (at_builtin; go_must (refine wpList_append_made (.tmp 20) (.tmp 28) 64 70 _ 3 24 _ ((xrecsUp s.places st j).map recRow) (xrecsUp s.places st j).length (recRow ⟨(j : Int) + 1, p1, p2, false, false⟩) w.heap.size ⟨wr.heap.size + 1, 0, none⟩ 1 (by simp) rfl rfl Try.underlying64 Try.infoRecord rfl (by decide) rfl rfl hM2 rfl (cell_two_new' _ _ _ _) (by simp [recRow, Value.oneCell']) (by simp only [maxLen]; omega) (by omega) (by simp; omega) ?_; intro ao cap2 w2 hM3 hB3))
        go_roundw
        case rel => exact ⟨((hB.alloc (by omega) _).alloc (by simp; omega) _).trans hB3, j + 1, by go_num, by omega, by rw [HS.out]; simpa using hM3⟩
        case measure => simp [intOf]; omega
    · have hje : j = 40 := by omega
      have hd : decide ((j : Int) < 40) = false := by simp; omega
      rw [hje] at hM
      clear hje
      go_wp2
      go_ret
      exact ⟨⟨_, rfl, hM⟩, hB⟩
end Go.Proofs.Ytfpbkghcjaonlaa

/-
  The program: a segment's State; Segment.
-/
namespace Go.Proofs.Ytfpbkghcjaonlaa
open Go.RowKit

/-- What State hands back: three lists of its own, in three blocks. -/
def XState (B0 : Nat) (w' : World) (s : XSeg) (v : Value) : Prop :=
  ∃ vc vk vb B1 B2, v = .agg #[.bool s.up, .int .i64 s.epoch, .int .i64 (xscl s), vc, vk, vb] ∧ B0 ≤ B1 ∧ B1 ≤ B2 ∧ (∀ g, vc.ownBlock = some g → g < B1) ∧ (∀ g, vk.ownBlock = some g → g < B2) ∧
    Made w' B0 92 2 vc (s.cuts.map cutRow) ∧ Made w' B1 70 3 vk ((xrecsUp s.places 2 40).map recRow) ∧ Made w' B2 70 3 vb ((xrecsUp s.places 1 40).map recRow)

theorem Made.block {w : World} {B e size : Nat} {v : Value} {rows : List (List Value)} (h : Made w B e size v rows) : ∀ g, v.ownBlock = some g → B ≤ g ∧ g < w.heap.size := h.2.lt

set_option maxHeartbeats 4000000 in
theorem state_any {k : Nat → Nat} {w : World} {b o : Nat} {s : XSeg} {vc0 : Value} (h : SegAt w b o s vc0) (hc : CutsIm k w vc0 s.cuts) (hcl : s.cuts.length ≤ 4000000000) :
    Calls Try.prog 68 #[.pointer (some ⟨b, o, none⟩)] w fun e w' => (∃ v, e = .returned v ∧ XState w.heap.size w' s v) ∧ Below w.heap.size w w' := by
  have hbl := h.lt
  have s0 : w.cell? ⟨b, o, none⟩ = some (.bool s.up) := h.cell 0 (by omega)
  have s1 : w.cell? ⟨b, o + 1, none⟩ = some (.int .i64 s.epoch) := h.cell 1 (by omega)
  have s2 : w.cell? ⟨b, o + 2, none⟩ = some vc0 := h.cell 2 (by omega)
  have HC : Hid (∀ W, Below w.heap.size w W → Calls Try.prog 81 #[.pointer (some ⟨b, o, none⟩)] W fun e w' => e = .returned (.int .i64 (xscl s)) ∧ w' = W) := hide fun W hW => xscl_any (h.below hW)
  have HP : Hid (∀ W, Below w.heap.size w W → Calls Try.prog 83 #[vc0] W fun e w' => (∃ z, e = .returned z ∧ Made w' W.heap.size 92 2 z (s.cuts.map cutRow)) ∧ Below W.heap.size W w') := hide fun W hW => copy_any (hc.evo (Evo.of_below (C := noC) hW) (noC_not _)) hcl
  have HR : Hid (∀ (st : Int) W, Below w.heap.size w W → Calls Try.prog 84 #[.pointer (some ⟨b, o, none⟩), .int .i64 st] W fun e w' => (∃ z, e = .returned z ∧ Made w' W.heap.size 70 3 z ((xrecsUp s.places st 40).map recRow)) ∧ Below W.heap.size W w') := hide fun st W hW => xrecords_any st (h.below hW)
  clear h hc
  go_enter Try.func68, Try.ntmps68
  go_wp2_with fail
  go_region_held3 (fun w' => w'.cell? ⟨b, o, none⟩ = some (.bool s.up) ∧ w'.cell? ⟨b, o + 1, none⟩ = some (.int .i64 s.epoch)) (go_keep) (fail)
  obtain ⟨W, hW⟩ : ∃ W, W = ((w.alloc (Obj.cells #[.bool false, .int .i64 0, .int .i64 0, .slice none 0 0, .slice none 0 0, .slice none 0 0] 66)).alloc (Obj.cells #[.bool s.up, .int .i64 s.epoch, .int .i64 0, .slice none 0 0, .slice none 0 0, .slice none 0 0] 66)).drew := ⟨_, rfl⟩
  have hB0 : Below w.heap.size w W := by rw [hW]; exact (((Below.refl _ _).alloc (Nat.le_refl _) _).alloc (by simp) _).drew
  have ho0 : W.heap[w.heap.size + 1]? = some (.cells #[.bool s.up, .int .i64 s.epoch, .int .i64 0, .slice none 0 0, .slice none 0 0, .slice none 0 0] 66 (0, 0)) := by rw [hW]; exact heap_alloc2_new w _ _
  have hr0 : W.heap[w.heap.size]? = some (.cells #[.bool false, .int .i64 0, .int .i64 0, .slice none 0 0, .slice none 0 0, .slice none 0 0] 66 (0, 0)) := by rw [hW]; exact heap_alloc2_old w _ _
  rw [← hW]
  have HO := hide ho0
  have HR0 := hide hr0
  obtain ⟨d0, d1, d2, d3, d4, d5, d6, d7, d8, d9, d10, d11⟩ := cells6 ho0
  clear hW ho0 hr0
  have hsz := hB0.size
  have t2 := (hB0.cell (p := ⟨b, o + 2, none⟩) hbl).trans s2
  -- the Scl
  have HK := hide (HC.out _ hB0)
  go_wp2_with fail
  refine HK.out.mono ?_
  rintro e1 w1 ⟨rfl, hw1⟩
  subst hw1
  clear HK
  have hBa := hB0.setCell (p := ⟨w.heap.size + 1, 2, none⟩) (by simp) (.int .i64 (xscl s))
  have HOa := hide (heap_setCell_same w1 (w.heap.size + 1) 2 _ _ (.int .i64 (xscl s)) HO.out)
  have HRa := hide ((heap_setCell_other w1 ⟨w.heap.size + 1, 2, none⟩ w.heap.size (.int .i64 (xscl s)) (by simp)).trans HR0.out)
  have hsa := hBa.size
  -- the cuts
  have HK := hide (HP.out _ hBa)
  go_wp2_with fail
  refine HK.out.mono ?_
  rintro e1 w2 ⟨⟨zc, rfl, hk2⟩, hb2⟩
  clear HK d0 d1 d2 d3 d4 d5 d6 d7 d8 d9 d10 d11 t2
  obtain ⟨ca, cc, hcf⟩ := hk2.form
  simp only [List.length_map] at hcf
  subst hcf
  have hlo2 : w.heap.size + 1 < w1.heap.size := (Array.getElem?_eq_some_iff.1 HO.out).1
  have hz1 : (w1.setCell ⟨w.heap.size + 1, 2, none⟩ (.int .i64 (xscl s))).heap.size = w1.heap.size := by simp [World.setCell]
  have hB2 : Below w.heap.size w w2 := hBa.trans (hb2.mono (by omega))
  have o2 := (hb2.block (w.heap.size + 1) (by omega)).trans HOa.out
  have r2 := (hb2.block w.heap.size (by omega)).trans HRa.out
  simp only [List.setIfInBounds_toArray, List.set_cons_succ, List.set_cons_zero] at o2
  obtain ⟨d0, d1, d2, d3, d4, d5, d6, d7, d8, d9, d10, d11⟩ := cells6 o2
  have HO2 := hide o2
  have HR2 := hide r2
  clear o2 r2
  have hsz2 := hb2.size
  -- the kept ones
  have hBb := hB2.setCell (p := ⟨w.heap.size + 1, 3, none⟩) (by simp) (.slice ca s.cuts.length cc)
  have HOb := hide (heap_setCell_same w2 (w.heap.size + 1) 3 _ _ (.slice ca s.cuts.length cc) HO2.out)
  have HRb := hide ((heap_setCell_other w2 ⟨w.heap.size + 1, 3, none⟩ w.heap.size (.slice ca s.cuts.length cc) (by simp)).trans HR2.out)
  have HK := hide (HR.out 2 _ hBb)
  go_wp2_with fail
  refine HK.out.mono ?_
  rintro e1 w3 ⟨⟨zk, rfl, hk3⟩, hb3⟩
  clear HK d0 d1 d2 d3 d4 d5 d6 d7 d8 d9 d10 d11
  obtain ⟨ka, kc, hkf⟩ := hk3.form
  simp only [List.length_map] at hkf
  subst hkf
  have hz2 : (w2.setCell ⟨w.heap.size + 1, 3, none⟩ (.slice ca s.cuts.length cc)).heap.size = w2.heap.size := by simp [World.setCell]
  have hB3 : Below w.heap.size w w3 := hBb.trans (hb3.mono (by omega))
  have o3 := (hb3.block (w.heap.size + 1) (by omega)).trans HOb.out
  have r3 := (hb3.block w.heap.size (by omega)).trans HRb.out
  simp only [List.setIfInBounds_toArray, List.set_cons_succ, List.set_cons_zero] at o3
  obtain ⟨d0, d1, d2, d3, d4, d5, d6, d7, d8, d9, d10, d11⟩ := cells6 o3
  have HO3 := hide o3
  have HR3 := hide r3
  clear o3 r3
  have hsz3 := hb3.size
  -- the buffer
  have hBc := hB3.setCell (p := ⟨w.heap.size + 1, 4, none⟩) (by simp) (.slice ka (xrecsUp s.places 2 40).length kc)
  have HOc := hide (heap_setCell_same w3 (w.heap.size + 1) 4 _ _ (.slice ka (xrecsUp s.places 2 40).length kc) HO3.out)
  have HRc := hide ((heap_setCell_other w3 ⟨w.heap.size + 1, 4, none⟩ w.heap.size (.slice ka (xrecsUp s.places 2 40).length kc) (by simp)).trans HR3.out)
  have HK := hide (HR.out 1 _ hBc)
  go_wp2_with fail
  refine HK.out.mono ?_
  rintro e1 w4 ⟨⟨zb, rfl, hk4⟩, hb4⟩
  clear HK d0 d1 d2 d3 d4 d5 d6 d7 d8 d9 d10 d11
  obtain ⟨ba, bc, hbf⟩ := hk4.form
  simp only [List.length_map] at hbf
  subst hbf
  have hz3 : (w3.setCell ⟨w.heap.size + 1, 4, none⟩ (.slice ka (xrecsUp s.places 2 40).length kc)).heap.size = w3.heap.size := by simp [World.setCell]
  have hB4 : Below w.heap.size w w4 := hBc.trans (hb4.mono (by omega))
  have o4 := (hb4.block (w.heap.size + 1) (by omega)).trans HOc.out
  have r4 := (hb4.block w.heap.size (by omega)).trans HRc.out
  simp only [List.setIfInBounds_toArray, List.set_cons_succ, List.set_cons_zero] at o4
  obtain ⟨d0, d1, d2, d3, d4, d5, d6, d7, d8, d9, d10, d11⟩ := cells6 o4
  obtain ⟨g0, g1, g2, g3, g4, g5, g6, g7, g8, g9, g10, g11⟩ := cells6 r4
  have HO4 := hide o4
  have HR4 := hide r4
  clear o4 r4
  have hsz4 := hb4.size
  go_wp2_with fail
  rw [hz1] at hk2 hb2 hsz2
  rw [hz2] at hk3 hb3 hsz3
  rw [hz3] at hk4 hb4 hsz4
  refine bodyPost_ret (v := .agg #[.bool s.up, .int .i64 s.epoch, .int .i64 (xscl s), .slice ca s.cuts.length cc, .slice ka (xrecsUp s.places 2 40).length kc, .slice ba (xrecsUp s.places 1 40).length bc]) (by simp [results, Try.results68, go_sem, g0, g1, g2, g3, g4, g5]) rfl ⟨⟨_, rfl, _, _, _, w2.heap.size, w3.heap.size, rfl, by omega, by omega, fun g hg => (hk2.block g hg).2, fun g hg => (hk3.block g hg).2, ?_, ?_, ?_⟩, ?_⟩
  · refine (hk2.keeps fun d hd hd2 => ?_).weaken (by omega)
    rw [other6 (by omega), heap_setCell_other _ _ _ _ (by simp; omega), hb4.block d (by omega), heap_setCell_other _ _ _ _ (by simp; omega), hb3.block d (by omega), heap_setCell_other _ _ _ _ (by simp; omega)]
  · refine hk3.keeps fun d hd hd2 => ?_
    rw [other6 (by omega), heap_setCell_other _ _ _ _ (by simp; omega), hb4.block d (by omega), heap_setCell_other _ _ _ _ (by simp; omega)]
  · refine hk4.keeps fun d hd hd2 => ?_
    rw [other6 (by omega), heap_setCell_other _ _ _ _ (by simp; omega)]
  · exact below6 (hB4.setCell (p := ⟨w.heap.size + 1, 5, none⟩) (by simp) _) (Nat.le_refl _) _ _ _ _ _ _
end Go.Proofs.Ytfpbkghcjaonlaa

/-
  The program: Segment; Writer, Message, Flight where there is none.
-/
namespace Go.Proofs.Ytfpbkghcjaonlaa
open Go.RowKit

def ZSeg : Value := .tuple #[.agg #[.bool false, .int .i64 0, .int .i64 0, .slice none 0 0, .slice none 0 0, .slice none 0 0], .int .i64 11]

set_option maxHeartbeats 1000000 in
theorem isSegment_any (w : World) (n : Int) : Calls Try.prog 59 #[.int .i64 n] w fun e w' => e = .returned (.bool (decide (0 ≤ n) && decide (n < 6))) ∧ w' = w := by
  by_cases h0 : 0 ≤ n
  · have d0 : decide (0 ≤ n) = true := by simpa using h0
    go_enter Try.func59, Try.ntmps59
    go_wp2
    go_ret
    exact ⟨by simp [d0], rfl⟩
  · have d0 : decide (0 ≤ n) = false := by simpa using h0
    go_enter Try.func59, Try.ntmps59
    go_wp2
    go_ret
    exact ⟨by simp, rfl⟩

set_option maxHeartbeats 1000000 in
theorem xsegment_no (w : World) (b : Nat) (n : Int) (hn : n < 0 ∨ 5 < n) :
    Calls Try.prog 35 #[.pointer (some ⟨b, 0, none⟩), .int .i64 n] w fun e w' => e = .returned ZSeg ∧ Below w.heap.size w w' := by
  have hv : (decide (0 ≤ n) && decide (n < 6)) = false := by rw [Bool.and_eq_false_iff]; simp; omega
  have HC := hide (fun W => isSegment_any W n)
  rw [hv] at HC
  clear hv hn
  go_enter Try.func35, Try.ntmps35
  go_wp2_with fail
  refine (HC.out _).mono ?_
  rintro e w1 ⟨rfl, rfl⟩
  go_wp2_with fail
  exact bodyPost_ret (v := ZSeg) (by simp [ZSeg, results, Try.results35, go_sem]) rfl ⟨rfl, (Below.refl _ _).alloc (Nat.le_refl _) _⟩

set_option maxHeartbeats 4000000 in
theorem xsegment_in {k : Nat → Nat} {w : World} {b : Nat} {s : XSeg} {vc0 : Value} (i : Nat) (hi : i < 6) (h : SegAt w b (3 + i * 123) s vc0) (hc : CutsIm k w vc0 s.cuts) (hcl : s.cuts.length ≤ 4000000000) :
    Calls Try.prog 35 #[.pointer (some ⟨b, 0, none⟩), .int .i64 i] w fun e w' => (∃ v, e = .returned (.tuple #[v, .int .i64 0]) ∧ XState w.heap.size w' s v) ∧ Below w.heap.size w w' := by
  have hv : (decide (0 ≤ (i : Int)) && decide ((i : Int) < 6)) = true := by simp; omega
  have HI := hide (fun W => isSegment_any W (i : Int))
  rw [hv] at HI
  have HS : Hid (∀ W, Below w.heap.size w W → Calls Try.prog 68 #[.pointer (some ⟨b, 3 + i * 123, none⟩)] W fun e w' => (∃ v, e = .returned v ∧ XState W.heap.size w' s v) ∧ Below W.heap.size W w') := hide fun W hW => state_any (h.below hW) (hc.evo (Evo.of_below (C := noC) hW) (noC_not _)) hcl
  clear hv h hc
  go_enter Try.func35, Try.ntmps35
  go_wp2_with fail
  refine (HI.out _).mono ?_
  rintro e w1 ⟨rfl, hw1⟩
  subst hw1
  go_wp2_with fail
  have hB0 : Below w.heap.size w (w.alloc (Obj.cells #[.bool false, .int .i64 0, .int .i64 0, .slice none 0 0, .slice none 0 0, .slice none 0 0] 66)) := (Below.refl _ _).alloc (Nat.le_refl _) _
  refine (HS.out _ hB0).mono ?_
  rintro e w1 ⟨⟨v, rfl, hX⟩, hb1⟩
  have hs1 := hb1.size
  simp only [World.size_alloc] at hs1
  have hr1 := (hb1.block w.heap.size (by simp)).trans (heap_alloc_new w _)
  obtain ⟨g0, g1, g2, g3, g4, g5, g6, g7, g8, g9, g10, g11⟩ := cells6 hr1
  have hB1 : Below w.heap.size w w1 := hB0.trans (hb1.mono (by simp))
  have hX' := hX
  obtain ⟨vc, vk, vb, B1, B2, rfl, hl1, hl2, hlc, hlk, hm1, hm2, hm3⟩ := hX
  obtain ⟨ca, cc, hcf⟩ := hm1.form
  obtain ⟨ka, kc, hkf⟩ := hm2.form
  obtain ⟨ba, bc, hbf⟩ := hm3.form
  subst hcf hkf hbf
  clear hr1 hb1 HS HI hX'
  simp only [World.size_alloc] at hl1 hm1
  go_wp2_with fail
  refine bodyPost_ret (v := .tuple #[.agg #[.bool s.up, .int .i64 s.epoch, .int .i64 (xscl s), .slice ca (s.cuts.map cutRow).length cc, .slice ka ((xrecsUp s.places 2 40).map recRow).length kc, .slice ba ((xrecsUp s.places 1 40).map recRow).length bc], .int .i64 0]) (by simp [results, Try.results35, go_sem, g0, g1, g2, g3, g4, g5]) rfl ⟨⟨_, rfl, ⟨_, _, _, B1, B2, rfl, by omega, hl2, hlc, hlk, ?_, ?_, ?_⟩⟩, ?_⟩
  · exact (hm1.keeps fun d hd hd2 => other6 (by omega) _ _ _ _ _ _).weaken (by omega)
  · exact hm2.keeps fun d hd hd2 => other6 (by omega) _ _ _ _ _ _
  · exact hm3.keeps fun d hd hd2 => other6 (by omega) _ _ _ _ _ _
  · exact below6 hB1 (Nat.le_refl _) _ _ _ _ _ _

theorem below9 {B : Nat} {a w : World} (h : Below B a w) {b : Nat} (hb : B ≤ b) (v0 v1 v2 v3 v4 v5 v6 v7 v8 : Value) :
    Below B a (((((((((w.setCell ⟨b, 0, none⟩ v0).setCell ⟨b, 1, none⟩ v1).setCell ⟨b, 2, none⟩ v2).setCell ⟨b, 3, none⟩ v3).setCell ⟨b, 4, none⟩ v4).setCell ⟨b, 5, none⟩ v5).setCell ⟨b, 6, none⟩ v6).setCell ⟨b, 7, none⟩ v7).setCell ⟨b, 8, none⟩ v8) := by
  have h6 := below6 h hb v0 v1 v2 v3 v4 v5
  exact ((h6.setCell (p := ⟨b, 6, none⟩) hb v6).setCell (p := ⟨b, 7, none⟩) hb v7).setCell (p := ⟨b, 8, none⟩) hb v8

def ZMsg : Value := .tuple #[.agg #[.int .i64 0, .int .i64 0, .int .i64 0, .int .i64 0, .int .i64 0, .int .i64 0, .int .i64 0, .slice none 0 0, .slice none 0 0], .int .i64 12]

set_option maxHeartbeats 1000000 in
theorem isWriter_any (w : World) (b : Nat) (n : Int) (a : Option Addr) (len cap : Nat) (hc : w.cell? ⟨b, 741, none⟩ = some (.slice a len cap)) :
    Calls Try.prog 41 #[.pointer (some ⟨b, 0, none⟩), .int .i64 n] w fun e w' => e = .returned (.bool (decide (1 ≤ n) && decide (n ≤ (len : Int)))) ∧ w' = w := by
  by_cases h0 : 1 ≤ n
  · have d0 : decide (1 ≤ n) = true := by simpa using h0
    go_enter Try.func41, Try.ntmps41
    go_wp2
    go_ret
    exact ⟨by simp [d0], rfl⟩
  · have d0 : decide (1 ≤ n) = false := by simpa using h0
    go_enter Try.func41, Try.ntmps41
    go_wp2
    go_ret
    exact ⟨by simp, rfl⟩

set_option maxHeartbeats 1000000 in
theorem xwriter_no (w : World) (b : Nat) (n : Int) (a : Option Addr) (len cap : Nat) (hc : w.cell? ⟨b, 741, none⟩ = some (.slice a len cap)) (hn : n < 1 ∨ (len : Int) < n) :
    Calls Try.prog 66 #[.pointer (some ⟨b, 0, none⟩), .int .i64 n] w fun e w' => e = .returned (.tuple #[.agg #[.int .i64 0, .int .i64 0, .int .i64 0, .int .i64 0], .int .i64 3]) ∧ Below w.heap.size w w' := by
  have hv : (decide (1 ≤ n) && decide (n ≤ (len : Int))) = false := by rw [Bool.and_eq_false_iff]; simp; omega
  have hbl := World.block_lt_of_cell? w _ hc
  have HC : Hid (∀ W, Below w.heap.size w W → Calls Try.prog 41 #[.pointer (some ⟨b, 0, none⟩), .int .i64 n] W fun e w' => e = .returned (.bool false) ∧ w' = W) := hide fun W hW => by
    rw [← hv]; exact isWriter_any W b n a len cap ((hW.cell hbl).trans hc)
  clear hv hn
  go_enter Try.func66, Try.ntmps66
  go_wp2_with fail
  refine (HC.out _ ((Below.refl _ _).alloc (Nat.le_refl _) _)).mono ?_
  rintro e w1 ⟨rfl, rfl⟩
  go_wp2_with fail
  exact bodyPost_ret (v := .tuple #[.agg #[.int .i64 0, .int .i64 0, .int .i64 0, .int .i64 0], .int .i64 3]) (by simp [results, Try.results66, go_sem]) rfl ⟨rfl, (Below.refl _ _).alloc (Nat.le_refl _) _⟩

set_option maxHeartbeats 1000000 in
theorem look_no (w : World) (b : Nat) (n : Int) (a : Option Addr) (len cap : Nat) (hc : w.cell? ⟨b, 2, none⟩ = some (.slice a len cap)) (hn : n < 0 ∨ (len : Int) ≤ n) :
    Calls Try.prog 77 #[.pointer (some ⟨b, 1, none⟩), .int .i64 n] w fun e w' => e = .returned (.tuple #[.agg #[.int .i64 0, .int .i64 0, .int .i64 0, .int .i64 0, .int .i64 0, .int .i64 0, .int .i64 0, .slice none 0 0, .slice none 0 0], .bool false]) ∧ Below w.heap.size w w' := by
  have hbl := World.block_lt_of_cell? w _ hc
  by_cases h0 : n < 0
  · have d0 : decide (n < 0) = true := by simpa using h0
    go_enter Try.func77, Try.ntmps77
    go_wp2
    exact bodyPost_ret (v := .tuple #[.agg #[.int .i64 0, .int .i64 0, .int .i64 0, .int .i64 0, .int .i64 0, .int .i64 0, .int .i64 0, .slice none 0 0, .slice none 0 0], .bool false]) (by simp [results, Try.results77, go_sem]) rfl ⟨rfl, (Below.refl _ _).alloc (Nat.le_refl _) _⟩
  · have d0 : decide (n < 0) = false := by simpa using h0
    have h1 : (len : Int) ≤ n := by omega
    clear hn
    go_enter Try.func77, Try.ntmps77
    go_wp2
    exact bodyPost_ret (v := .tuple #[.agg #[.int .i64 0, .int .i64 0, .int .i64 0, .int .i64 0, .int .i64 0, .int .i64 0, .int .i64 0, .slice none 0 0, .slice none 0 0], .bool false]) (by simp [results, Try.results77, go_sem]) rfl ⟨rfl, (Below.refl _ _).alloc (Nat.le_refl _) _⟩

set_option maxHeartbeats 1000000 in
theorem netFlight_any (w : World) (b : Nat) (a : Option Addr) (len cap : Nat) (hc : w.cell? ⟨b, 2, none⟩ = some (.slice a len cap)) :
    Calls Try.prog 73 #[.pointer (some ⟨b, 1, none⟩)] w fun e w' => e = .returned (.int .i64 len) ∧ w' = w := by
  go_enter Try.func73, Try.ntmps73
  go_wp2
  go_ret
  exact ⟨rfl, rfl⟩

set_option maxHeartbeats 1000000 in
theorem xflight_any (w : World) (b : Nat) (a : Option Addr) (len cap : Nat) (hc : w.cell? ⟨b, 2, none⟩ = some (.slice a len cap)) :
    Calls Try.prog 55 #[.pointer (some ⟨b, 0, none⟩)] w fun e w' => e = .returned (.int .i64 len) ∧ w' = w := by
  have HC := hide (netFlight_any w b a len cap hc)
  go_enter Try.func55, Try.ntmps55
  go_wp2_with fail
  refine HC.out.mono ?_
  rintro e w1 ⟨rfl, rfl⟩
  go_wp2_with fail
  go_ret
  exact ⟨rfl, rfl⟩
end Go.Proofs.Ytfpbkghcjaonlaa

/-
  sixfoldlaw: segment.
-/
namespace Go.Proofs.Ytfpbkghcjaonlaa
open Go.RowKit

/-- What Segment answers, on either side. -/
structure SegD where
  err : Int
  up : Bool
  epoch : Int
  scl : Int
  cuts : List (Int × Int)
  kept : List Ent
  buf : List Ent

def XAns (B0 : Nat) (w' : World) (d : SegD) (v : Value) : Prop :=
  ∃ vc vk vb B1 B2, v = .tuple #[.agg #[.bool d.up, .int .i64 d.epoch, .int .i64 d.scl, vc, vk, vb], .int .i64 d.err] ∧ B0 ≤ B1 ∧ B1 ≤ B2 ∧ (∀ g, vc.ownBlock = some g → g < B1) ∧ (∀ g, vk.ownBlock = some g → g < B2) ∧
    Made w' B0 92 2 vc (d.cuts.map cutRow) ∧ Made w' B1 70 3 vk (d.kept.map recRow) ∧ Made w' B2 70 3 vb (d.buf.map recRow)

def YAns (w' : World) (d : SegD) (v : Value) : Prop :=
  ∃ vc vk vb k1 k2 k3 c1 c2 c3, v = .tuple #[.agg #[.bool d.up, .int .i64 d.epoch, .int .i64 d.scl, vc, vk, vb], .int .i64 d.err] ∧
    Rows k1 w' c1 92 2 vc (d.cuts.map cutRow) ∧ Rows k2 w' c2 70 3 vk (d.kept.map recRow) ∧ Rows k3 w' c3 70 3 vb (d.buf.map recRow)

theorem Rows.below {k : Nat → Nat} {w w' : World} {c e size : Nat} {v : Value} {rows : List (List Value)} (h : Rows k w c e size v rows) (hb : Below w.heap.size w w') : Rows k w' c e size v rows := h.evo (Evo.of_below (C := noC) hb) (noC_not _)

/-- No list that is still to be written down. -/
def Clean (k : Nat → Nat) (w : World) : Prop := ∀ g, g < w.heap.size → k g < 204 ∨ k g = 205

def reco (n : Nat) (k : Nat → Nat) (g : Nat) : Nat := if g < n then k g else if 204 ≤ k g then 205 else k g

theorem Rows.recol {k : Nat → Nat} {w : World} {c e size n : Nat} {v : Value} {rows : List (List Value)} (h : Rows k w c e size v rows) (hc : c < 204) : Rows (reco n k) w c e size v rows := by
  refine ⟨h.len, h.own, fun g hg => ?_⟩
  have h1 := h.col g hg
  unfold reco
  split
  · exact h1
  · rw [if_neg (by omega)]; exact h1
theorem Rows.recol5 {k : Nat → Nat} {w : World} {c e size n : Nat} {v : Value} {rows : List (List Value)} (h : Rows k w c e size v rows) (hc : 204 ≤ c) (hold : ∀ g, g < n → k g < 204 ∨ k g = 205) : Rows (reco n k) w 205 e size v rows := by
  refine ⟨h.len, h.own, fun g hg => ?_⟩
  have h1 := h.col g hg
  unfold reco
  split
  · rename_i hlt
    rcases hold g hlt with h2 | h2
    · omega
    · exact h2
  · rw [if_pos (by omega)]

theorem OutsOk.recol {k : Nat → Nat} {w : World} {L : Nat → Prop} {c e1 e size n m : Nat} {mk : Nat → List Value} {v : Value} (h : OutsOk k w L c e1 e size mk v m) (hc : c < 204) (hL : ∀ c, L c → 204 ≤ c) (hold : ∀ g, g < n → k g < 204 ∨ k g = 205) : OutsOk (reco n k) w (fun c => c = 205) c e1 e size mk v m := by
  obtain ⟨rows, a, b, d⟩ := h
  refine ⟨rows, a.recol hc, b, fun r hr => ?_⟩
  obtain ⟨v0, m0, n0, c0, h1, h2, h3, h4, h5⟩ := d r hr
  exact ⟨v0, m0, n0, 205, h1, h2, h3, rfl, h5.recol5 (hL _ h4) hold⟩

theorem Evo.recol {k1 k2 : Nat → Nat} {C : Nat → Prop} {a b : World} (h : Evo k1 k2 C a b) : Evo k1 (reco a.heap.size k2) C a b := h.recolour _ (fun _ hi => if_pos hi)
theorem Clean.recol {k1 k2 : Nat → Nat} {C : Nat → Prop} {a b : World} (h : Clean k1 a) (g : Evo k1 k2 C a b) : Clean (reco a.heap.size k2) b := by
  intro i hi
  unfold reco
  split
  · rename_i hlt; rw [g.col i hlt]; exact h i hlt
  · split
    · exact .inr rfl
    · exact .inl (by omega)

/-- The three lists of an answer get colours of their own. -/
def colour3 (n : Nat) (k : Nat → Nat) (vc vk vb : Value) (g : Nat) : Nat := if g < n then k g else if vc.ownBlock = some g then 204 else if vk.ownBlock = some g then 206 else if vb.ownBlock = some g then 207 else 0

theorem Made.colour {k' : Nat → Nat} {w : World} {B e size c : Nat} {v : Value} {rows : List (List Value)} (h : Made w B e size v rows) (hc : ∀ g, v.ownBlock = some g → k' g = c) : Rows k' w c e size v rows := by
  refine ⟨h.1, ⟨h.2.1, ?_⟩, hc⟩
  rcases h.2.2 with hn | ⟨b, cap, cur, hv, hb, r⟩
  · exact .inl hn
  · exact .inr ⟨b, cap, cur, hv, Nat.zero_le _, r⟩

theorem colour3_rows {n B1 B2 : Nat} {k : Nat → Nat} {w : World} {vc vk vb : Value} {rc rk rb : List (List Value)} {e1 e2 e3 z1 z2 z3 : Nat} (h1 : Made w n e1 z1 vc rc) (h2 : Made w B1 e2 z2 vk rk) (h3 : Made w B2 e3 z3 vb rb) (hn1 : n ≤ B1) (h12 : B1 ≤ B2)
    (hc : ∀ g, vc.ownBlock = some g → g < B1) (hk : ∀ g, vk.ownBlock = some g → g < B2) :
    Rows (colour3 n k vc vk vb) w 204 e1 z1 vc rc ∧ Rows (colour3 n k vc vk vb) w 206 e2 z2 vk rk ∧ Rows (colour3 n k vc vk vb) w 207 e3 z3 vb rb := by
  refine ⟨h1.colour fun g hg => ?_, h2.colour fun g hg => ?_, h3.colour fun g hg => ?_⟩
  · have := (h1.block g hg).1
    unfold colour3; rw [if_neg (by omega), if_pos hg]
  · have := (h2.block g hg).1
    unfold colour3; rw [if_neg (by omega), if_neg (fun e => by have := hc g e; omega), if_pos hg]
  · have := (h3.block g hg).1
    unfold colour3; rw [if_neg (by omega), if_neg (fun e => by have := hc g e; omega), if_neg (fun e => by have := hk g e; omega), if_pos hg]

theorem below_colour3 {n : Nat} {k : Nat → Nat} {w w' : World} (hn : n = w.heap.size) (h : Below w.heap.size w w') (vc vk vb : Value) (C : Nat → Prop) : Evo k (colour3 n k vc vk vb) C w w' := by
  subst hn
  exact (Evo.of_below (k := k) h).recolour _ (fun _ hi => if_pos hi)
end Go.Proofs.Ytfpbkghcjaonlaa

/-
  Other colours for what is no store of the document's volume.
-/
namespace Go.Proofs.Ytfpbkghcjaonlaa
open Go.RowKit

section
variable {k : Nat → Nat} {w : World} {n : Nat}
theorem Blk.recol {c b e : Nat} {cs : List Value} (h : Blk k w c b e cs) (hc : c < 204) : Blk (reco n k) w c b e cs := by
  refine ⟨h.1, ?_⟩
  have := h.2
  unfold reco
  split
  · exact this
  · rw [if_neg (by omega)]; exact this
theorem CutsIm.recol {v : Value} {l : List (Int × Int)} (h : CutsIm k w v l) : CutsIm (reco n k) w v l := Rows.recol h (by decide)
theorem IntsIm.recol {v : Value} {l : List Int} (h : IntsIm k w v l) : IntsIm (reco n k) w v l := Rows.recol h (by decide)
theorem MsgIs.recol {m : Msg} {r : List Value} (h : MsgIs k w m r) : MsgIs (reco n k) w m r := by
  obtain ⟨vc, vm, hr, h1, h2⟩ := h
  exact ⟨vc, vm, hr, h1.recol, h2.recol⟩
theorem PostIs.recol {m : Msg × Bool} {r : List Value} (h : PostIs k w m r) : PostIs (reco n k) w m r := by
  obtain ⟨r0, h0, hr⟩ := h
  exact ⟨r0, h0.recol, hr⟩
theorem ListsIs.recol {c : Nat} {v : Value} {ls : List (List (Int × Int))} (h : ListsIs k w c v ls) (hc : c < 204) : ListsIs (reco n k) w c v ls := by
  obtain ⟨rows, h1, h2⟩ := h
  exact ⟨rows, h1.recol hc, h2.imp fun l r ⟨x, hr, hx⟩ => ⟨x, hr, hx.recol⟩⟩
theorem MsgsIs.recol {c : Nat} {v : Value} {ms : List Msg} (h : MsgsIs k w c v ms) (hc : c < 204) : MsgsIs (reco n k) w c v ms := by
  obtain ⟨rows, h1, h2⟩ := h
  exact ⟨rows, h1.recol hc, h2.imp fun l r x => x.recol⟩
end
end Go.Proofs.Ytfpbkghcjaonlaa

/-
  sixfoldref: Drop, Copy, end.
-/
namespace Go.Proofs.Ytfpbkghcjaonlaa
open Go.RowKit

def goneAt (net : List (Msg × Bool)) (i : Nat) : List (Msg × Bool) := match net[i]? with | some p => net.set i (p.1, true) | none => net
theorem goneAt_of {net : List (Msg × Bool)} {i : Nat} (h : i < net.length) : goneAt net i = net.set i (net[i].1, true) := by unfold goneAt; rw [List.getElem?_eq_getElem h]

/-- The error of a number of a message, and where it stands. -/
def placeE (net : List (Msg × Bool)) (x : Int) : Option Nat := if x < 0 then none else placeOf net x.toNat
theorem placeI_some {net : List (Msg × Bool)} {x : Int} {i : Nat} (h : placeE net x = some i) : placeI net x = i ∧ i < net.length := by
  unfold placeE at h
  by_cases h0 : x < 0
  · rw [if_pos h0] at h; simp at h
  · rw [if_neg h0] at h
    unfold placeI; rw [if_neg h0, h]
    exact ⟨rfl, (placeOf_lt net _ _ h).1⟩
theorem placeI_none {net : List (Msg × Bool)} {x : Int} (h : placeE net x = none) : placeI net x = -1 := by
  unfold placeE at h
  unfold placeI
  by_cases h0 : x < 0
  · rw [if_pos h0]
  · rw [if_neg h0] at h; rw [if_neg h0, h]; rfl

def RVol.drop (r : RVol) (x : Int) : RVol := match placeE r.net x with | some i => { r with net := goneAt r.net i } | none => r
def RVol.err12 (r : RVol) (x : Int) : Int := if (placeE r.net x).isSome then 0 else 12

def RVol.send (r : RVol) (m : Msg) : RVol := { r with net := sendNet r.fl r.net m }
def RVol.copy (r : RVol) (x : Int) : RVol := match messageAt r.net x with | some m => r.send m | none => r

theorem cRef_of {c : Nat} (h : c = cY ∨ c = cNet) : cRef c := by rcases h with rfl | rfl <;> exact ⟨by decide, by decide⟩

end Go.Proofs.Ytfpbkghcjaonlaa

/-
  sixfoldref: end, may, status.
-/
namespace Go.Proofs.Ytfpbkghcjaonlaa
open Go.RowKit

def RPen.ended (p : RPen) : RPen := if p.over then p else { p with over := true, a0 := 4, a1 := p.stands.base, a2 := p.stands.next, a3 := p.stands.dur }

def statusMsg (s : Nat) (g : RSeg) : Msg := ⟨4, s, g.epoch, g.epoch, 0, 0, sclOf g.entries, [], []⟩

end Go.Proofs.Ytfpbkghcjaonlaa

/-
  sixfoldref: Restart, Crash, Gossip.
-/
namespace Go.Proofs.Ytfpbkghcjaonlaa
open Go.RowKit

def badSeg (s : Int) : Bool := decide (s < 0) || decide (5 < s)

def RVol.restart (r : RVol) (s : Int) : RVol × Int :=
  if s < 0 then (r, 11) else match r.segs[s.toNat]? with
  | none => (r, 11)
  | some g => if g.up then (r, 10) else ({ r with segs := r.segs.set s.toNat { g with up := true } }, 0)

/-- A loop over a segment's records in which some are turned: f, cell j of each. -/
def mapUp (f : Ent → Ent) (l : List Ent) (n : Nat) : List Ent := (l.take n).map f ++ l.drop n
theorem mapUp_at (f : Ent → Ent) (l : List Ent) (j : Nat) (h : j < l.length) : (mapUp f l j)[j]'(by simp [mapUp]; omega) = l[j] := by
  unfold mapUp
  rw [List.getElem_append_right (by simp; omega)]
  simp [show min j l.length = j from by omega]
theorem mapUp_succ (f : Ent → Ent) (l : List Ent) (j : Nat) (h : j < l.length) : mapUp f l (j + 1) = (mapUp f l j).set j (f l[j]) := by
  unfold mapUp
  rw [List.set_append_right _ _ (by simp; omega)]
  simp only [List.length_map, List.length_take]
  rw [show j - min j l.length = 0 from by omega, List.drop_eq_getElem_cons h, List.set_cons_zero, List.take_succ_eq_append_getElem h, List.map_append]
  simp
theorem mapUp_same {f : Ent → Ent} {l : List Ent} {j : Nat} (h : j < l.length) (hf : f l[j] = l[j]) : mapUp f l (j + 1) = mapUp f l j := by
  rw [mapUp_succ f l j h, hf]
  have e : l[j] = (mapUp f l j)[j]'(by simp [mapUp]; omega) := by rw [mapUp_at f l j h]
  rw [e, List.set_getElem_self]
theorem mapUp_len (f : Ent → Ent) (l : List Ent) (j : Nat) : (mapUp f l j).length = l.length := by simp [mapUp]; omega
theorem mapUp_all (f : Ent → Ent) (l : List Ent) : mapUp f l l.length = l.map f := by simp [mapUp]

def crashE (e : Ent) : Ent := if e.kept then e else { e with gone := true }
def RVol.crash (r : RVol) (s : Int) : RVol × Int :=
  if s < 0 then (r, 11) else match r.segs[s.toNat]? with
  | none => (r, 11)
  | some g => if g.up then ({ r with segs := r.segs.set s.toNat { g with up := false, entries := g.entries.map crashE } }, 0) else (r, 9)

end Go.Proofs.Ytfpbkghcjaonlaa

/-
  sixfoldref: Sync.
-/
namespace Go.Proofs.Ytfpbkghcjaonlaa
open Go.RowKit

def syncE (e : Ent) : Ent := if e.gone then e else { e with kept := true }
def RVol.synced (r : RVol) (s : Nat) : RVol := match r.segs[s]? with | some g => { r with segs := r.segs.set s { g with entries := g.entries.map syncE } } | none => r
def RVol.after (r : RVol) (s : Nat) : RVol := match r.segs[s]? with | some g => if g.epoch ≠ 0 ∧ topOf g.cuts = g.epoch then r.send (statusMsg s g) else r | none => r
def RVol.sync (r : RVol) (s : Int) : RVol × Int :=
  if s < 0 then (r, 11) else match r.segs[s.toNat]? with
  | none => (r, 11)
  | some g => if g.up then ((r.synced s.toNat).after s.toNat, 0) else (r, 9)

theorem YOk.set_seg {r : RVol} (h : YOk r) (i : Nat) (g : RSeg) (hg : StoreOk g) : YOk { r with segs := r.segs.set i g } :=
  ⟨h.nl, h.nk, fun s hs => by
    rcases List.mem_or_eq_of_mem_set hs with hs | rfl
    · exact h.sk s hs
    · exact hg, h.pk⟩

end Go.Proofs.Ytfpbkghcjaonlaa

/-
  sixfoldref: Gossip, may.
-/
namespace Go.Proofs.Ytfpbkghcjaonlaa
open Go.RowKit

def needMsg (a b : Int) (n : Nat) : Msg := ⟨7, a, b, 0, (n : Int) + 1, 0, 0, [], []⟩
def RVol.gossip (r : RVol) (a b : Int) : RVol × Int :=
  if a < 0 ∨ 5 < a ∨ b < 0 ∨ 5 < b ∨ a = b then (r, 11) else match r.segs[a.toNat]? with
  | none => (r, 11)
  | some g => if g.up then (r.send (needMsg a b (sclOf g.entries)), 0) else (r, 9)

end Go.Proofs.Ytfpbkghcjaonlaa

/-
  sixfoldref: Open.
-/
namespace Go.Proofs.Ytfpbkghcjaonlaa
open Go.RowKit

def RVol.sendUp (r : RVol) (f : Nat → Msg) : Nat → RVol
  | 0 => r
  | n + 1 => (r.sendUp f n).send (f n)
theorem sendNet_len (fl : Int) (net : List (Msg × Bool)) (m : Msg) : (sendNet fl net m).length ≤ net.length + 1 := by
  unfold sendNet; split <;> simp
theorem RVol.sendUp_len (r : RVol) (f : Nat → Msg) : ∀ n, (r.sendUp f n).net.length ≤ r.net.length + n
  | 0 => Nat.le_refl _
  | n + 1 => by
    have h1 := RVol.sendUp_len r f n
    have h2 := sendNet_len (r.sendUp f n).fl (r.sendUp f n).net (f n)
    show (sendNet _ _ _).length ≤ _
    omega

theorem last_get {α : Type} (l : List α) (x : α) (h : l.length < (l ++ [x]).length) : (l ++ [x])[l.length]'h = x := by simp

def pen0 : RPen := ⟨[], [], [], false, 0, 0, 0, 0⟩
def fenceMsg (e : Int) (s : Nat) : Msg := ⟨1, e, s, e, 0, 0, 0, [], []⟩
def RVol.opened (r : RVol) : RVol := { r with pens := r.pens ++ [pen0] }
def RVol.open_ (r : RVol) : RVol × Int × Int := if r.pens.length = 9 then (r, 0, 2) else (r.opened.sendUp (fenceMsg ((r.pens.length : Int) + 1)) 6, (r.pens.length : Int) + 1, 0)

def colourPen (n j : Nat) (k : Nat → Nat) (g : Nat) : Nat := if g < n then k g else if g = n then cP j else 0

end Go.Proofs.Ytfpbkghcjaonlaa

/-
  sixfoldref: may.
-/
namespace Go.Proofs.Ytfpbkghcjaonlaa
open Go.RowKit

def RVol.may (r : RVol) (n : Int) : WSt × Int := match writerAt r.pens n with
  | none => (⟨0, 0, 0, 0⟩, 3)
  | some p => (p.stands, if p.stands.phase = 4 then 4 else 0)

end Go.Proofs.Ytfpbkghcjaonlaa
