import Derived.Test.YtfpbkghcjaonlaaGreatJ15
import Derived.Test.YtfpbkghcjaonlaaGreatJ05
import Derived.Test.YtfpbkghcjaonlaaGreatJ11
import Derived.Deep.RegionHeldLaw
/-
  sixfoldlaw: last.
-/
namespace Go.Proofs.YtfpbkghcjaonlaaGreat
open Go.RowKit

/-- Both sides answer alike, whatever is asked. -/
structure Sides (px py : Nat) (w : World) (fl : Nat) : Prop where
  seg : ∀ n : Int, -1 ≤ n → n ≤ 6 → ∃ d : SegD, d.cuts.length ≤ 4000000000 ∧ d.kept.length ≤ 4000000000 ∧ d.buf.length ≤ 4000000000 ∧
    (∀ W, Below w.heap.size w W → Calls Tryz.prog 51 #[.pointer (some ⟨px, 0, none⟩), .int .i64 n] W fun e w' => (∃ v, e = .returned v ∧ XAns W.heap.size w' d v) ∧ Below W.heap.size W w') ∧
    (∀ W, Below w.heap.size w W → Calls Tryz.prog 52 #[.pointer (some ⟨py, 0, none⟩), .int .i64 n] W fun e w' => (∃ v, e = .returned v ∧ YAns w' d v) ∧ Below W.heap.size W w')
  wr : ∀ n : Int, 0 ≤ n → n ≤ 10 → ∃ (s : WSt) (err : Int),
    (Calls Tryz.prog 57 #[.pointer (some ⟨px, 0, none⟩), .int .i64 n] w fun e w' => e = .returned (.tuple #[s.val, .int .i64 err]) ∧ Below w.heap.size w w') ∧
    (∀ W, Below w.heap.size w W → Calls Tryz.prog 58 #[.pointer (some ⟨py, 0, none⟩), .int .i64 n] W fun e w' => e = .returned (.tuple #[s.val, .int .i64 err]) ∧ Below W.heap.size W w')
  msg : ∀ n : Int, -1 ≤ n → n ≤ fl → ∃ (err : Int) (m : Msg), m.cuts.length ≤ 4000000000 ∧ m.marks.length ≤ 4000000000 ∧
    (∀ W, Below w.heap.size w W → Calls Tryz.prog 59 #[.pointer (some ⟨px, 0, none⟩), .int .i64 n] W fun e w' => (∃ v, e = .returned v ∧ XMsg W.heap.size w' err m v) ∧ Below W.heap.size W w') ∧
    (∀ W, Below w.heap.size w W → Calls Tryz.prog 60 #[.pointer (some ⟨py, 0, none⟩), .int .i64 n] W fun e w' => (∃ v, e = .returned v ∧ YMsg w' err m v) ∧ Below W.heap.size W w')
  fx : Calls Tryz.prog 63 #[.pointer (some ⟨px, 0, none⟩)] w fun e w' => e = .returned (.int .i64 fl) ∧ w' = w
  fy : Calls Tryz.prog 23 #[.pointer (some ⟨py, 0, none⟩)] w fun e w' => e = .returned (.int .i64 fl) ∧ w' = w

/-- Where 'last' stands. -/
def LastSt (Q : (Nat → Nat) → World → Prop) (k : Nat → Nat) (w wr : World) (b px py nC nR nI : Nat) : Prop :=
  ∃ k', Evo k k' cLaw w wr ∧ Q k' wr ∧ LawIs k' wr is205 b px py nC nR nI ∧ Clean k' wr

set_option maxHeartbeats 8000000 in
theorem last_any {k : Nat → Nat} {w : World} {b px py nC nR nI fl : Nat} (Q : (Nat → Nat) → World → Prop) (hQ : ∀ k k' w w', Q k w → Evo k k' cLaw w w' → Q k' w') (hS : ∀ k w, Q k w → Sides px py w fl) (hfl : fl ≤ 200)
    (hq : Q k w) (h : LawIs k w is205 b px py nC nR nI) (hcl : Clean k w) (hC : nC ≤ 3800000000) (hR : nR ≤ 3800000000) (hI : nI ≤ 3800000000) :
    Calls Tryz.prog 12 #[.pointer (some ⟨b, 0, none⟩)] w fun e w' => e = .returned (.bool true) ∧ ∃ k', Evo k k' cLaw w w' ∧ Q k' w' := by
  have h0 : Hid (LastSt Q k w w b px py (nC + 4 * 0) (nR + 8 * 0) nI) := hide ⟨k, Evo.refl _ _ _, hq, h, hcl⟩
  have HQ := hide hQ
  have HS := hide hS
  clear hQ hS hq h hcl
  go_enter Tryz.func12, Tryz.ntmps12
  go_wp2
  go_loopw [3] (fun i wr => ∃ j : Nat, j ≤ 8 ∧ i = .int .i64 ((j : Int) - 1) ∧ Hid (LastSt Q k w wr b px py (nC + 4 * j) (nR + 8 * j) nI)) (fun i _ => (7 - intOf i).toNat)
  case atStart => exact ⟨0, by omega, by go_num, h0⟩
  case round =>
    obtain ⟨j, hj, rfl, hst⟩ := hrel
    by_cases hlt : j < 8
    · have hd : decide ((j : Int) - 1 ≤ 6) = true := by simp; omega
      obtain ⟨k', ev, hq, hL, hc⟩ := hst.out
      obtain ⟨d, l1, l2, l3, cx, cy⟩ := (HS.out _ _ hq).seg ((j : Int) - 1) (by omega) (by omega)
      have HK := hide (lawSegment_any ((j : Int) - 1) d hL hc cx cy (by omega) (by omega) l1 l2 l3)
      clear cx cy hst l1 l2 l3
      go_wp2_with fail
      refine HK.out.mono ?_
      rintro e1 w1 ⟨rfl, k1, ev1, hL1, hc1⟩
      go_wp2_with fail
      go_roundw
      case rel => exact ⟨j + 1, by omega, by go_num, hide ⟨k1, ev.trans ev1, HQ.out _ _ _ _ hq ev1, hL1, hc1⟩⟩
      case measure => simp [intOf]; omega
    · have hj8 : j = 8 := by omega
      have hd : decide ((j : Int) - 1 ≤ 6) = false := by simp; omega
      rw [hj8] at hst
      clear hj8 hlt hj
      go_wp2
      go_loopw [5] (fun i wr => ∃ j : Nat, j ≤ 11 ∧ i = .int .i64 j ∧ Hid (LastSt Q k w wr b px py (nC + 4 * 8) (nR + 8 * 8) nI)) (fun i _ => 11 - (intOf i).toNat)
      case atStart => exact ⟨0, by omega, rfl, hst⟩
      case round =>
        obtain ⟨j2, hj2, rfl, hst2⟩ := hrel
        clear hst
        by_cases hlt : j2 < 11
        · have hd2 : decide ((j2 : Int) ≤ 10) = true := by simp; omega
          obtain ⟨k', ev, hq, hL, hc⟩ := hst2.out
          obtain ⟨s, err, cx, cy⟩ := (HS.out _ _ hq).wr (j2 : Int) (by omega) (by omega)
          have HK := hide (lawWriter_any (j2 : Int) s err hL cx cy)
          clear cx cy hst2
          go_wp2_with fail
          refine HK.out.mono ?_
          rintro e1 w1 ⟨rfl, hb1⟩
          go_wp2_with fail
          go_roundw
          case rel =>
            have ev1 : Evo k' k' cLaw wr w1 := Evo.of_below hb1
            have ev1n : Evo k' k' noC wr w1 := Evo.of_below hb1
            have hL1 := hL.evo ev1n (fun c _ => noC_not c) (fun c _ _ => noC_not c)
            exact ⟨j2 + 1, by omega, by go_num, hide ⟨reco wr.heap.size k', ev.trans ev1.recol, HQ.out _ _ _ _ hq ev1.recol, hL1.recol (fun c hc => by unfold is205 at hc; omega) (fun g hg => hc g hg), hc.recol ev1⟩⟩
          case measure => simp [intOf]; omega
        · have hd2 : decide ((j2 : Int) ≤ 10) = false := by simp; omega
          clear hlt hj2
          obtain ⟨k2, ev2, hq2, hL2, hc2⟩ := hst2.out
          obtain ⟨vC, vR, vI, hB, -, -, -⟩ := hL2.ex
          have z1 : wr.cell? ⟨b, 1, none⟩ = some (.pointer (some ⟨py, 0, none⟩)) := hB.cell 1
          have HF := hide (HS.out _ _ hq2).fy
          clear hB
          go_wp2_with fail
          refine HF.out.mono ?_
          rintro e1 w1 ⟨rfl, hw⟩
          subst hw
          clear HF z1
          have h3 : Hid (LastSt Q k w w1 b px py (nC + 4 * 8 + 4 * 0) (nR + 8 * 8) (nI + 4 * 0)) := hide ⟨k2, ev2, hq2, hL2, hc2⟩
          clear hst2 hL2 hc2 hq2 ev2
          go_wp2_with fail
          go_loopw [8] (fun i wr => ∃ j : Nat, j ≤ fl + 2 ∧ i = .int .i64 ((j : Int) - 1) ∧ Hid (LastSt Q k w wr b px py (nC + 4 * 8 + 4 * j) (nR + 8 * 8) (nI + 4 * j))) (fun i _ => (fl + 1 - intOf i).toNat)
          case atStart => exact ⟨0, by omega, by go_num, h3⟩
          case round =>
            obtain ⟨j3, hj3, rfl, hst3⟩ := hrel
            clear h3
            by_cases hlt : j3 < fl + 2
            · have hd3 : decide ((j3 : Int) - 1 ≤ (fl : Int)) = true := by simp; omega
              obtain ⟨k', ev, hq, hL, hc⟩ := hst3.out
              obtain ⟨err, m, l1, l2, cx, cy⟩ := (HS.out _ _ hq).msg ((j3 : Int) - 1) (by omega) (by omega)
              have HK := hide (lawMessage_any ((j3 : Int) - 1) err m hL hc cx cy (by omega) (by omega) l1 l2)
              clear cx cy hst3 l1 l2
              go_wp2_with fail
              refine HK.out.mono ?_
              rintro e1 w1 ⟨rfl, k1, ev1, hL1, hc1⟩
              go_wp2_with fail
              go_roundw
              case rel => exact ⟨j3 + 1, by omega, by go_num, hide ⟨k1, ev.trans ev1, HQ.out _ _ _ _ hq ev1, hL1, hc1⟩⟩
              case measure => simp [intOf]; omega
            · have hj3' : j3 = fl + 2 := by omega
              have hd3 : decide ((j3 : Int) - 1 ≤ (fl : Int)) = false := by simp; omega
              rw [hj3'] at hst3
              clear hj3' hlt hj3
              obtain ⟨k', ev, hq, hL, hc⟩ := hst3.out
              have HK := hide (lawFlight_any (fl : Int) hL (HS.out _ _ hq).fx (HS.out _ _ hq).fy)
              have HLk := hide (looks_any hL (by omega) (by omega) (by omega))
              clear hst3
              go_wp2_with fail
              refine HK.out.mono ?_
              rintro e1 w1 ⟨rfl, hw⟩
              subst hw
              go_wp2_with fail
              refine HLk.out.mono ?_
              rintro e1 w2 ⟨rfl, hb2⟩
              go_wp2_with fail
              go_ret
              have ev1 : Evo k' k' cLaw w1 w2 := Evo.of_below hb2
              exact ⟨rfl, k', ev.trans ev1, HQ.out _ _ _ _ hq ev1⟩
end Go.Proofs.YtfpbkghcjaonlaaGreat

/-
  A new volume on both sides.
-/
namespace Go.Proofs.YtfpbkghcjaonlaaGreat
open Go.RowKit

def cX : Nat := 100
def r0 (a b : Int) : RVol := ⟨a, b, [], List.replicate 6 seg0, []⟩
def xseg0 : XSeg := ⟨true, 0, [], List.replicate 40 (0, 0, 0)⟩

theorem segNewRow_eq : segNewRow = xsegRow xseg0 (.slice none 0 0) := by kernel_rfl
theorem newRows6 : newRows 6 = List.replicate 6 segNewRow := by simp [newRows]
theorem xscl0 : xscl xseg0 = 0 := by kernel_rfl
theorem xrecs0 (st : Int) (h : (0 == st) = false) : xrecsUp xseg0.places st 40 = [] := by
  unfold xrecsUp
  rw [List.filterMap_eq_nil_iff]
  intro i _
  cases hi : xseg0.places[i]? with
  | none => rfl
  | some p =>
    have hm := List.mem_of_getElem? hi
    have hp : p = (0, 0, 0) := List.eq_of_mem_replicate hm
    subst hp
    have hne : ¬ (0 : Int) = st := by simpa using h
    simp [hne]
theorem scl0 : sclOf seg0.entries = 0 := rfl
theorem recs0 (kk : Bool) : recsUp seg0.entries kk 40 = [] := by
  unfold recsUp
  rw [List.filterMap_eq_nil_iff]
  intro i _
  rfl

/-- Both volumes are new. -/
structure NewQ (a b : Int) (px py : Nat) (k : Nat → Nat) (w : World) : Prop where
  x : Blk k w cX px 77 (volCells a b (.slice none 0 0) (newRows 6) (.slice none 0 0))
  y : YVol k w py (r0 a b)

theorem NewQ.evo {a b : Int} {px py : Nat} {k k' : Nat → Nat} {w w' : World} {C : Nat → Prop} (h : NewQ a b px py k w) (g : Evo k k' C w w') (hc : ∀ c, c < 200 → ¬ C c) : NewQ a b px py k' w' :=
  ⟨h.x.evo g (hc _ (by decide)), h.y.evo g (hc _ (by decide)) (fun c _ h2 => hc c (by omega))⟩

theorem ok0 (a b : Int) : YOk (r0 a b) := by
  refine ⟨by simp [r0], by simp [r0], fun s hs => ?_, by simp [r0]⟩
  have : s = seg0 := List.eq_of_mem_replicate hs
  subst this
  exact ⟨by decide, by decide, by decide, by decide, by decide, by decide⟩

def dOut : SegD := ⟨11, false, 0, 0, [], [], []⟩
def dIn : SegD := ⟨0, true, 0, 0, [], [], []⟩
def m0 : Msg := ⟨0, 0, 0, 0, 0, 0, 0, [], []⟩

theorem newSides {a b : Int} {px py : Nat} {k : Nat → Nat} {w : World} (h : NewQ a b px py k w) : Sides px py w 0 := by
  have evW : ∀ W, Below w.heap.size w W → NewQ a b px py k W := fun W hW => h.evo (Evo.of_below (C := noC) hW) (fun c _ => noC_not c)
  have rl : ∀ r ∈ newRows 6, r.length = 123 := newRows_all 6
  refine ⟨fun n h1 h2 => ?_, fun n h1 h2 => ?_, fun n h1 h2 => ?_, ?_, ?_⟩
  · -- segments
    by_cases hn : 0 ≤ n ∧ n ≤ 5
    · obtain ⟨i, rfl⟩ := Int.eq_ofNat_of_zero_le hn.1
      have hi : i < 6 := by omega
      refine ⟨dIn, by decide, by decide, by decide, fun W hW => ?_, fun W hW => ?_⟩
      · have hq := evW W hW
        have hS : SegAt W px (3 + i * 123) xseg0 (.slice none 0 0) := by
          refine ⟨fun j hj => ?_, by simp [xseg0]⟩
          rw [hq.x.cell, volCells_seg rl i j (by rw [newRows_len 6 (by omega)]; exact hi) hj]
          have e1 : (newRows 6)[i]'(by rw [newRows_len 6 (by omega)]; exact hi) = segNewRow := by
            simp only [newRows6]; exact List.getElem_replicate _
          rw [e1, segNewRow_eq]
        refine (xsegment_in (k := k) i hi hS (Rows.nil _ _ _ _ _) (by decide)).mono ?_
        rintro e w' ⟨⟨v, rfl, vc, vk, vb, B1, B2, rfl, g1, g2, g3, g4, g5, g6, g7⟩, hb⟩
        rw [xrecs0 2 (by decide)] at g6
        rw [xrecs0 1 (by decide)] at g7
        refine ⟨⟨_, rfl, vc, vk, vb, B1, B2, ?_, g1, g2, g3, g4, g5, g6, g7⟩, hb⟩
        rw [xscl0]; rfl
      · have hq := evW W hW
        refine (refSegment_any (i : Int) hq.y (ok0 a b)).mono ?_
        rintro e w' ⟨⟨v, rfl, hv⟩, hb⟩
        have hs : segAt (r0 a b).segs (i : Int) = some seg0 := by
          unfold segAt
          rw [if_neg (by omega), Int.toNat_natCast]
          exact List.getElem?_replicate_of_lt hi
        rw [hs] at hv
        obtain ⟨vc, vk, vb, rfl, q1, q2, q3⟩ := hv
        rw [recs0] at q2 q3
        refine ⟨⟨_, rfl, vc, vk, vb, k, fun _ => 0, fun _ => 0, IM, 0, 0, rfl, ?_, q2.colour (fun _ _ => rfl), q3.colour (fun _ _ => rfl)⟩, hb⟩
        exact Rows.below q1 hb
    · refine ⟨dOut, by decide, by decide, by decide, fun W hW => ?_, fun W hW => ?_⟩
      · refine (xsegment_no W px n (by omega)).mono ?_
        rintro e w' ⟨rfl, hb⟩
        exact ⟨⟨_, rfl, .slice none 0 0, .slice none 0 0, .slice none 0 0, W.heap.size, W.heap.size, rfl, Nat.le_refl _, Nat.le_refl _, by simp [Value.ownBlock], by simp [Value.ownBlock], Made.nil _ _ _ _, Made.nil _ _ _ _, Made.nil _ _ _ _⟩, hb⟩
      · have hq := evW W hW
        refine (refSegment_any n hq.y (ok0 a b)).mono ?_
        rintro e w' ⟨⟨v, rfl, hv⟩, hb⟩
        have hs : segAt (r0 a b).segs n = none := by
          unfold segAt
          split
          · rfl
          · exact List.getElem?_eq_none (by simp [r0]; omega)
        rw [hs] at hv
        exact ⟨⟨_, rfl, .slice none 0 0, .slice none 0 0, .slice none 0 0, fun _ => 0, fun _ => 0, fun _ => 0, 0, 0, 0, hv, Rows.nil _ _ _ _ _, Rows.nil _ _ _ _ _, Rows.nil _ _ _ _ _⟩, hb⟩
  · -- writers
    refine ⟨⟨0, 0, 0, 0⟩, 3, ?_, fun W hW => ?_⟩
    · have hc : w.cell? ⟨px, 741, none⟩ = some (.slice none 0 0) := by
        rw [h.x.cell]; unfold volCells
        have := flatten_len rl
        rw [newRows_len 6 (by omega)] at this
        have e0 : 741 - ([Value.int .i64 a, .int .i64 b, .slice none 0 0] : List Value).length - 6 * 123 = 0 := by simp
        rw [List.getElem?_append_right (by simp), List.getElem?_append_right (by rw [this]; simp), this, e0]; rfl
      exact xwriter_no w px n none 0 0 hc (by omega)
    · have hq := evW W hW
      refine (refWriter_any n hq.y (ok0 a b)).mono ?_
      rintro e w' ⟨rfl, hb⟩
      have hs : writerAt (r0 a b).pens n = none := by unfold writerAt; split <;> rfl
      rw [hs]
      exact ⟨rfl, hb⟩
  · -- messages
    refine ⟨12, m0, by decide, by decide, fun W hW => ?_, fun W hW => ?_⟩
    · have hq := evW W hW
      have hc : W.cell? ⟨px, 2, none⟩ = some (.slice none 0 0) := hq.x.cell 2
      refine (xmessage_no W px n none 0 0 hc (by omega)).mono ?_
      rintro e w' ⟨rfl, hb⟩
      exact ⟨⟨_, rfl, .slice none 0 0, .slice none 0 0, W.heap.size, rfl, Nat.le_refl _, by simp [Value.ownBlock], Made.nil _ _ _ _, Made.nil _ _ _ _⟩, hb⟩
    · have hq := evW W hW
      obtain ⟨vS, vP, sb, pb, hN, _, _⟩ := hq.y.ex
      refine (refMessage_any n (by omega) hN (by simp [r0])).mono ?_
      rintro e w' ⟨⟨v, rfl, hv⟩, hb⟩
      have hs : messageAt (r0 a b).net n = none := by unfold messageAt; split <;> rfl
      rw [hs] at hv
      exact ⟨⟨_, rfl, .slice none 0 0, .slice none 0 0, fun _ => 0, fun _ => 0, 0, 0, hv, Rows.nil _ _ _ _ _, Rows.nil _ _ _ _ _⟩, hb⟩
  · exact xflight_any w px none 0 0 (h.x.cell 2)
  · obtain ⟨vS, vP, sb, pb, ⟨vNet, rows, hB, hN⟩, _, _⟩ := h.y.ex
    exact flight_any hB hN (by simp [r0])
end Go.Proofs.YtfpbkghcjaonlaaGreat

/-
  The program: the network.
-/
namespace Go.Proofs.YtfpbkghcjaonlaaGreat
open Go.RowKit

def cXM : Nat := 101
def cXW : Nat := 102

theorem send_mid {k : Nat → Nat} {w w1 : World} {px e : Nat} {cs : List Value} {vM zc zm : Value} {rows : List (List Value)} {B0 B1 : Nat} (m : Msg) (row : List Value) (hB : Blk k w cX px e cs) (hR : Rows k w cXM 109 9 vM rows) (hb : Below w.heap.size w w1)
    (hz : Made w1 B0 53 2 zc (m.cuts.map cutRow)) (hy : Made w1 B1 3 1 zm (m.marks.map intRow)) (h0 : w.heap.size ≤ B0) (h1 : w.heap.size ≤ B1) :
    ∃ k1, Evo k k1 noC w (w1.alloc (Obj.cells row.toArray 109)) ∧ Blk k1 (w1.alloc (Obj.cells row.toArray 109)) cX px e cs ∧ Rows k1 (w1.alloc (Obj.cells row.toArray 109)) cXM 109 9 vM rows ∧
      CutsIm k1 (w1.alloc (Obj.cells row.toArray 109)) zc m.cuts ∧ IntsIm k1 (w1.alloc (Obj.cells row.toArray 109)) zm m.marks := by
  have ev : Evo k (fun g => if g < w.heap.size then k g else IM) noC w w1 := (Evo.of_below (k := k) hb).recolour _ (fun i hi => if_pos hi)
  have ev2 : Evo k (fun g => if g < w.heap.size then k g else IM) noC w (w1.alloc (Obj.cells row.toArray 109)) := ev.alloc _
  have ev3 : Evo (fun g => if g < w.heap.size then k g else IM) (fun g => if g < w.heap.size then k g else IM) noC w1 (w1.alloc (Obj.cells row.toArray 109)) := (Evo.refl _ _ _).alloc _
  refine ⟨_, ev2, hB.evo ev2 (noC_not _), hR.evo ev2 (noC_not _), ?_, ?_⟩
  · exact Rows.evo (hz.colour (c := IM) (fun g hg => if_neg (by have := (Made.block hz g hg).1; omega))) ev3 (noC_not _)
  · exact Rows.evo (hy.colour (c := IM) (fun g hg => if_neg (by have := (Made.block hy g hg).1; omega))) ev3 (noC_not _)

theorem news_row (w1 : World) (row : List Value) : ∀ j u, ([row] : List (List Value)).flatten[j]? = some u → (w1.alloc (Obj.cells row.toArray 109)).cell? ((⟨w1.heap.size, 0, none⟩ : Addr).add j) = some u := by
  intro j u hj
  rw [Addr.add_lit, Nat.zero_add, cell_of_row _ w1.heap.size j _ _ _ (heap_alloc_new w1 _)]
  simpa using hj

theorem set_same {cs : List Value} {j : Nat} {v : Value} (h : cs[j]? = some v) : cs.set j v = cs := by
  obtain ⟨hj, rfl⟩ := List.getElem?_eq_some_iff.1 h
  exact List.set_getElem_self hj

set_option maxRecDepth 3000 in
set_option maxHeartbeats 4000000 in
theorem xsend_full {k : Nat → Nat} {w : World} {px : Nat} {cs : List Value} {room : Int} {vM : Value} {msgs : List Msg} (m0 m1 m2 m3 m4 m5 m6 : Int) (z0 y0 : Option Addr) (z1 z2 y1 y2 : Nat) (hB : Blk k w cX px 77 cs) (h1 : cs[1]? = some (.int .i64 room)) (h2 : cs[2]? = some vM) (hM : MsgsIs k w cXM vM msgs)
    (hf : room ≤ (msgs.length : Int)) :
    Calls Tryz.prog 87 #[.pointer (some ⟨px, 1, none⟩), .agg #[.int .i64 m0, .int .i64 m1, .int .i64 m2, .int .i64 m3, .int .i64 m4, .int .i64 m5, .int .i64 m6, .slice z0 z1 z2, .slice y0 y1 y2]] w fun e w' => e = .returned (.tuple #[]) ∧ Below w.heap.size w w' := by
  obtain ⟨ma, mcap, hvm, _⟩ := msgs_cells hM
  subst hvm
  have q1 : w.cell? ⟨px, 1, none⟩ = some (.int .i64 room) := (hB.cell 1).trans h1
  have q2 : w.cell? ⟨px, 2, none⟩ = some (.slice ma msgs.length mcap) := (hB.cell 2).trans h2
  have ql := hB.lt
  clear hB h1 h2 hM
  go_enter Tryz.func87, Tryz.ntmps87
  go_wp2_with fail
  go_quiet (fail)
  go_wp2_with fail
  refine bodyPost_ret (v := .tuple #[]) (by simp [results, Tryz.results87]) rfl ⟨rfl, below_drewN ((Below.refl _ _).alloc (Nat.le_refl _) _) _⟩

set_option maxRecDepth 3000 in
set_option maxHeartbeats 4000000 in
theorem xsend_room {k : Nat → Nat} {w : World} {px : Nat} {cs : List Value} {room : Int} {vM : Value} {msgs : List Msg} (m : Msg) {vc vm : Value} (hB : Blk k w cX px 77 cs) (h1 : cs[1]? = some (.int .i64 room)) (h2 : cs[2]? = some vM) (hM : MsgsIs k w cXM vM msgs)
    (hc : CutsIm k w vc m.cuts) (hm : IntsIm k w vm m.marks) (hcl : m.cuts.length ≤ 4000000000) (hml : m.marks.length ≤ 4000000000) (hf : ¬ room ≤ (msgs.length : Int)) (hr : room ≤ 4000000000) :
    Calls Tryz.prog 87 #[.pointer (some ⟨px, 1, none⟩), .agg #[.int .i64 m.kind, .int .i64 m.frm, .int .i64 m.to_, .int .i64 m.epoch, .int .i64 m.lsn, .int .i64 m.value, .int .i64 m.scl, vc, vm]] w fun e w' => e = .returned (.tuple #[]) ∧
      ∃ k' vM', Evo k k' (fun c => c = cX ∨ c = cXM) w w' ∧ Blk k' w' cX px 77 (cs.set 2 vM') ∧ MsgsIs k' w' cXM vM' (msgs ++ [m]) := by
  have HFR : Hid (∀ W, Below w.heap.size w W → Calls Tryz.prog 112 #[.agg #[.int .i64 m.kind, .int .i64 m.frm, .int .i64 m.to_, .int .i64 m.epoch, .int .i64 m.lsn, .int .i64 m.value, .int .i64 m.scl, vc, vm]] W fun e w' => (∃ v, e = .returned v ∧ XFresh W.heap.size w' m v) ∧ Below W.heap.size W w') := hide fun W hW =>
    fresh_any m (Rows.evo hc (Evo.of_below (C := noC) hW) (noC_not _)) (Rows.evo hm (Evo.of_below (C := noC) hW) (noC_not _)) hcl hml
  obtain ⟨ma, mcap, hvm, _⟩ := msgs_cells hM
  obtain ⟨rows, hR, hA⟩ := hM
  subst hvm
  have q1 : w.cell? ⟨px, 1, none⟩ = some (.int .i64 room) := (hB.cell 1).trans h1
  have q2 : w.cell? ⟨px, 2, none⟩ = some (.slice ma msgs.length mcap) := (hB.cell 2).trans h2
  have ql := hB.lt
  obtain ⟨z0, z1, z2, hz⟩ := Rows.shape hc
  subst hz
  obtain ⟨y0, y1, y2, hz⟩ := Rows.shape hm
  subst hz
  have hnl : rows.length = msgs.length := hA.1.symm
  have HL := hide hnl
  have HMid : Hid (∀ w1 zc zm B0 B1 row, Below w.heap.size w w1 → Made w1 B0 53 2 zc (m.cuts.map cutRow) → Made w1 B1 3 1 zm (m.marks.map intRow) → w.heap.size ≤ B0 → w.heap.size ≤ B1 → _) := hide fun w1 zc zm B0 B1 row hb hz hy h0 h1 => send_mid m row hB hR hb hz hy h0 h1
  have HAll := hide hA
  obtain ⟨m0, mf, mt, m3, m4, m5, m6, mc, mm⟩ := m
  dsimp only at *
  clear hnl hc hm hA
  go_enter Tryz.func87, Tryz.ntmps87
  go_wp2_with fail
  go_quiet (fail)
  go_wp2_with fail
  obtain ⟨Wn, hWn⟩ : ∃ Wn, Wn = (w.alloc (Obj.cells #[.int .i64 m0, .int .i64 mf, .int .i64 mt, .int .i64 m3, .int .i64 m4, .int .i64 m5, .int .i64 m6, .slice z0 z1 z2, .slice y0 y1 y2] 109)).drewN nq := ⟨_, rfl⟩
  rw [← hWn]
  have hbn : Below w.heap.size w Wn := by rw [hWn]; exact below_drewN ((Below.refl _ _).alloc (Nat.le_refl _) _) _
  have bm : Blk (fun _ => 0) Wn 0 w.heap.size 109 [.int .i64 m0, .int .i64 mf, .int .i64 mt, .int .i64 m3, .int .i64 m4, .int .i64 m5, .int .i64 m6, .slice z0 z1 z2, .slice y0 y1 y2] := by rw [hWn]; exact ⟨heap_alloc_new w _, rfl⟩
  have bX := hB.evo (Evo.of_below (C := noC) hbn) (noC_not _)
  have n2 : Wn.cell? ⟨px, 2, none⟩ = some (.slice ma msgs.length mcap) := (bX.cell 2).trans h2
  have nl := bX.lt
  have bc0 : Wn.cell? ⟨w.heap.size, 0, none⟩ = some (.int .i64 m0) := bm.cell 0
  have bc1 : Wn.cell? ⟨w.heap.size, 1, none⟩ = some (.int .i64 mf) := bm.cell 1
  have bc2 : Wn.cell? ⟨w.heap.size, 2, none⟩ = some (.int .i64 mt) := bm.cell 2
  have bc3 : Wn.cell? ⟨w.heap.size, 3, none⟩ = some (.int .i64 m3) := bm.cell 3
  have bc4 : Wn.cell? ⟨w.heap.size, 4, none⟩ = some (.int .i64 m4) := bm.cell 4
  have bc5 : Wn.cell? ⟨w.heap.size, 5, none⟩ = some (.int .i64 m5) := bm.cell 5
  have bc6 : Wn.cell? ⟨w.heap.size, 6, none⟩ = some (.int .i64 m6) := bm.cell 6
  have bc7 : Wn.cell? ⟨w.heap.size, 7, none⟩ = some (.slice z0 z1 z2) := bm.cell 7
  have bc8 : Wn.cell? ⟨w.heap.size, 8, none⟩ = some (.slice y0 y1 y2) := bm.cell 8
  have bl := bm.lt
  have HWn := hide hWn
  clear hWn bX bm q1 q2
  go_region_law
    (first
      | (refine step_append_rows k1 cXM (.tmp 18) (.tmp 21) 66 109 _ 9 104 _ rows [[.int .i64 m0, .int .i64 mf, .int .i64 mt, .int .i64 m3, .int .i64 m4, .int .i64 m5, .int .i64 m6, .slice a0 a1 a2, .slice b0 b1 b2]] msgs.length ⟨w1.heap.size, 0, none⟩ 1 1 HL.out rfl rfl Tryz.underlying66 Tryz.infoMessage rfl (by decide) rfl rfl hR1 rfl (by simp) hnews (by simp [Value.oneCell']) (by have := HL.out; simp only [maxLen]; omega) (by have := HL.out; omega) ?_; intro ao1 cap1 w2 k2 hR2 hE2; have y2' : w2.cell? ⟨px, 2, none⟩ = some (.slice ma msgs.length mcap) := ((hB1.evo hE2 (by decide)).cell 2).trans h2; have yf' : w2.frozen? ⟨px, 2, none⟩ = false := (hB1.evo hE2 (by decide)).free 2; have yl' := (hB1.evo hE2 (by decide)).lt)
      | (go_simp; go_at_call 112; refine (HFR.out _ hbn.drew).mono ?_; rintro e1 w1 ⟨⟨v, rfl, zc, zm, B1, rfl, g0, g1, hz, hy⟩, hb1⟩; obtain ⟨a0, a1, a2, hs⟩ := made_shape hz; subst hs; obtain ⟨b0, b1, b2, hs⟩ := made_shape hy; subst hs; have hbw1 : Below w.heap.size w w1 := hbn.drew.trans (hb1.mono hbn.drew.size); have n2' : w1.cell? ⟨px, 2, none⟩ = some (.slice ma msgs.length mcap) := (hb1.cell (p := ⟨px, 2, none⟩) nl).trans n2; have nl' : px < w1.heap.size := Nat.lt_of_lt_of_le nl hb1.size; obtain ⟨k1, ev1, hB1, hR1, hc1, hm1⟩ := HMid.out w1 _ _ _ _ [.int .i64 m0, .int .i64 mf, .int .i64 mt, .int .i64 m3, .int .i64 m4, .int .i64 m5, .int .i64 m6, .slice a0 a1 a2, .slice b0 b1 b2] hbw1 hz hy hbn.drew.size (Nat.le_trans hbn.drew.size g0); have hnews := news_row w1 [.int .i64 m0, .int .i64 mf, .int .i64 mt, .int .i64 m3, .int .i64 m4, .int .i64 m5, .int .i64 m6, .slice a0 a1 a2, .slice b0 b1 b2]))
  all_goals go_wp2_with fail
  all_goals go_end0
  all_goals
    obtain ⟨f1, f2, f3⟩ := push_fin (Evo.refl _ noC _) hB1 (by decide) hR2 hE2 2
    have evA := (ev1.mono (D := fun c => c = cX ∨ c = cXM) (fun _ h => h.elim)).trans f1
    have him : ¬ (IM = cX ∨ IM = cXM) := by decide
    refine ⟨rfl, k2, evA, .slice ao1 (msgs.length + 1) cap1, f2, ?_⟩
    exact ⟨_, f3, All2.snoc (HAll.out.imp fun _ _ x => x.evo evA him) ⟨_, _, rfl, hc1.evo f1 him, hm1.evo f1 him⟩⟩
end Go.Proofs.YtfpbkghcjaonlaaGreat
