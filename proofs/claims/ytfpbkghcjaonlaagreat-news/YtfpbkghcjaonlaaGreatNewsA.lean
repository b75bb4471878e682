/-
  A new volume on both sides.
-/
import Derived.Test.YtfpbkghcjaonlaaGreatLawJ
import Derived.Test.YtfpbkghcjaonlaaGreatRefL
namespace Go.Proofs.YtfpbkghcjaonlaaGreat
open Go.RowKit

def cX : Nat := 100
def r0 (a b : Int) : RVol := ⟨a, b, [], List.replicate 6 seg0, []⟩
def xseg0 : XSeg := ⟨true, 0, [], List.replicate 40 (0, 0, 0)⟩

theorem segNewRow_eq : segNewRow = xsegRow xseg0 (.slice none 0 0) := by kernel_rfl
theorem newRows6 : newRows 6 = List.replicate 6 segNewRow := by simp [newRows]
theorem xscl0 : xscl xseg0 = 0 := by kernel_rfl
theorem xrecs0 (st : Int) (h : (0 == st) = false) : xrecsUp xseg0.places st 40 = [] := by
  unfold xrecsUp
  rw [List.filterMap_eq_nil_iff]
  intro i _
  cases hi : xseg0.places[i]? with
  | none => rfl
  | some p =>
    have hm := List.mem_of_getElem? hi
    have hp : p = (0, 0, 0) := List.eq_of_mem_replicate hm
    subst hp
    have hne : ¬ (0 : Int) = st := by simpa using h
    simp [hne]
theorem scl0 : sclOf seg0.entries = 0 := rfl
theorem recs0 (kk : Bool) : recsUp seg0.entries kk 40 = [] := by
  unfold recsUp
  rw [List.filterMap_eq_nil_iff]
  intro i _
  rfl

/-- Both volumes are new. -/
structure NewQ (a b : Int) (px py : Nat) (k : Nat → Nat) (w : World) : Prop where
  x : Blk k w cX px 77 (volCells a b (.slice none 0 0) (newRows 6) (.slice none 0 0))
  y : YVol k w py (r0 a b)

theorem NewQ.evo {a b : Int} {px py : Nat} {k k' : Nat → Nat} {w w' : World} {C : Nat → Prop} (h : NewQ a b px py k w) (g : Evo k k' C w w') (hc : ∀ c, c < 200 → ¬ C c) : NewQ a b px py k' w' :=
  ⟨h.x.evo g (hc _ (by decide)), h.y.evo g (hc _ (by decide)) (fun c _ h2 => hc c (by omega))⟩

theorem ok0 (a b : Int) : YOk (r0 a b) := by
  refine ⟨by simp [r0], by simp [r0], fun s hs => ?_, by simp [r0]⟩
  have : s = seg0 := List.eq_of_mem_replicate hs
  subst this
  exact ⟨by decide, by decide, by decide, by decide, by decide, by decide⟩

def dOut : SegD := ⟨11, false, 0, 0, [], [], []⟩
def dIn : SegD := ⟨0, true, 0, 0, [], [], []⟩
def m0 : Msg := ⟨0, 0, 0, 0, 0, 0, 0, [], []⟩

theorem newSides {a b : Int} {px py : Nat} {k : Nat → Nat} {w : World} (h : NewQ a b px py k w) : Sides px py w 0 := by
  have evW : ∀ W, Below w.heap.size w W → NewQ a b px py k W := fun W hW => h.evo (Evo.of_below (C := noC) hW) (fun c _ => noC_not c)
  have rl : ∀ r ∈ newRows 6, r.length = 123 := newRows_all 6
  refine ⟨fun n h1 h2 => ?_, fun n h1 h2 => ?_, fun n h1 h2 => ?_, ?_, ?_⟩
  · -- segments
    by_cases hn : 0 ≤ n ∧ n ≤ 5
    · obtain ⟨i, rfl⟩ := Int.eq_ofNat_of_zero_le hn.1
      have hi : i < 6 := by omega
      refine ⟨dIn, by decide, by decide, by decide, fun W hW => ?_, fun W hW => ?_⟩
      · have hq := evW W hW
        have hS : SegAt W px (3 + i * 123) xseg0 (.slice none 0 0) := by
          refine ⟨fun j hj => ?_, by simp [xseg0]⟩
          rw [hq.x.cell, volCells_seg rl i j (by rw [newRows_len 6 (by omega)]; exact hi) hj]
          have e1 : (newRows 6)[i]'(by rw [newRows_len 6 (by omega)]; exact hi) = segNewRow := by
            simp only [newRows6]; exact List.getElem_replicate _
          rw [e1, segNewRow_eq]
        refine (xsegment_in (k := k) i hi hS (Rows.nil _ _ _ _ _) (by decide)).mono ?_
        rintro e w' ⟨⟨v, rfl, vc, vk, vb, B1, B2, rfl, g1, g2, g3, g4, g5, g6, g7⟩, hb⟩
        rw [xrecs0 2 (by decide)] at g6
        rw [xrecs0 1 (by decide)] at g7
        refine ⟨⟨_, rfl, vc, vk, vb, B1, B2, ?_, g1, g2, g3, g4, g5, g6, g7⟩, hb⟩
        rw [xscl0]; rfl
      · have hq := evW W hW
        refine (refSegment_any (i : Int) hq.y (ok0 a b)).mono ?_
        rintro e w' ⟨⟨v, rfl, hv⟩, hb⟩
        have hs : segAt (r0 a b).segs (i : Int) = some seg0 := by
          unfold segAt
          rw [if_neg (by omega), Int.toNat_natCast]
          exact List.getElem?_replicate_of_lt hi
        rw [hs] at hv
        obtain ⟨vc, vk, vb, rfl, q1, q2, q3⟩ := hv
        rw [recs0] at q2 q3
        refine ⟨⟨_, rfl, vc, vk, vb, k, fun _ => 0, fun _ => 0, IM, 0, 0, rfl, ?_, q2.colour (fun _ _ => rfl), q3.colour (fun _ _ => rfl)⟩, hb⟩
        exact Rows.below q1 hb
    · refine ⟨dOut, by decide, by decide, by decide, fun W hW => ?_, fun W hW => ?_⟩
      · refine (xsegment_no W px n (by omega)).mono ?_
        rintro e w' ⟨rfl, hb⟩
        exact ⟨⟨_, rfl, .slice none 0 0, .slice none 0 0, .slice none 0 0, W.heap.size, W.heap.size, rfl, Nat.le_refl _, Nat.le_refl _, by simp [Value.ownBlock], by simp [Value.ownBlock], Made.nil _ _ _ _, Made.nil _ _ _ _, Made.nil _ _ _ _⟩, hb⟩
      · have hq := evW W hW
        refine (refSegment_any n hq.y (ok0 a b)).mono ?_
        rintro e w' ⟨⟨v, rfl, hv⟩, hb⟩
        have hs : segAt (r0 a b).segs n = none := by
          unfold segAt
          split
          · rfl
          · exact List.getElem?_eq_none (by simp [r0]; omega)
        rw [hs] at hv
        exact ⟨⟨_, rfl, .slice none 0 0, .slice none 0 0, .slice none 0 0, fun _ => 0, fun _ => 0, fun _ => 0, 0, 0, 0, hv, Rows.nil _ _ _ _ _, Rows.nil _ _ _ _ _, Rows.nil _ _ _ _ _⟩, hb⟩
  · -- writers
    refine ⟨⟨0, 0, 0, 0⟩, 3, ?_, fun W hW => ?_⟩
    · have hc : w.cell? ⟨px, 741, none⟩ = some (.slice none 0 0) := by
        rw [h.x.cell]; unfold volCells
        have := flatten_len rl
        rw [newRows_len 6 (by omega)] at this
        have e0 : 741 - ([Value.int .i64 a, .int .i64 b, .slice none 0 0] : List Value).length - 6 * 123 = 0 := by simp
        rw [List.getElem?_append_right (by simp), List.getElem?_append_right (by rw [this]; simp), this, e0]; rfl
      exact xwriter_no w px n none 0 0 hc (by omega)
    · have hq := evW W hW
      refine (refWriter_any n hq.y (ok0 a b)).mono ?_
      rintro e w' ⟨rfl, hb⟩
      have hs : writerAt (r0 a b).pens n = none := by unfold writerAt; split <;> rfl
      rw [hs]
      exact ⟨rfl, hb⟩
  · -- messages
    refine ⟨12, m0, by decide, by decide, fun W hW => ?_, fun W hW => ?_⟩
    · have hq := evW W hW
      have hc : W.cell? ⟨px, 2, none⟩ = some (.slice none 0 0) := hq.x.cell 2
      refine (xmessage_no W px n none 0 0 hc (by omega)).mono ?_
      rintro e w' ⟨rfl, hb⟩
      exact ⟨⟨_, rfl, .slice none 0 0, .slice none 0 0, W.heap.size, rfl, Nat.le_refl _, by simp [Value.ownBlock], Made.nil _ _ _ _, Made.nil _ _ _ _⟩, hb⟩
    · have hq := evW W hW
      obtain ⟨vS, vP, sb, pb, hN, _, _⟩ := hq.y.ex
      refine (refMessage_any n (by omega) hN (by simp [r0])).mono ?_
      rintro e w' ⟨⟨v, rfl, hv⟩, hb⟩
      have hs : messageAt (r0 a b).net n = none := by unfold messageAt; split <;> rfl
      rw [hs] at hv
      exact ⟨⟨_, rfl, .slice none 0 0, .slice none 0 0, fun _ => 0, fun _ => 0, 0, 0, hv, Rows.nil _ _ _ _ _, Rows.nil _ _ _ _ _⟩, hb⟩
  · exact xflight_any w px none 0 0 (h.x.cell 2)
  · obtain ⟨vS, vP, sb, pb, ⟨vNet, rows, hB, hN⟩, _, _⟩ := h.y.ex
    exact flight_any hB hN (by simp [r0])
end Go.Proofs.YtfpbkghcjaonlaaGreat
