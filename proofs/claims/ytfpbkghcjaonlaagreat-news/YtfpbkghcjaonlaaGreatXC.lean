/-
  The program: cuts.Copy, a segment's scl and records.
-/
import Derived.Test.YtfpbkghcjaonlaaGreatXB
namespace Go.Proofs.YtfpbkghcjaonlaaGreat
open Go.RowKit

set_option maxHeartbeats 1000000 in
theorem copy_any {k : Nat → Nat} {w : World} {c : Nat} {v : Value} {l : List (Int × Int)} (h : Rows k w c 53 2 v (l.map cutRow)) (hl : l.length ≤ 4000000000) :
    Calls Tryz.prog 118 #[v] w fun e w' => (∃ z, e = .returned z ∧ Made w' w.heap.size 53 2 z (l.map cutRow)) ∧ Below w.heap.size w w' := by
  obtain ⟨a, cap, rfl, hc⟩ := cuts_cells h
  clear h
  go_enter Tryz.func118, Tryz.ntmps118
  go_wp2
  go_loopw [3, 8] (fun o i wr => Below w.heap.size w wr ∧ ∃ j : Nat, i = .int .i64 j ∧ j ≤ l.length ∧ Made wr w.heap.size 53 2 o ((l.take j).map cutRow)) (fun _ i _ => l.length - (intOf i).toNat)
  case atStart => exact ⟨Below.refl _ _, 0, rfl, Nat.zero_le _, Made.nil _ _ _ _⟩
  case round =>
    obtain ⟨hB, j, rfl, hj, hM⟩ := hrel
    have hsz := hB.size
    by_cases hlt : j < l.length
    · obtain ⟨g, rfl, q0, q1⟩ := hc j hlt
      have hgl : g < w.heap.size := World.block_lt_of_cell? w _ q0
      have p0 := (hB.cell (p := ⟨g, j * 2, none⟩) hgl).trans q0
      have p1 := (hB.cell (p := ⟨g, j * 2 + 1, none⟩) hgl).trans q1
      have HR := hide (cutRow_take l j hlt)
      generalize hcn : l[j] = cn at *
      clear hcn q0 q1
      have hM2 := hM.kept (((Below.refl _ _).alloc (Nat.le_refl _) (Obj.cells #[.int .i64 cn.1, .int .i64 cn.2] 53)).alloc (by simp) (Obj.cells #[.int .i64 cn.1, .int .i64 cn.2] 53))
      go_wp2_with (at_builtin; go_must (refine wpList_append_made (.tmp 12) (.tmp 14) 49 53 _ 2 16 _ ((l.take j).map cutRow) j (cutRow cn) w.heap.size ⟨wr.heap.size + 1, 0, none⟩ 1 (by simp; omega) rfl rfl Tryz.underlying49 Tryz.infoCut rfl (by decide) rfl rfl hM2 rfl (cell_two_new' _ _ _ _) (by simp [cutRow, Value.oneCell']) (by simp only [maxLen]; omega) (by omega) (by simp; omega) ?_; intro ao cap2 w2 hM3 hB3))
      go_roundw
      case rel => exact ⟨((hB.alloc (by omega) _).alloc (by simp; omega) _).trans hB3, j + 1, by go_num, by omega, by rw [HR.out]; simpa using hM3⟩
      case measure => simp [intOf]; omega
    · have hje : j = l.length := by omega
      rw [hje, List.take_length] at hM
      clear hje
      go_wp2
      go_ret
      exact ⟨⟨_, rfl, hM⟩, hB⟩

/-- A segment of the program. -/
structure XSeg where
  up : Bool
  epoch : Int
  cuts : List (Int × Int)
  places : List (Int × Int × Int)

def placeRow (p : Int × Int × Int) : List Value := [.int .i64 p.1, .int .i64 p.2.1, .int .i64 p.2.2]
def xsegRow (s : XSeg) (vc : Value) : List Value := [.bool s.up, .int .i64 s.epoch, vc] ++ (s.places.map placeRow).flatten

/-- The segment's cells lie at offset o of block b. -/
structure SegAt (w : World) (b o : Nat) (s : XSeg) (vc : Value) : Prop where
  cell : ∀ j, j < 123 → w.cell? ⟨b, o + j, none⟩ = (xsegRow s vc)[j]?
  len : s.places.length = 40

theorem placeRows_len (l : List (Int × Int × Int)) : ∀ r ∈ l.map placeRow, r.length = 3 := by
  intro r hr
  obtain ⟨p, _, rfl⟩ := List.mem_map.1 hr
  rfl

theorem SegAt.lt {w : World} {b o : Nat} {s : XSeg} {vc : Value} (h : SegAt w b o s vc) : b < w.heap.size := World.block_lt_of_cell? w ⟨b, o + 0, none⟩ (h.cell 0 (by omega))
theorem SegAt.below {w w' : World} {b o : Nat} {s : XSeg} {vc : Value} (h : SegAt w b o s vc) (hb : Below w.heap.size w w') : SegAt w' b o s vc :=
  ⟨fun j hj => (hb.cell (p := ⟨b, o + j, none⟩) h.lt).trans (h.cell j hj), h.len⟩
theorem SegAt.place {w : World} {b o : Nat} {s : XSeg} {vc : Value} (h : SegAt w b o s vc) (i : Nat) (hi : i < s.places.length) :
    w.cell? ⟨b, o + 3 + i * 3, none⟩ = some (.int .i64 s.places[i].1) ∧ w.cell? ⟨b, o + 3 + i * 3 + 1, none⟩ = some (.int .i64 s.places[i].2.1) ∧ w.cell? ⟨b, o + 3 + i * 3 + 2, none⟩ = some (.int .i64 s.places[i].2.2) := by
  have hl := h.len
  have f : ∀ j, j < 3 → w.cell? ⟨b, o + 3 + i * 3 + j, none⟩ = (placeRow s.places[i])[j]? := fun j hj => by
    have := h.cell (3 + (i * 3 + j)) (by omega)
    rw [show o + (3 + (i * 3 + j)) = o + 3 + i * 3 + j from by omega] at this
    rw [this]
    unfold xsegRow
    rw [List.getElem?_append_right (by simp), show 3 + (i * 3 + j) - [Value.bool s.up, .int .i64 s.epoch, vc].length = i * 3 + j from by simp]
    rw [flatten_get (placeRows_len _) i j (by simpa using hi) hj]
    simp
  exact ⟨f 0 (by omega), f 1 (by omega), f 2 (by omega)⟩

def xsclUp (l : List (Int × Int × Int)) : Nat → Nat → Nat
  | 0, n => n
  | f + 1, n => match l[n]? with | some p => if p.1 == 2 then xsclUp l f (n + 1) else n | none => n
def xscl (s : XSeg) : Nat := xsclUp s.places 40 0
theorem xsclUp_step (l : List (Int × Int × Int)) (f n : Nat) (h : n < l.length) : xsclUp l (f + 1) n = if l[n].1 == 2 then xsclUp l f (n + 1) else n := by
  simp only [xsclUp]; rw [List.getElem?_eq_getElem h]

set_option maxHeartbeats 1000000 in
theorem xscl_any {w : World} {b o : Nat} {s : XSeg} {vc : Value} (h : SegAt w b o s vc) :
    Calls Tryz.prog 113 #[.pointer (some ⟨b, o, none⟩)] w fun e w' => e = .returned (.int .i64 (xscl s)) ∧ w' = w := by
  have hl := h.len
  have hp := h.place
  clear h
  go_enter Tryz.func113, Tryz.ntmps113
  go_wp2
  go_loop [3] (fun i => ∃ j : Nat, j ≤ 40 ∧ i = .int .i64 j ∧ Hid (xscl s = xsclUp s.places (40 - j) j)) (fun i => 40 - (intOf i).toNat)
  case atStart => exact ⟨0, by omega, rfl, hide rfl⟩
  case round =>
    obtain ⟨j, hj, rfl, hx⟩ := hrel
    by_cases hlt : j < 40
    · have hd : decide ((j : Int) < 40) = true := by simp; omega
      obtain ⟨q0, _, _⟩ := hp j (by omega)
      have hs := xsclUp_step s.places (40 - (j + 1)) j (by omega)
      rw [show 40 - (j + 1) + 1 = 40 - j from by omega] at hs
      have hx' := hx.out
      rw [hs] at hx'
      clear hs hx
      cases hst : (s.places[j].1 == 2)
      · rw [hst] at hx'
        have HX := hide hx'
        clear hx'
        go_wp2
        go_ret
        exact ⟨by rw [HX.out]; rfl, rfl⟩
      · rw [hst] at hx'
        have HX := hide hx'
        clear hx'
        go_wp2
        go_round
        case rel => exact ⟨j + 1, by omega, by go_num, HX⟩
        case measure => simp [intOf]; omega
    · have hd : decide ((j : Int) < 40) = false := by simp; omega
      have HX : Hid (xscl s = j) := hide (by rw [hx.out, show 40 - j = 0 from by omega]; rfl)
      clear hx
      go_wp2
      go_ret
      exact ⟨by rw [HX.out]; rfl, rfl⟩
end Go.Proofs.YtfpbkghcjaonlaaGreat
