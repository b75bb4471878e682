import Derived.Test.YtfpbkghcjaonlaaGreatJ25
import Derived.Test.YtfpbkghcjaonlaaGreatJ22
/-
  The program: a segment that may be written.
-/
namespace Go.Proofs.YtfpbkghcjaonlaaGreat
open Go.RowKit

/-- What a volume has beside one segment. -/
structure VR where
  wi : Int
  room : Int
  vM : Value
  vW : Value
  rows : List (List Value)

/-- A segment that may be written: it lies at offset o of the volume's block. -/
structure SegW (k : Nat → Nat) (w : World) (px : Nat) (r : VR) (i o : Nat) (s : XSeg) (vc : Value) : Prop where
  blk : Blk k w cX px 77 (volCells r.wi r.room r.vM (r.rows.set i (xsegRow s vc)) r.vW)
  l6 : r.rows.length = 6
  len : ∀ a ∈ r.rows, a.length = 123
  hi : i < 6
  ho : o = 3 + i * 123
  pl : s.places.length = 40

theorem xsegRow_len (s : XSeg) (vc : Value) (h : s.places.length = 40) : (xsegRow s vc).length = 123 := by
  unfold xsegRow
  have := flatten_len (placeRows_len s.places)
  simp only [List.length_append, List.length_cons, List.length_nil, this, List.length_map, h]

theorem set_lens {rows : List (List Value)} {i : Nat} {a : List Value} (h : ∀ b ∈ rows, b.length = 123) (ha : a.length = 123) : ∀ b ∈ rows.set i a, b.length = 123 := fun b hb => by
  rcases List.mem_or_eq_of_mem_set hb with h1 | rfl
  · exact h b h1
  · exact ha

theorem volCells_set {wi room : Int} {vM vW : Value} {rows : List (List Value)} (hl : ∀ r ∈ rows, r.length = 123) (i j : Nat) (hi : i < rows.length) (hj : j < 123) (v : Value) :
    (volCells wi room vM rows vW).set (3 + i * 123 + j) v = volCells wi room vM (rows.set i ((rows[i]'hi).set j v)) vW := by
  unfold volCells
  have hf := flatten_len hl
  have hlt : (i + 1) * 123 ≤ rows.length * 123 := Nat.mul_le_mul_right _ hi
  rw [List.set_append_right _ _ (by simp; omega)]
  rw [show 3 + i * 123 + j - [Value.int .i64 wi, .int .i64 room, vM].length = i * 123 + j from by simp; omega]
  rw [List.set_append_left _ _ (by rw [hf]; omega), flatten_set hl i j hi hj]

section
variable {k k' : Nat → Nat} {w w' : World} {px : Nat} {r : VR} {i o : Nat} {s s' : XSeg} {vc vc' : Value} {C : Nat → Prop}

theorem SegW.at_ (h : SegW k w px r i o s vc) : SegAt w px o s vc := by
  have h6 := h.l6
  have hi := h.hi
  refine ⟨fun j hj => ?_, h.pl⟩
  rw [h.blk.cell, h.ho, volCells_seg (set_lens h.len (xsegRow_len s vc h.pl)) i j (by simp; omega) hj]
  simp
theorem SegW.lt (h : SegW k w px r i o s vc) : px < w.heap.size := h.blk.lt
theorem SegW.col (h : SegW k w px r i o s vc) : k px = cX := h.blk.2
theorem SegW.free (h : SegW k w px r i o s vc) (j : Nat) : w.frozen? ⟨px, j, none⟩ = false := h.blk.free j
theorem SegW.evo (h : SegW k w px r i o s vc) (g : Evo k k' C w w') (hc : ¬ C cX) : SegW k' w' px r i o s vc := ⟨h.blk.evo g hc, h.l6, h.len, h.hi, h.ho, h.pl⟩
theorem SegW.below (h : SegW k w px r i o s vc) (hb : Below w.heap.size w w') : SegW k w' px r i o s vc := h.evo (Evo.of_below (C := noC) hb) (noC_not _)
theorem SegW.set (h : SegW k w px r i o s vc) (j : Nat) (hj : j < 123) (v : Value) (hr : (xsegRow s vc).set j v = xsegRow s' vc') (hp : s'.places.length = 40) : SegW k (w.setCell ⟨px, o + j, none⟩ v) px r i o s' vc' := by
  have h6 := h.l6
  have hi := h.hi
  have hb := h.blk.set (o + j) v
  rw [h.ho, volCells_set (set_lens h.len (xsegRow_len s vc h.pl)) i j (by simp; omega) hj] at hb
  simp only [List.getElem_set_self, List.set_set, hr] at hb
  exact ⟨by rw [h.ho]; exact hb, h.l6, h.len, h.hi, h.ho, hp⟩

theorem xsegRow_up (s : XSeg) (vc : Value) (b : Bool) : (xsegRow s vc).set 0 (.bool b) = xsegRow { s with up := b } vc := rfl
theorem xsegRow_epoch (s : XSeg) (vc : Value) (e : Int) : (xsegRow s vc).set 1 (.int .i64 e) = xsegRow { s with epoch := e } vc := rfl
theorem xsegRow_cuts (s : XSeg) (vc v : Value) (l : List (Int × Int)) : (xsegRow s vc).set 2 v = xsegRow { s with cuts := l } v := rfl
theorem xsegRow_place (s : XSeg) (vc : Value) (j t : Nat) (hj : j < s.places.length) (ht : t < 3) (v : Value) (p : Int × Int × Int) (hp : (placeRow s.places[j]).set t v = placeRow p) : (xsegRow s vc).set (3 + j * 3 + t) v = xsegRow { s with places := s.places.set j p } vc := by
  unfold xsegRow
  rw [List.set_append_right _ _ (by simp; omega), show 3 + j * 3 + t - [Value.bool s.up, .int .i64 s.epoch, vc].length = j * 3 + t from by simp; omega, flatten_set (placeRows_len _) j t (by simpa using hj) ht]
  simp only [List.getElem_map, hp, List.map_set]

/-- A place is written whole. -/
theorem SegW.place (h : SegW k w px r i o s vc) (j : Nat) (hj : j < 40) (p : Int × Int × Int) :
    SegW k (((w.setCell ⟨px, o + 3 + j * 3, none⟩ (.int .i64 p.1)).setCell ⟨px, o + 3 + j * 3 + 1, none⟩ (.int .i64 p.2.1)).setCell ⟨px, o + 3 + j * 3 + 2, none⟩ (.int .i64 p.2.2)) px r i o { s with places := s.places.set j p } vc := by
  have hl := h.pl
  have h1 := h.set (3 + j * 3 + 0) (by omega) (.int .i64 p.1) (xsegRow_place s vc j 0 (by omega) (by omega) _ (p.1, s.places[j].2) rfl) (by simpa using hl)
  have h2 := h1.set (3 + j * 3 + 1) (by omega) (.int .i64 p.2.1) (xsegRow_place _ vc j 1 (by simp; omega) (by omega) _ (p.1, p.2.1, s.places[j].2.2) (by simp [placeRow])) (by simpa using hl)
  have h3 := h2.set (3 + j * 3 + 2) (by omega) (.int .i64 p.2.2) (xsegRow_place _ vc j 2 (by simp; omega) (by omega) _ p (by simp [placeRow])) (by simpa using hl)
  simp only [List.set_set] at h3
  rw [show o + 3 + j * 3 = o + (3 + j * 3 + 0) from by omega, show o + (3 + j * 3 + 0) + 1 = o + (3 + j * 3 + 1) from by omega, show o + (3 + j * 3 + 0) + 2 = o + (3 + j * 3 + 2) from by omega]
  exact h3
/-- The state of a place is written. -/
theorem SegW.state (h : SegW k w px r i o s vc) (j : Nat) (hj : j < s.places.length) (a : Int) :
    SegW k (w.setCell ⟨px, o + 3 + j * 3, none⟩ (.int .i64 a)) px r i o { s with places := s.places.set j (a, s.places[j].2) } vc := by
  have hl := h.pl
  have h1 := h.set (3 + j * 3 + 0) (by omega) (.int .i64 a) (xsegRow_place s vc j 0 (by omega) (by omega) _ (a, s.places[j].2) rfl) (by simpa using hl)
  rw [show o + 3 + j * 3 = o + (3 + j * 3 + 0) from by omega]
  exact h1
end

/-- A segment of the volume, to be written, and back. -/
theorem seg_write {k : Nat → Nat} {w : World} {px : Nat} {x : XVol} (hx : XVolIs k w px x) (i : Nat) (hi : i < 6) :
    ∃ (r : VR) (c0 : Option Addr) (c1 c2 : Nat) (hl : i < x.segs.length), SegW k w px r i (3 + i * 123) x.segs[i] (.slice c0 c1 c2) ∧ CutsIm k w (.slice c0 c1 c2) x.segs[i].cuts ∧
      ∀ k' w' s' vc', Evo k k' (fun c => c = cX) w w' → SegW k' w' px r i (3 + i * 123) s' vc' → CutsIm k' w' vc' s'.cuts → XVolIs k' w' px (x.setSeg i s') := by
  obtain ⟨vM, vW, sr, wr, hB, hM, hS, hW⟩ := hx.ex
  have l1 := hS.l1
  have l2 := hS.l2
  have hlen : ∀ a ∈ sr, a.length = 123 := by
    intro a ha
    obtain ⟨j, hj, rfl⟩ := List.getElem_of_mem ha
    obtain ⟨vc, h1, _, h3⟩ := hS.all j hj (by omega)
    rw [h1]; exact xsegRow_len _ _ h3
  obtain ⟨vc, hr, hc, hp⟩ := hS.all i (by omega) (by omega)
  obtain ⟨c0, c1, c2, hz⟩ := Rows.shape hc
  subst hz
  refine ⟨⟨x.wi, x.room, vM, vW, sr⟩, c0, c1, c2, by omega, ⟨?_, l1, hlen, hi, rfl, hp⟩, hc, ?_⟩
  · rw [← hr, List.set_getElem_self]; exact hB
  · intro k' w' s' vc' ev hS' hC'
    have him : ¬ (IM = cX) := by decide
    refine ⟨vM, vW, sr.set i (xsegRow s' vc'), wr, hS'.blk, hM.evo ev (by decide) him, ⟨by simpa using l1, by simpa [XVol.setSeg] using l2, ?_⟩, hW.evo ev him (by decide) (fun c a b => by unfold cX; omega)⟩
    intro j h1 h2
    simp only [XVol.setSeg, List.length_set] at h1 h2
    show ∃ vc, (sr.set i (xsegRow s' vc'))[j]'(by simpa using h1) = xsegRow ((x.segs.set i s')[j]'(by simpa using h2)) vc ∧ CutsIm k' w' vc ((x.segs.set i s')[j]'(by simpa using h2)).cuts ∧ ((x.segs.set i s')[j]'(by simpa using h2)).places.length = 40
    rw [List.getElem_set, List.getElem_set]
    by_cases e : i = j
    · subst e
      rw [if_pos rfl, if_pos rfl]
      exact ⟨vc', rfl, hC', hS'.pl⟩
    · rw [if_neg e, if_neg e]
      obtain ⟨vc, h1, h2, h3⟩ := hS.all j h1 h2
      exact ⟨vc, h1, h2.evo ev him, h3⟩
end Go.Proofs.YtfpbkghcjaonlaaGreat

/-
  The program: a segment: Down, Newer, at, Value, Need, give.
-/
namespace Go.Proofs.YtfpbkghcjaonlaaGreat
open Go.RowKit

set_option maxHeartbeats 1000000 in
theorem sdown_any {w : World} {b o : Nat} {s : XSeg} {vc : Value} (h : SegAt w b o s vc) :
    Calls Tryz.prog 78 #[.pointer (some ⟨b, o, none⟩)] w fun e w' => e = .returned (.bool (!s.up)) ∧ w' = w := by
  have q0 : w.cell? ⟨b, o, none⟩ = some (.bool s.up) := h.cell 0 (by omega)
  clear h
  go_enter Tryz.func78, Tryz.ntmps78
  go_wp2_with fail
  go_ret
  exact ⟨rfl, rfl⟩

set_option maxHeartbeats 1000000 in
theorem snewer_any {w : World} {b o : Nat} {s : XSeg} {vc : Value} (h : SegAt w b o s vc) (n : Int) :
    Calls Tryz.prog 79 #[.pointer (some ⟨b, o, none⟩), .int .i64 n] w fun e w' => e = .returned (.bool (decide (n < s.epoch))) ∧ w' = w := by
  have q1 : w.cell? ⟨b, o + 1, none⟩ = some (.int .i64 s.epoch) := h.cell 1 (by omega)
  clear h
  go_enter Tryz.func79, Tryz.ntmps79
  go_wp2_with fail
  go_ret
  exact ⟨rfl, rfl⟩

def placeVal (p : Int × Int × Int) : Value := .agg #[.int .i64 p.1, .int .i64 p.2.1, .int .i64 p.2.2]

set_option maxHeartbeats 2000000 in
theorem sat_any {w : World} {b o : Nat} {s : XSeg} {vc : Value} (h : SegAt w b o s vc) (lsn : Int) :
    Calls Tryz.prog 108 #[.pointer (some ⟨b, o, none⟩), .int .i64 lsn] w fun e w' => e = .returned (placeVal (s.at_ lsn)) ∧ Below w.heap.size w w' := by
  have hl := h.len
  have hbl := h.lt
  have hbn : ¬ b = w.heap.size := by omega
  unfold placeVal
  by_cases h1 : lsn < 1
  · have HE : Hid (s.at_ lsn = (0, 0, 0)) := hide (by unfold XSeg.at_; rw [if_pos (.inl h1)])
    have d1 : decide (lsn < 1) = true := by simpa using h1
    clear h
    rw [HE.out]
    go_enter Tryz.func108, Tryz.ntmps108
    go_wp2_with fail
    exact bodyPost_ret (v := .agg #[.int .i64 0, .int .i64 0, .int .i64 0]) (by simp [results, Tryz.results108, go_sem]) rfl ⟨rfl, (Below.refl _ _).alloc (Nat.le_refl _) _⟩
  · have d1 : decide (lsn < 1) = false := by simpa using h1
    by_cases h2 : 40 < lsn
    · have HE : Hid (s.at_ lsn = (0, 0, 0)) := hide (by unfold XSeg.at_; rw [if_pos (.inr h2)])
      have d2 : decide (40 < lsn) = true := by simpa using h2
      clear h
      rw [HE.out]
      go_enter Tryz.func108, Tryz.ntmps108
      go_wp2_with fail
      exact bodyPost_ret (v := .agg #[.int .i64 0, .int .i64 0, .int .i64 0]) (by simp [results, Tryz.results108, go_sem]) rfl ⟨rfl, (Below.refl _ _).alloc (Nat.le_refl _) _⟩
    · have d2 : decide (40 < lsn) = false := by simpa using h2
      obtain ⟨j, hj⟩ : ∃ j : Nat, lsn = (j : Int) + 1 := ⟨(lsn - 1).toNat, by omega⟩
      subst hj
      have hjl : j < s.places.length := by omega
      obtain ⟨q0, q1, q2⟩ := h.place j hjl
      have HE : Hid (s.at_ ((j : Int) + 1) = s.places[j]) := hide (by
        unfold XSeg.at_
        rw [if_neg (by omega), show ((j : Int) + 1 - 1).toNat = j from by omega, List.getD_eq_getElem?_getD, List.getElem?_eq_getElem hjl]; rfl)
      rw [HE.out]
      generalize s.places[j] = pj at *
      have hwr : IntKind.i64.wrap ((j : Int) + 1 - 1) = (j : Int) := by rw [show (j : Int) + 1 - 1 = (j : Int) from by omega, IntKind.wrap_i64] <;> omega
      have hj40 : (j : Int) < 40 := by omega
      have hj0 : ¬ (j : Int) < 0 := by omega
      clear h h1 h2
      go_enter Tryz.func108, Tryz.ntmps108
      go_wp2_with fail
      exact bodyPost_ret (v := .agg #[.int .i64 pj.1, .int .i64 pj.2.1, .int .i64 pj.2.2]) (by simp [results, Tryz.results108, go_sem]) rfl ⟨rfl, (Below.refl _ _).alloc (Nat.le_refl _) _⟩

set_option maxHeartbeats 1000000 in
theorem svalue_any {w : World} {b o : Nat} {s : XSeg} {vc : Value} (h : SegAt w b o s vc) (lsn : Int) :
    Calls Tryz.prog 81 #[.pointer (some ⟨b, o, none⟩), .int .i64 lsn] w fun e w' => e = .returned (.int .i64 (s.value lsn)) ∧ Below w.heap.size w w' := by
  have HA := hide (sat_any h lsn)
  unfold placeVal at HA
  obtain ⟨r, hr⟩ : ∃ r, r = s.value lsn := ⟨_, rfl⟩
  rw [← hr]
  unfold XSeg.value at hr
  generalize s.at_ lsn = p at *
  have HR := hide hr
  clear h hr
  by_cases h2 : p.1 = 2
  · have HE : Hid (r = p.2.2) := hide (by rw [HR.out, if_pos h2])
    have hd : (p.1 != 2) = false := by simpa using h2
    clear h2
    go_enter Tryz.func81, Tryz.ntmps81
    go_wp2_with fail
    refine HA.out.mono ?_
    rintro e1 w1 ⟨rfl, hb1⟩
    go_wp2_with fail
    go_ret
    exact ⟨by rw [HE.out]; rfl, hb1.alloc hb1.size _⟩
  · have HE : Hid (r = 0) := hide (by rw [HR.out, if_neg h2])
    have hd : (p.1 != 2) = true := by simpa using h2
    clear h2
    go_enter Tryz.func81, Tryz.ntmps81
    go_wp2_with fail
    refine HA.out.mono ?_
    rintro e1 w1 ⟨rfl, hb1⟩
    go_wp2_with fail
    go_ret
    exact ⟨by rw [HE.out]; rfl, hb1.alloc hb1.size _⟩

set_option maxRecDepth 3000 in
set_option maxHeartbeats 2000000 in
theorem sneed_any {w : World} {b o : Nat} {s : XSeg} {vc : Value} (h : SegAt w b o s vc) (a c : Int) :
    Calls Tryz.prog 91 #[.pointer (some ⟨b, o, none⟩), .int .i64 a, .int .i64 c] w fun e w' => e = .returned (.agg #[.int .i64 7, .int .i64 a, .int .i64 c, .int .i64 0, .int .i64 ((xscl s : Int) + 1), .int .i64 0, .int .i64 0, .slice none 0 0, .slice none 0 0]) ∧ Below w.heap.size w w' := by
  have HS : Hid (∀ W, Below w.heap.size w W → Calls Tryz.prog 113 #[.pointer (some ⟨b, o, none⟩)] W fun e w' => e = .returned (.int .i64 (xscl s)) ∧ w' = W) := hide fun W hW => xscl_any (h.below hW)
  have hle : xscl s ≤ 40 := by
    obtain ⟨m, hm, he, _⟩ := Sim.xscl_exists s h.len
    omega
  clear h
  generalize xscl s = sc at *
  have hwr : IntKind.i64.wrap ((sc : Int) + 1) = (sc : Int) + 1 := by rw [IntKind.wrap_i64] <;> omega
  go_enter Tryz.func91, Tryz.ntmps91
  go_wp2_with fail
  refine (HS.out _ ((Below.refl _ _).alloc (Nat.le_refl _) _)).mono ?_
  rintro e1 w1 ⟨rfl, rfl⟩
  go_wp2_with fail
  exact bodyPost_ret (v := .agg #[.int .i64 7, .int .i64 a, .int .i64 c, .int .i64 0, .int .i64 ((sc : Int) + 1), .int .i64 0, .int .i64 0, .slice none 0 0, .slice none 0 0]) (by simp [results, Tryz.results91, go_sem]) rfl ⟨rfl, (Below.refl _ _).alloc (Nat.le_refl _) _⟩
/-- A message that is answered. -/
def MAns (k : Nat → Nat) (w : World) (m : Msg) (v : Value) : Prop :=
  ∃ (z0 : Option Addr) (z1 z2 : Nat) (y0 : Option Addr) (y1 y2 : Nat), v = .agg #[.int .i64 m.kind, .int .i64 m.frm, .int .i64 m.to_, .int .i64 m.epoch, .int .i64 m.lsn, .int .i64 m.value, .int .i64 m.scl, .slice z0 z1 z2, .slice y0 y1 y2] ∧ CutsIm k w (.slice z0 z1 z2) m.cuts ∧ IntsIm k w (.slice y0 y1 y2) m.marks
/-- A message, and whether it is to be sent. -/
def OAns (k : Nat → Nat) (w : World) (o : Option Msg) (v : Value) : Prop :=
  ∃ (mm : Msg) (z0 : Option Addr) (z1 z2 : Nat) (y0 : Option Addr) (y1 y2 : Nat), v = .tuple #[.agg #[.int .i64 mm.kind, .int .i64 mm.frm, .int .i64 mm.to_, .int .i64 mm.epoch, .int .i64 mm.lsn, .int .i64 mm.value, .int .i64 mm.scl, .slice z0 z1 z2, .slice y0 y1 y2], .bool o.isSome] ∧ CutsIm k w (.slice z0 z1 z2) mm.cuts ∧ IntsIm k w (.slice y0 y1 y2) mm.marks ∧ ∀ m', o = some m' → m' = mm

theorem OAns.none (k : Nat → Nat) (w : World) : OAns k w none (.tuple #[.agg #[.int .i64 0, .int .i64 0, .int .i64 0, .int .i64 0, .int .i64 0, .int .i64 0, .int .i64 0, .slice none 0 0, .slice none 0 0], .bool false]) :=
  ⟨m0, .none, 0, 0, .none, 0, 0, rfl, Rows.nil _ _ _ _ _, Rows.nil _ _ _ _ _, fun m' hm' => by simp at hm'⟩

/-- A block of nine cells, as the walk asks for it. -/
theorem cells9m {w : World} {b e : Nat} {c0 c1 c2 c3 c4 c5 c6 c7 c8 : Value} (h : w.heap[b]? = some (.cells #[c0, c1, c2, c3, c4, c5, c6, c7, c8] e (0, 0))) :
    (w.cell? ⟨b, 0, none⟩ = some c0 ∧ w.cell? ⟨b, 1, none⟩ = some c1 ∧ w.cell? ⟨b, 2, none⟩ = some c2 ∧ w.cell? ⟨b, 3, none⟩ = some c3 ∧ w.cell? ⟨b, 4, none⟩ = some c4 ∧ w.cell? ⟨b, 5, none⟩ = some c5 ∧ w.cell? ⟨b, 6, none⟩ = some c6 ∧ w.cell? ⟨b, 7, none⟩ = some c7 ∧ w.cell? ⟨b, 8, none⟩ = some c8) ∧
    (w.frozen? ⟨b, 0, none⟩ = false ∧ w.frozen? ⟨b, 1, none⟩ = false ∧ w.frozen? ⟨b, 2, none⟩ = false ∧ w.frozen? ⟨b, 3, none⟩ = false ∧ w.frozen? ⟨b, 4, none⟩ = false ∧ w.frozen? ⟨b, 5, none⟩ = false ∧ w.frozen? ⟨b, 6, none⟩ = false ∧ w.frozen? ⟨b, 7, none⟩ = false ∧ w.frozen? ⟨b, 8, none⟩ = false) ∧ b < w.heap.size := by
  have hb : Blk (fun _ => 0) w 0 b e [c0, c1, c2, c3, c4, c5, c6, c7, c8] := ⟨h, rfl⟩
  exact ⟨⟨hb.cell 0, hb.cell 1, hb.cell 2, hb.cell 3, hb.cell 4, hb.cell 5, hb.cell 6, hb.cell 7, hb.cell 8⟩, ⟨hb.free 0, hb.free 1, hb.free 2, hb.free 3, hb.free 4, hb.free 5, hb.free 6, hb.free 7, hb.free 8⟩, hb.lt⟩

end Go.Proofs.YtfpbkghcjaonlaaGreat

/-
  The program: a segment: fence.
-/
namespace Go.Proofs.YtfpbkghcjaonlaaGreat
open Go.RowKit

theorem Evo.then_below {k k1 k' : Nat → Nat} {C : Nat → Prop} {a b c : World} (h : Evo k k1 C a b) (hb : Below a.heap.size b c) (hk : ∀ i, i < a.heap.size → k' i = k1 i) : Evo k k' C a c :=
  ⟨hb.os.trans h.os, hb.tape.trans h.tape, hb.output.trans h.output, Nat.le_trans h.size hb.size, fun i hi => (hk i hi).trans (h.col i hi), fun i hi hc => (hb.block i hi).trans (h.keep i hi hc)⟩
theorem SegW.then_below {k k' : Nat → Nat} {w w' : World} {px : Nat} {r : VR} {i o B : Nat} {s : XSeg} {vc : Value} (h : SegW k w px r i o s vc) (hb : Below B w w') (hp : px < B) (hk : k' px = cX) : SegW k' w' px r i o s vc :=
  ⟨⟨(hb.block px hp).trans h.blk.1, hk⟩, h.l6, h.len, h.hi, h.ho, h.pl⟩

/-- What a call of a segment leaves. -/
def SegOut (k : Nat → Nat) (w w' : World) (px : Nat) (r : VR) (i o : Nat) (s' : XSeg) (P : (Nat → Nat) → Prop) : Prop :=
  ∃ k' d0 d1 d2, Evo k k' (fun c => c = cX) w w' ∧ SegW k' w' px r i o s' (.slice d0 d1 d2) ∧ CutsIm k' w' (.slice d0 d1 d2) s'.cuts ∧ P k'

/-- The colours when all that is new is never written again. -/
def kIm (k : Nat → Nat) (n : Nat) : Nat → Nat := fun g => if g < n then k g else IM
theorem kIm_old (k : Nat → Nat) (n i : Nat) (h : i < n) : kIm k n i = k i := if_pos h
theorem kIm_new (k : Nat → Nat) (n i : Nat) (h : n ≤ i) : kIm k n i = IM := if_neg (by omega)

theorem SegOut.quiet {k : Nat → Nat} {w w' : World} {px : Nat} {r : VR} {i o : Nat} {s : XSeg} {c0 : Option Addr} {c1 c2 : Nat} {P : (Nat → Nat) → Prop} (h : SegW k w px r i o s (.slice c0 c1 c2)) (hc : CutsIm k w (.slice c0 c1 c2) s.cuts) (hb : Below w.heap.size w w') (hP : P (kIm k w.heap.size)) : SegOut k w w' px r i o s P := by
  have ev : Evo k (kIm k w.heap.size) (fun c => c = cX) w w' := (Evo.refl k _ w).then_below hb (fun i hi => kIm_old _ _ _ hi)
  exact ⟨_, c0, c1, c2, ev, h.then_below hb h.lt ((kIm_old _ _ _ h.lt).trans h.col), hc.evo ev (by decide), hP⟩

set_option maxRecDepth 3000 in
set_option maxHeartbeats 2000000 in
theorem sfence_any {k : Nat → Nat} {w : World} {px : Nat} {r : VR} {i o : Nat} {s : XSeg} {c0 : Option Addr} {c1 c2 : Nat} (h : SegW k w px r i o s (.slice c0 c1 c2)) (hc : CutsIm k w (.slice c0 c1 c2) s.cuts) (m : Msg) (z0 y0 : Option Addr) (z1 z2 y1 y2 : Nat) :
    Calls Tryz.prog 130 #[.pointer (some ⟨px, o, none⟩), .agg #[.int .i64 m.kind, .int .i64 m.frm, .int .i64 m.to_, .int .i64 m.epoch, .int .i64 m.lsn, .int .i64 m.value, .int .i64 m.scl, .slice z0 z1 z2, .slice y0 y1 y2]] w fun e w' => ∃ v, e = .returned v ∧ SegOut k w w' px r i o (s.fence m).1 (fun k' => MAns k' w' (s.fence m).2 v) := by
  have hk := h.col
  have hbl := h.lt
  have hbn : ¬ px = w.heap.size := by omega
  have hbn1 : ¬ px = w.heap.size + 1 := by omega
  obtain ⟨mk, mf, mt, m3, m4, m5, m6, mc, mm⟩ := m
  dsimp only at *
  have HW := hide h
  have HC := hide hc
  by_cases hlt : m3 < s.epoch
  · have HE : Hid (s.fence ⟨mk, mf, mt, m3, m4, m5, m6, mc, mm⟩ = (s, ⟨5, mt, mf, s.epoch, 0, 0, 0, [], []⟩)) := hide (by unfold XSeg.fence; rw [if_pos hlt]; rfl)
    have hd : decide (m3 < s.epoch) = true := by simpa using hlt
    have HRf : Hid (∀ W, Below w.heap.size w W → Calls Tryz.prog 138 #[.pointer (some ⟨px, o, none⟩), .agg #[.int .i64 mk, .int .i64 mf, .int .i64 mt, .int .i64 m3, .int .i64 m4, .int .i64 m5, .int .i64 m6, .slice z0 z1 z2, .slice y0 y1 y2]] W fun e w' => e = .returned (.agg #[.int .i64 5, .int .i64 mt, .int .i64 mf, .int .i64 s.epoch, .int .i64 0, .int .i64 0, .int .i64 0, .slice none 0 0, .slice none 0 0]) ∧ Below W.heap.size W w') := hide fun W hW => refusal_any (h.at_.below hW) mk mf mt m3 m4 m5 m6 z0 y0 z1 z2 y1 y2
    have q1 : w.cell? ⟨px, o + 1, none⟩ = some (.int .i64 s.epoch) := h.at_.cell 1 (by omega)
    clear h hc hlt
    rw [HE.out]
    dsimp only
    go_enter Tryz.func130, Tryz.ntmps130
    go_wp2_with fail
    obtain ⟨W0, hW0⟩ : ∃ W0, W0 = (w.alloc (Obj.cells #[.int .i64 mk, .int .i64 mf, .int .i64 mt, .int .i64 m3, .int .i64 m4, .int .i64 m5, .int .i64 m6, .slice z0 z1 z2, .slice y0 y1 y2] 109)).alloc (Obj.cells #[.int .i64 0, .int .i64 0, .int .i64 0, .int .i64 0, .int .i64 0, .int .i64 0, .int .i64 0, .slice none 0 0, .slice none 0 0] 109) := ⟨_, rfl⟩
    rw [← hW0]
    have hb0 : Below w.heap.size w W0 := by rw [hW0]; exact ((Below.refl w.heap.size w).alloc (Nat.le_refl _) _).alloc (by simp) _
    have bm0 : Blk (fun _ => 0) W0 0 w.heap.size 109 [.int .i64 mk, .int .i64 mf, .int .i64 mt, .int .i64 m3, .int .i64 m4, .int .i64 m5, .int .i64 m6, .slice z0 z1 z2, .slice y0 y1 y2] := ⟨by rw [hW0, Below.heap_alloc _ _ _ (by simp)]; exact heap_alloc_new w _, rfl⟩
    have br0 : Blk (fun _ => 0) W0 0 (w.heap.size + 1) 109 [.int .i64 0, .int .i64 0, .int .i64 0, .int .i64 0, .int .i64 0, .int .i64 0, .int .i64 0, .slice none 0 0, .slice none 0 0] := ⟨by rw [hW0, heap_alloc2_new], rfl⟩
    have HH := hide hW0
    clear hW0
    have p1 : W0.cell? ⟨px, o + 1, none⟩ = some (.int .i64 s.epoch) := (hb0.cell (p := ⟨px, o + 1, none⟩) hbl).trans q1
    have b3 : W0.cell? ⟨w.heap.size, 3, none⟩ = some (.int .i64 m3) := bm0.cell 3
    have bl0 := bm0.lt
    have bl1 := br0.lt
    have hpl : px < W0.heap.size := Nat.lt_of_lt_of_le hbl hb0.size
    go_quiet (fail)
    have hb9 : Below w.heap.size w (W0.drewN nq) := ⟨hb0.os, hb0.tape, hb0.output, hb0.size, hb0.block⟩
    obtain ⟨⟨a0, a1, a2, a3, a4, a5, a6, a7, a8⟩, -, al⟩ := cells9m (show (W0.drewN nq).heap[w.heap.size]? = _ from bm0.1)
    have hr9 : (W0.drewN nq).heap[w.heap.size + 1]? = _ := br0.1
    generalize W0.drewN nq = W9 at *
    clear bm0 br0 hb0 p1 b3 bl0 bl1 HH
    go_wp2_with fail
    refine (HRf.out _ hb9).mono ?_
    rintro e1 w1 ⟨rfl, hb1⟩
    have hB1 : Below w.heap.size w w1 := hb9.trans (hb1.mono hb9.size)
    obtain ⟨⟨r0, r1, r2, r3, r4, r5, r6, r7, r8⟩, ⟨f0, f1, f2, f3, f4, f5, f6, f7, f8⟩, hlr⟩ := cells9m ((hb1.block _ (Array.getElem?_eq_some_iff.1 hr9).1).trans hr9)
    clear hb1 hr9 a0 a1 a2 a3 a4 a5 a6 a7 a8
    go_wp2_with fail
    refine bodyPost_ret (v := .agg #[.int .i64 5, .int .i64 mt, .int .i64 mf, .int .i64 s.epoch, .int .i64 0, .int .i64 0, .int .i64 0, .slice none 0 0, .slice none 0 0]) (by simp [results, Tryz.results130, go_sem, r0, r1, r2, r3, r4, r5, r6, r7, r8]) rfl ⟨_, rfl, SegOut.quiet HW.out HC.out (below9 hB1 (by omega) _ _ _ _ _ _ _ _ _) ?_⟩
    exact ⟨none, 0, 0, none, 0, 0, rfl, Rows.nil _ _ _ _ _, Rows.nil _ _ _ _ _⟩
  · have HE : Hid (s.fence ⟨mk, mf, mt, m3, m4, m5, m6, mc, mm⟩ = ({ s with epoch := m3 }, ⟨2, mt, mf, m3, 0, 0, 0, s.cuts, xmarks s.places⟩)) := hide (by unfold XSeg.fence; rw [if_neg hlt])
    have hd : decide (m3 < s.epoch) = false := by simpa using hlt
    have q1 : w.cell? ⟨px, o + 1, none⟩ = some (.int .i64 s.epoch) := h.at_.cell 1 (by omega)
    clear h hc hlt
    rw [HE.out]
    dsimp only
    go_enter Tryz.func130, Tryz.ntmps130
    go_wp2_with fail
    obtain ⟨W0, hW0⟩ : ∃ W0, W0 = (w.alloc (Obj.cells #[.int .i64 mk, .int .i64 mf, .int .i64 mt, .int .i64 m3, .int .i64 m4, .int .i64 m5, .int .i64 m6, .slice z0 z1 z2, .slice y0 y1 y2] 109)).alloc (Obj.cells #[.int .i64 0, .int .i64 0, .int .i64 0, .int .i64 0, .int .i64 0, .int .i64 0, .int .i64 0, .slice none 0 0, .slice none 0 0] 109) := ⟨_, rfl⟩
    rw [← hW0]
    have hb0 : Below w.heap.size w W0 := by rw [hW0]; exact ((Below.refl w.heap.size w).alloc (Nat.le_refl _) _).alloc (by simp) _
    have bm0 : Blk (fun _ => 0) W0 0 w.heap.size 109 [.int .i64 mk, .int .i64 mf, .int .i64 mt, .int .i64 m3, .int .i64 m4, .int .i64 m5, .int .i64 m6, .slice z0 z1 z2, .slice y0 y1 y2] := ⟨by rw [hW0, Below.heap_alloc _ _ _ (by simp)]; exact heap_alloc_new w _, rfl⟩
    have br0 : Blk (fun _ => 0) W0 0 (w.heap.size + 1) 109 [.int .i64 0, .int .i64 0, .int .i64 0, .int .i64 0, .int .i64 0, .int .i64 0, .int .i64 0, .slice none 0 0, .slice none 0 0] := ⟨by rw [hW0, heap_alloc2_new], rfl⟩
    have HH := hide hW0
    clear hW0
    have p1 : W0.cell? ⟨px, o + 1, none⟩ = some (.int .i64 s.epoch) := (hb0.cell (p := ⟨px, o + 1, none⟩) hbl).trans q1
    have b3 : W0.cell? ⟨w.heap.size, 3, none⟩ = some (.int .i64 m3) := bm0.cell 3
    have bl0 := bm0.lt
    have bl1 := br0.lt
    have hpl : px < W0.heap.size := Nat.lt_of_lt_of_le hbl hb0.size
    go_quiet (fail)
    have hb9 : Below w.heap.size w (W0.drewN nq) := ⟨hb0.os, hb0.tape, hb0.output, hb0.size, hb0.block⟩
    obtain ⟨⟨-, a1, a2, a3, -, -, -, -, -⟩, -, al⟩ := cells9m (show (W0.drewN nq).heap[w.heap.size]? = _ from bm0.1)
    have hr9 : (W0.drewN nq).heap[w.heap.size + 1]? = _ := br0.1
    have al1 : w.heap.size + 1 < (W0.drewN nq).heap.size := bl1
    generalize W0.drewN nq = W9 at *
    clear bm0 br0 hb0 p1 b3 bl0 bl1 HH q1 hpl
    have hS9 := HW.out.below hb9
    have hpl9 := hS9.lt
    have p1 : W9.cell? ⟨px, o + 1, none⟩ = some (.int .i64 s.epoch) := hS9.at_.cell 1 (by omega)
    have p2 : W9.cell? ⟨px, o + 2, none⟩ = some (.slice c0 c1 c2) := hS9.at_.cell 2 (by omega)
    have g1 := hS9.free (o + 1)
    have ev9 : Evo k k (fun c => c = cX) w (W9.setCell ⟨px, o + 1, none⟩ (.int .i64 m3)) := (Evo.of_below hb9).setCell _ _ (fun _ => hk)
    have hS10 := hS9.set 1 (by omega) (.int .i64 m3) (xsegRow_epoch s _ m3) hS9.pl
    have HM : Hid (∀ W, Below (W9.setCell ⟨px, o + 1, none⟩ (.int .i64 m3)).heap.size (W9.setCell ⟨px, o + 1, none⟩ (.int .i64 m3)) W → Calls Tryz.prog 139 #[.pointer (some ⟨px, o, none⟩)] W fun e w' => (∃ z, e = .returned z ∧ Made w' W.heap.size 3 1 z ((xmarks s.places).map intRow)) ∧ Below W.heap.size W w') := hide fun W hW => smarks_any (s := { s with epoch := m3 }) (hS10.at_.below hW)
    have hne : ¬ w.heap.size = px := fun e => hbn e.symm
    have HFin := hide (And.intro ev9 hS10)
    clear hS9 hS10 ev9 HW
    go_wp2_with fail
    refine (HM.out _ ((Below.refl _ _).alloc (Nat.le_refl _) _)).mono ?_
    rintro e1 w1 ⟨⟨z, rfl, hz⟩, hb1⟩
    obtain ⟨s0, s1, s2, hsz⟩ := made_shape hz
    subst hsz
    simp only [World.size_alloc, World.size_setCell] at hb1 hz
    have hB1 : Below w.heap.size (W9.setCell ⟨px, o + 1, none⟩ (.int .i64 m3)) w1 := ((Below.refl _ _).alloc (by simp; omega) _).trans (hb1.mono (by omega))
    obtain ⟨⟨t0, t1, t2, t3, t4, t5, t6, t7, t8⟩, ⟨h0, h1, h2, h3, h4, h5, h6, h7, h8⟩, hlt⟩ := cells9m ((hb1.block W9.heap.size (by omega)).trans (by
      have := heap_alloc_new (W9.setCell ⟨px, o + 1, none⟩ (.int .i64 m3)) (Obj.cells #[.int .i64 2, .int .i64 mt, .int .i64 mf, .int .i64 m3, .int .i64 0, .int .i64 0, .int .i64 0, .slice c0 c1 c2, .slice none 0 0] 109)
      rw [World.size_setCell] at this
      exact this))
    obtain ⟨⟨r0, r1, r2, r3, r4, r5, r6, r7, r8⟩, ⟨f0, f1, f2, f3, f4, f5, f6, f7, f8⟩, hlr⟩ := cells9m ((hb1.block (w.heap.size + 1) (by omega)).trans (by
      rw [Below.heap_alloc _ _ _ (by simp; omega), heap_setCell_other _ _ _ _ (by simpa using fun e => hbn1 e.symm)]
      exact hr9))
    have hnr : ¬ W9.heap.size = w.heap.size + 1 := by omega
    clear hb1 hr9 a1 a2 a3 p1 p2 g1
    go_wp2_with fail
    obtain ⟨ev9, hS10⟩ := HFin.out
    have hBf : Below w.heap.size (W9.setCell ⟨px, o + 1, none⟩ (.int .i64 m3)) (((((((((( w1.setCell ⟨W9.heap.size, 8, none⟩ (.slice s0 s1 s2)).setCell ⟨w.heap.size + 1, 0, none⟩ (.int .i64 2)).setCell ⟨w.heap.size + 1, 1, none⟩ (.int .i64 mt)).setCell ⟨w.heap.size + 1, 2, none⟩ (.int .i64 mf)).setCell ⟨w.heap.size + 1, 3, none⟩ (.int .i64 m3)).setCell ⟨w.heap.size + 1, 4, none⟩ (.int .i64 0)).setCell ⟨w.heap.size + 1, 5, none⟩ (.int .i64 0)).setCell ⟨w.heap.size + 1, 6, none⟩ (.int .i64 0)).setCell ⟨w.heap.size + 1, 7, none⟩ (.slice c0 c1 c2)).setCell ⟨w.heap.size + 1, 8, none⟩ (.slice s0 s1 s2)) := below9 (hB1.setCell (p := ⟨W9.heap.size, 8, none⟩) (by have := hb9.size; omega) _) (by omega) _ _ _ _ _ _ _ _ _
    have evf := ev9.then_below (k' := kIm k w.heap.size) hBf (fun i hi => kIm_old _ _ _ hi)
    refine bodyPost_ret (v := .agg #[.int .i64 2, .int .i64 mt, .int .i64 mf, .int .i64 m3, .int .i64 0, .int .i64 0, .int .i64 0, .slice c0 c1 c2, .slice s0 s1 s2]) (by simp [results, Tryz.results130, go_sem, r0, r1, r2, r3, r4, r5, r6, r7, r8]) rfl ⟨_, rfl, kIm k w.heap.size, c0, c1, c2, evf, hS10.then_below hBf hbl ((kIm_old _ _ _ hbl).trans hk), HC.out.evo evf (by decide), c0, c1, c2, s0, s1, s2, rfl, HC.out.evo evf (by decide), ?_⟩
    refine (hz.keeps (fun g hg1 hg2 => ?_)).colour (fun g hg => kIm_new _ _ _ ?_)
    · rw [heap_set9 _ _ _ _ _ _ _ _ _ (by have := hb9.size; omega), heap_setCell_other _ _ _ _ (by simp; omega)]
    · have := (Made.block hz g hg).1
      have := hb9.size
      omega
end Go.Proofs.YtfpbkghcjaonlaaGreat

/-
  The program: a segment: Crash, Restart, forget.
-/
namespace Go.Proofs.YtfpbkghcjaonlaaGreat
open Go.RowKit

set_option maxHeartbeats 1000000 in
theorem srestart_any {k : Nat → Nat} {w : World} {px : Nat} {r : VR} {i o : Nat} {s : XSeg} {vc : Value} (h : SegW k w px r i o s vc) :
    Calls Tryz.prog 94 #[.pointer (some ⟨px, o, none⟩)] w fun e w' => e = .returned (.tuple #[]) ∧ Evo k k (fun c => c = cX) w w' ∧ SegW k w' px r i o s.restart vc := by
  have hk := h.col
  have q0 : w.cell? ⟨px, o, none⟩ = some (.bool s.up) := h.at_.cell 0 (by omega)
  have f0 := h.free o
  have HN : Hid (SegW k (w.setCell ⟨px, o, none⟩ (.bool true)) px r i o s.restart vc) := hide (h.set 0 (by omega) (.bool true) (xsegRow_up s vc true) h.pl)
  have HV : Hid (Evo k k (fun c => c = cX) w (w.setCell ⟨px, o, none⟩ (.bool true))) := hide ((Evo.refl _ _ _).setCell _ _ (fun _ => hk))
  clear h
  go_enter Tryz.func94, Tryz.ntmps94
  go_wp2_with fail
  go_end0
  exact ⟨rfl, HV.out, HN.out⟩

/-- The first n are mapped. -/
def mapTo {A : Type} (f : A → A) (l : List A) (n : Nat) : List A := (l.take n).map f ++ l.drop n
theorem mapTo_len {A : Type} (f : A → A) (l : List A) (n : Nat) : (mapTo f l n).length = l.length := by unfold mapTo; simp; omega
theorem mapTo_zero {A : Type} (f : A → A) (l : List A) : mapTo f l 0 = l := by simp [mapTo]
theorem mapTo_all {A : Type} (f : A → A) (l : List A) (n : Nat) (h : l.length ≤ n) : mapTo f l n = l.map f := by unfold mapTo; rw [List.take_of_length_le h, List.drop_eq_nil_of_le h]; simp
theorem mapTo_get {A : Type} (f : A → A) (l : List A) (j : Nat) (h : j < l.length) : (mapTo f l j)[j]'(by rw [mapTo_len]; exact h) = l[j] := by
  unfold mapTo
  rw [List.getElem_append_right (by simp; omega)]
  simp [show min j l.length = j from by omega]
theorem mapTo_succ {A : Type} (f : A → A) (l : List A) (j : Nat) (h : j < l.length) : mapTo f l (j + 1) = (mapTo f l j).set j (f l[j]) := by
  unfold mapTo
  rw [List.set_append_right _ _ (by simp; omega)]
  simp only [List.length_map, List.length_take]
  rw [show j - min j l.length = 0 from by omega, List.drop_eq_getElem_cons h, List.set_cons_zero, List.take_succ_eq_append_getElem h, List.map_append]
  simp
theorem mapTo_same {A : Type} (f : A → A) (l : List A) (j : Nat) (h : j < l.length) (hf : f l[j] = l[j]) : mapTo f l (j + 1) = mapTo f l j := by
  rw [mapTo_succ f l j h, hf]
  have h9 := List.set_getElem_self (show j < (mapTo f l j).length by rw [mapTo_len]; exact h)
  rw [mapTo_get f l j h] at h9
  exact h9

set_option maxRecDepth 3000 in
set_option maxHeartbeats 4000000 in
theorem scrash_any {k : Nat → Nat} {w : World} {px : Nat} {r : VR} {i o : Nat} {s : XSeg} {vc : Value} (h : SegW k w px r i o s vc) :
    Calls Tryz.prog 93 #[.pointer (some ⟨px, o, none⟩)] w fun e w' => e = .returned (.tuple #[]) ∧ Evo k k (fun c => c = cX) w w' ∧ SegW k w' px r i o s.crash vc := by
  have hk := h.col
  have hl := h.pl
  have q0 : w.cell? ⟨px, o, none⟩ = some (.bool s.up) := h.at_.cell 0 (by omega)
  have f0 := h.free o
  have HN : Hid (Evo k k (fun c => c = cX) w (w.setCell ⟨px, o, none⟩ (.bool false)) ∧ SegW k (w.setCell ⟨px, o, none⟩ (.bool false)) px r i o { s with up := false, places := mapTo crashAt s.places 0 } vc) := hide ⟨(Evo.refl _ _ _).setCell _ _ (fun _ => hk), h.set 0 (by omega) (.bool false) (xsegRow_up s vc false) (by simpa [mapTo_zero] using h.pl)⟩
  clear h
  go_enter Tryz.func93, Tryz.ntmps93
  go_wp2_with fail
  go_loopw [2] (fun i' wr => ∃ j : Nat, j ≤ 40 ∧ i' = .int .i64 j ∧ Hid (Evo k k (fun c => c = cX) w wr ∧ SegW k wr px r i o { s with up := false, places := mapTo crashAt s.places j } vc)) (fun i' _ => 40 - (intOf i').toNat)
  case atStart => exact ⟨0, by omega, rfl, HN⟩
  case round =>
    obtain ⟨j, hj, rfl, hst⟩ := hrel
    obtain ⟨ev, hS⟩ := hst.out
    by_cases hlt : j < 40
    · have hd : decide ((j : Int) < 40) = true := by simp; omega
      have hj40 : (j : Int) < 40 := by omega
      have hjl : j < s.places.length := by omega
      have hml : j < (mapTo crashAt s.places j).length := by rw [mapTo_len]; exact hjl
      obtain ⟨q0, q1, q2⟩ := hS.at_.place j hml
      simp only [mapTo_get crashAt s.places j hjl] at q0 q1 q2
      have g0 := hS.free (o + 3 + j * 3)
      have g1 := hS.free (o + 3 + j * 3 + 1)
      have g2 := hS.free (o + 3 + j * 3 + 2)
      have hpl := hS.lt
      have hP := hS.place j hlt (0, 0, 0)
      have HP : Hid (Evo k k (fun c => c = cX) w (((wr.setCell ⟨px, o + 3 + j * 3, none⟩ (.int .i64 0)).setCell ⟨px, o + 3 + j * 3 + 1, none⟩ (.int .i64 0)).setCell ⟨px, o + 3 + j * 3 + 2, none⟩ (.int .i64 0)) ∧ SegW k (((wr.setCell ⟨px, o + 3 + j * 3, none⟩ (.int .i64 0)).setCell ⟨px, o + 3 + j * 3 + 1, none⟩ (.int .i64 0)).setCell ⟨px, o + 3 + j * 3 + 2, none⟩ (.int .i64 0)) px r i o { s with up := false, places := (mapTo crashAt s.places j).set j (0, 0, 0) } vc) := hide ⟨((ev.setCell _ _ (fun _ => hk)).setCell _ _ (fun _ => hk)).setCell _ _ (fun _ => hk), hP⟩
      have HSu : Hid (crashAt s.places[j] = (0, 0, 0) → mapTo crashAt s.places (j + 1) = (mapTo crashAt s.places j).set j (0, 0, 0)) := hide fun e => by rw [mapTo_succ crashAt s.places j hjl, e]
      have HSa : Hid (crashAt s.places[j] = s.places[j] → mapTo crashAt s.places (j + 1) = mapTo crashAt s.places j) := hide fun e => mapTo_same crashAt s.places j hjl e
      generalize s.places[j] = pj at *
      clear hP hS ev hml
      cases hz : (pj.1 == 1)
      · have HE := hide (HSa.out (by unfold crashAt; rw [if_neg (by simpa using hz)]))
        go_wp2_with fail
        go_roundw
        case rel => exact ⟨j + 1, by omega, by go_num, by rw [HE.out]; exact hst⟩
        case measure => simp [intOf]; omega
      · have HE := hide (HSu.out (by unfold crashAt; rw [if_pos (by simpa using hz)]))
        go_wp2_with fail
        go_roundw
        case rel => exact ⟨j + 1, by omega, by go_num, by rw [HE.out]; exact HP⟩
        case measure => simp [intOf]; omega
    · have hd : decide ((j : Int) < 40) = false := by simp; omega
      have HE : Hid (mapTo crashAt s.places j = s.places.map crashAt) := hide (mapTo_all _ _ _ (by omega))
      clear hS
      go_wp2_with fail
      go_end0
      exact ⟨rfl, ev, by have := hst.out.2; rw [HE.out] at this; exact this⟩
end Go.Proofs.YtfpbkghcjaonlaaGreat

/-
  The program: a segment: forget.
-/
namespace Go.Proofs.YtfpbkghcjaonlaaGreat
open Go.RowKit

/-- The first n are mapped, by their places. -/
def mapToI {A : Type} (f : Nat → A → A) (l : List A) (n : Nat) : List A := l.mapIdx fun i p => if i < n then f i p else p
theorem mapToI_len {A : Type} (f : Nat → A → A) (l : List A) (n : Nat) : (mapToI f l n).length = l.length := by simp [mapToI]
theorem mapToI_zero {A : Type} (f : Nat → A → A) (l : List A) : mapToI f l 0 = l := by
  unfold mapToI
  apply List.ext_getElem?
  intro i
  rw [List.getElem?_mapIdx]
  cases l[i]? <;> simp
theorem mapToI_all {A : Type} (f : Nat → A → A) (l : List A) (n : Nat) (h : l.length ≤ n) : mapToI f l n = l.mapIdx f := by
  unfold mapToI
  apply List.ext_getElem?
  intro i
  rw [List.getElem?_mapIdx, List.getElem?_mapIdx]
  by_cases hi : i < l.length
  · rw [List.getElem?_eq_getElem hi]; simp [show i < n by omega]
  · rw [List.getElem?_eq_none (by omega)]; rfl
theorem mapToI_get {A : Type} (f : Nat → A → A) (l : List A) (j : Nat) (h : j < l.length) : (mapToI f l j)[j]'(by rw [mapToI_len]; exact h) = l[j] := by
  simp [mapToI]
theorem mapToI_succ {A : Type} (f : Nat → A → A) (l : List A) (j : Nat) (h : j < l.length) : mapToI f l (j + 1) = (mapToI f l j).set j (f j l[j]) := by
  unfold mapToI
  apply List.ext_getElem?
  intro i
  rw [List.getElem?_set, List.getElem?_mapIdx, List.getElem?_mapIdx]
  by_cases e : j = i
  · subst e
    rw [if_pos rfl, if_pos (by simpa using h), List.getElem?_eq_getElem h]; simp
  · rw [if_neg e]
    by_cases hi : i < j
    · simp [hi, show i < j + 1 by omega]
    · simp [hi, show ¬ i < j + 1 by omega]
theorem mapToI_same {A : Type} (f : Nat → A → A) (l : List A) (j : Nat) (h : j < l.length) (hf : f j l[j] = l[j]) : mapToI f l (j + 1) = mapToI f l j := by
  rw [mapToI_succ f l j h, hf]
  have h9 := List.set_getElem_self (show j < (mapToI f l j).length by rw [mapToI_len]; exact h)
  rw [mapToI_get f l j h] at h9
  exact h9

set_option maxRecDepth 3000 in
set_option maxHeartbeats 4000000 in
theorem sforget_any {k : Nat → Nat} {w : World} {px : Nat} {r : VR} {i o : Nat} {s : XSeg} {c0 : Option Addr} {c1 c2 : Nat} (h : SegW k w px r i o s (.slice c0 c1 c2)) (hc : CutsIm k w (.slice c0 c1 c2) s.cuts) (hcl : s.cuts.length ≤ 1000) :
    Calls Tryz.prog 140 #[.pointer (some ⟨px, o, none⟩)] w fun e w' => e = .returned (.tuple #[]) ∧ Evo k k (fun c => c = cX) w w' ∧ SegW k w' px r i o s.forget (.slice c0 c1 c2) := by
  have hk := h.col
  have hl := h.pl
  have HN : Hid (Evo k k (fun c => c = cX) w w ∧ SegW k w px r i o { s with places := mapToI (forgetAt s.cuts) s.places 0 } (.slice c0 c1 c2)) := hide ⟨Evo.refl _ _ _, by rw [mapToI_zero]; exact h⟩
  have HC := hide hc
  clear h hc
  go_enter Tryz.func140, Tryz.ntmps140
  go_wp2_with fail
  go_loopw [2] (fun i' wr => ∃ j : Nat, j ≤ 40 ∧ i' = .int .i64 j ∧ Hid (Evo k k (fun c => c = cX) w wr ∧ SegW k wr px r i o { s with places := mapToI (forgetAt s.cuts) s.places j } (.slice c0 c1 c2))) (fun i' _ => 40 - (intOf i').toNat)
  case atStart => exact ⟨0, by omega, rfl, HN⟩
  case round =>
    obtain ⟨j, hj, rfl, hst⟩ := hrel
    obtain ⟨ev, hS⟩ := hst.out
    by_cases hlt : j < 40
    · have hd : decide ((j : Int) < 40) = true := by simp; omega
      have hj40 : (j : Int) < 40 := by omega
      have hwr : IntKind.i64.wrap ((j : Int) + 1) = (j : Int) + 1 := by rw [IntKind.wrap_i64] <;> omega
      have hjl : j < s.places.length := by omega
      have hml : j < (mapToI (forgetAt s.cuts) s.places j).length := by rw [mapToI_len]; exact hjl
      have HPl := hide (mapToI_get (forgetAt s.cuts) s.places j hjl)
      have hpl := hS.lt
      have HCr := hide (HC.out.evo ev (by decide))
      have HSu : Hid (∀ q, forgetAt s.cuts j s.places[j] = q → mapToI (forgetAt s.cuts) s.places (j + 1) = (mapToI (forgetAt s.cuts) s.places j).set j q) := hide fun q e => by rw [mapToI_succ (forgetAt s.cuts) s.places j hjl, e]
      have HSa : Hid (forgetAt s.cuts j s.places[j] = s.places[j] → mapToI (forgetAt s.cuts) s.places (j + 1) = mapToI (forgetAt s.cuts) s.places j) := hide fun e => mapToI_same (forgetAt s.cuts) s.places j hjl e
      have HK : Hid (∀ W, Below wr.heap.size wr W → Evo k k (fun c => c = cX) w W ∧ SegW k W px r i o { s with places := mapToI (forgetAt s.cuts) s.places j } (.slice c0 c1 c2) ∧ (W.cell? ⟨px, o + 2, none⟩ = some (.slice c0 c1 c2) ∧ W.cell? ⟨px, o + 3 + j * 3 + 1, none⟩ = some (.int .i64 s.places[j].2.1))) := hide fun W hW => by
        have hS' := hS.below hW
        obtain ⟨q0, q1, q2⟩ := hS'.at_.place j hml
        simp only [HPl.out] at q0 q1 q2
        exact ⟨ev.trans (Evo.of_below hW), hS', hS'.at_.cell 2 (by omega), q1⟩
      have HG : Hid (∀ W, Below wr.heap.size wr W → Calls Tryz.prog 142 #[.slice c0 c1 c2, .int .i64 ((j : Int) + 1), .int .i64 s.places[j].2.1] W fun e w' => e = .returned (.bool (good s.cuts ((j : Int) + 1) s.places[j].2.1)) ∧ Below W.heap.size W w') := hide fun W hW => xgood_any _ _ (Rows.evo HCr.out (Evo.of_below (C := noC) hW) (noC_not _)) (by omega)
      have HFa : Hid (forgetAt s.cuts j s.places[j] = if good s.cuts ((j : Int) + 1) s.places[j].2.1 then s.places[j] else (0, 0, 0)) := hide rfl
      have HS0 := hide (HK.out wr.drew (Below.drew (Below.refl _ _))).2.2
      generalize s.places[j] = pj at *
      generalize good s.cuts ((j : Int) + 1) pj.2.1 = gd at *
      clear hS ev hml
      go_wp2_with fail
      go_region_held3 (fun W => W.cell? ⟨px, o + 2, none⟩ = some (.slice c0 c1 c2) ∧ W.cell? ⟨px, o + 3 + j * 3 + 1, none⟩ = some (.int .i64 pj.2.1)) (first | with_reducible exact HS0.out | with_reducible exact HSy)
        (first | (go_at_call 142; refine (HG.out _ (Below.drew (Below.refl _ _))).mono ?_; rintro e5 w5 ⟨rfl, hb5⟩; have hb5x : Below wr.heap.size wr w5 := (Below.drew (Below.refl _ _)).trans hb5; have HSy := (HK.out w5 hb5x).2.2))
      have H5 := hide (HK.out w5 hb5x)
      clear HSy
      cases gd
      · have HE := hide (HSu.out (0, 0, 0) (by rw [HFa.out]; rfl))
        obtain ⟨q0, q1, q2⟩ := H5.out.2.1.at_.place j (by rw [mapToI_len]; exact hjl)
        simp only [HPl.out] at q0 q1 q2
        have g0 := H5.out.2.1.free (o + 3 + j * 3)
        have g1 := H5.out.2.1.free (o + 3 + j * 3 + 1)
        have g2 := H5.out.2.1.free (o + 3 + j * 3 + 2)
        have hpl5 := H5.out.2.1.lt
        have HP : Hid (Evo k k (fun c => c = cX) w (((w5.setCell ⟨px, o + 3 + j * 3, none⟩ (.int .i64 0)).setCell ⟨px, o + 3 + j * 3 + 1, none⟩ (.int .i64 0)).setCell ⟨px, o + 3 + j * 3 + 2, none⟩ (.int .i64 0)) ∧ SegW k (((w5.setCell ⟨px, o + 3 + j * 3, none⟩ (.int .i64 0)).setCell ⟨px, o + 3 + j * 3 + 1, none⟩ (.int .i64 0)).setCell ⟨px, o + 3 + j * 3 + 2, none⟩ (.int .i64 0)) px r i o { s with places := (mapToI (forgetAt s.cuts) s.places j).set j (0, 0, 0) } (.slice c0 c1 c2)) := hide ⟨((H5.out.1.setCell _ _ (fun _ => hk)).setCell _ _ (fun _ => hk)).setCell _ _ (fun _ => hk), H5.out.2.1.place j hlt (0, 0, 0)⟩
        go_wp2_with fail
        go_roundw
        case rel => exact ⟨j + 1, by omega, by go_num, by rw [HE.out]; exact HP⟩
        case measure => simp [intOf]; omega
      · have HE := hide (HSa.out (by rw [HFa.out]; rfl))
        go_wp2_with fail
        go_roundw
        case rel => exact ⟨j + 1, by omega, by go_num, by rw [HE.out]; exact hide ⟨H5.out.1, H5.out.2.1⟩⟩
        case measure => simp [intOf]; omega
    · have hd : decide ((j : Int) < 40) = false := by simp; omega
      have HE : Hid (mapToI (forgetAt s.cuts) s.places j = s.places.mapIdx (forgetAt s.cuts)) := hide (mapToI_all _ _ _ (by omega))
      clear hS
      go_wp2_with fail
      go_end0
      exact ⟨rfl, ev, by have := hst.out.2; rw [HE.out] at this; exact this⟩
end Go.Proofs.YtfpbkghcjaonlaaGreat
