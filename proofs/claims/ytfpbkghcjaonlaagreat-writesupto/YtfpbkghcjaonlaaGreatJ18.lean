import Derived.Test.YtfpbkghcjaonlaaGreatJ17
/-
  The program: a writer: what is due.
-/
namespace Go.Proofs.YtfpbkghcjaonlaaGreat
open Go.RowKit

/-- A writer's cells lie at offset o of block b. -/
structure WrAt (k : Nat → Nat) (w : World) (c b o : Nat) (x : XWr) : Prop where
  ex : ∃ n0 n1 n2 c0 c1 c2 v0 v1 v2, (∀ j, j < 20 → w.cell? ⟨b, o + j, none⟩ = (wrRow x (.slice n0 n1 n2) (.slice c0 c1 c2) (.slice v0 v1 v2))[j]?) ∧ NotesIs k w c (.slice n0 n1 n2) x.notes ∧ CutsIm k w (.slice c0 c1 c2) x.cuts ∧ Rows k w (c + 1) 3 1 (.slice v0 v1 v2) (x.values.map intRow)
  h6 : x.heard.length = 6
  n6 : x.noted.length = 6

theorem WrAt.below {k : Nat → Nat} {w w' : World} {c b o : Nat} {x : XWr} (h : WrAt k w c b o x) (hb : Below w.heap.size w w') : WrAt k w' c b o x := by
  obtain ⟨n0, n1, n2, c0, c1, c2, v0, v1, v2, hc, h1, h2, h3⟩ := h.ex
  have ev : Evo k k noC w w' := Evo.of_below hb
  have hbl : b < w.heap.size := World.block_lt_of_cell? w ⟨b, o + 0, none⟩ (hc 0 (by omega))
  exact ⟨⟨n0, n1, n2, c0, c1, c2, v0, v1, v2, fun j hj => (hb.cell (p := ⟨b, o + j, none⟩) hbl).trans (hc j hj), h1.evo ev (noC_not _) (noC_not _), h2.evo ev (noC_not _), h3.evo ev (noC_not _)⟩, h.h6, h.n6⟩

theorem WrAt.lt {k : Nat → Nat} {w : World} {c b o : Nat} {x : XWr} (h : WrAt k w c b o x) : b < w.heap.size := by
  obtain ⟨n0, n1, n2, c0, c1, c2, v0, v1, v2, hc, _⟩ := h.ex
  exact World.block_lt_of_cell? w ⟨b, o + 0, none⟩ (hc 0 (by omega))

theorem wrRow_heard (x : XWr) (vN vC vV : Value) (s : Nat) (hs : s < 6) (h6 : x.heard.length = 6) : (wrRow x vN vC vV)[8 + s]? = some (.bool (x.heard.getD s false)) := by
  unfold wrRow
  rw [List.getElem?_append_right (by simp), List.getElem?_append_left (by simp; omega)]
  simp only [List.length_cons, List.length_nil, List.getElem?_map, Nat.add_sub_cancel_left]
  rw [List.getElem?_eq_getElem (by omega), List.getD_eq_getElem?_getD, List.getElem?_eq_getElem (by omega)]; rfl
theorem wrRow_noted (x : XWr) (vN vC vV : Value) (s : Nat) (hs : s < 6) (h6 : x.heard.length = 6) (n6 : x.noted.length = 6) : (wrRow x vN vC vV)[14 + s]? = some (.int .i64 (x.noted.getD s 0)) := by
  unfold wrRow
  rw [List.getElem?_append_right (by simp; omega), List.getElem?_append_right (by simp; omega)]
  simp only [List.length_cons, List.length_nil, List.length_map, List.getElem?_map, h6]
  rw [show 14 + s - (0 + 1 + 1 + 1 + 1 + 1 + 1 + 1 + 1) - 6 = s from by omega]
  rw [List.getElem?_eq_getElem (by omega), List.getD_eq_getElem?_getD, List.getElem?_eq_getElem (by omega)]; rfl

/-- The notes as the walk asks for them. -/
theorem notes_cells {k : Nat → Nat} {w : World} {c : Nat} {v : Value} {ns : List (Int × List (Int × Int) × List Int)} (h : NotesIs k w c v ns) :
    ∃ a cap, v = .slice a ns.length cap ∧ ∀ i, (hi : i < ns.length) → ∃ b z0 z1 z2 y0 y1 y2, a = some ⟨b, 0, none⟩ ∧ b < w.heap.size ∧ w.cell? ⟨b, i * 3, none⟩ = some (.int .i64 ns[i].1) ∧ w.cell? ⟨b, i * 3 + 1, none⟩ = some (.slice z0 z1 z2) ∧ w.cell? ⟨b, i * 3 + 2, none⟩ = some (.slice y0 y1 y2) ∧
      CutsIm k w (.slice z0 z1 z2) ns[i].2.1 ∧ IntsIm k w (.slice y0 y1 y2) ns[i].2.2 := by
  obtain ⟨rows, hR, hA⟩ := h
  obtain ⟨a, cap, rfl, _⟩ := hR.form
  have hlen := hA.1
  refine ⟨a, cap, by rw [hlen], fun i hi => ?_⟩
  obtain ⟨b, cap', hv, hk, hl, _, hc, hf⟩ := hR.at (by omega)
  simp at hv
  obtain ⟨vc, vm, hr, hcc, hmm⟩ := hA.2 i hi (by omega)
  obtain ⟨z0, z1, z2, hz⟩ := Rows.shape hcc
  subst hz
  obtain ⟨y0, y1, y2, hz⟩ := Rows.shape hmm
  subst hz
  have f : ∀ j, j < 3 → w.cell? ⟨b, i * 3 + j, none⟩ = (noteRow ns[i].1 (.slice z0 z1 z2) (.slice y0 y1 y2))[j]? := fun j hj => by rw [hc i j (by omega) hj, hr]
  exact ⟨b, z0, z1, z2, y0, y1, y2, hv.1, hl, f 0 (by omega), f 1 (by omega), f 2 (by omega), hcc, hmm⟩

theorem hasNote_take (x : XWr) (s : Int) (j : Nat) (h : j < x.notes.length) : (x.notes.take (j + 1)).any (fun n => n.1 == s) = ((x.notes.take j).any (fun n => n.1 == s) || (x.notes[j].1 == s)) := by
  rw [List.take_succ_eq_append_getElem h, List.any_append]; simp

set_option maxHeartbeats 2000000 in
theorem hasNote_any {k : Nat → Nat} {w : World} {c b o : Nat} {x : XWr} (s : Int) (h : WrAt k w c b o x) (hl : x.notes.length ≤ 4000000000) :
    Calls Tryz.prog 121 #[.pointer (some ⟨b, o, none⟩), .int .i64 s] w fun e w' => e = .returned (.bool (x.hasNote s)) ∧ Below w.heap.size w w' := by
  obtain ⟨n0, n1, n2, c0, c1, c2, v0, v1, v2, hc, h1, h2, h3⟩ := h.ex
  obtain ⟨a, cap, hv, hcells⟩ := notes_cells h1
  have q5 : w.cell? ⟨b, o + 5, none⟩ = some (.slice a x.notes.length cap) := (hc 5 (by omega)).trans (by rw [hv]; rfl)
  have hbl := h.lt
  obtain ⟨r, hr⟩ : ∃ r, r = x.hasNote s := ⟨_, rfl⟩
  rw [← hr]
  have HR := hide hr
  clear hc h1 h2 h3 h hr hv
  go_enter Tryz.func121, Tryz.ntmps121
  go_wp2_with fail
  go_loopw [12] (fun i wr => Below w.heap.size w wr ∧ ∃ j : Nat, i = .int .i64 j ∧ j ≤ x.notes.length ∧ Hid ((x.notes.take j).any (fun n => n.1 == s) = false)) (fun i _ => x.notes.length - (intOf i).toNat)
  case atStart => exact ⟨Below.refl _ _, 0, rfl, Nat.zero_le _, hide rfl⟩
  case round =>
    obtain ⟨hB, j, rfl, hj, hno⟩ := hrel
    have hsz := hB.size
    by_cases hlt : j < x.notes.length
    · obtain ⟨g, z0, z1, z2, y0, y1, y2, rfl, hgl, p0, p1, p2, _, _⟩ := hcells j hlt
      have u0 := (hB.cell (p := ⟨g, j * 3, none⟩) hgl).trans p0
      have u1 := (hB.cell (p := ⟨g, j * 3 + 1, none⟩) hgl).trans p1
      have u2 := (hB.cell (p := ⟨g, j * 3 + 2, none⟩) hgl).trans p2
      have HT := hide (hasNote_take x s j hlt)
      have HM := hide (List.getElem_mem hlt)
      generalize x.notes[j] = nj at *
      cases he : (nj.1 == s)
      · rw [he] at HT
        clear p0 p1 p2 hcells
        go_wp2_with fail
        go_roundw
        case rel => exact ⟨hB.alloc hsz _, j + 1, by go_num, by omega, hide (by rw [HT.out, hno.out]; rfl)⟩
        case measure => simp [intOf]; omega
      · have HE : Hid (r = true) := hide (by rw [HR.out]; unfold XWr.hasNote; rw [List.any_eq_true]; exact ⟨nj, HM.out, he⟩)
        clear p0 p1 p2 hcells
        go_wp2_with fail
        go_ret
        exact ⟨by rw [HE.out]; rfl, hB.alloc hsz _⟩
    · have hje : j = x.notes.length := by omega
      have hd : decide ((j : Int) < (x.notes.length : Int)) = false := by simp; omega
      have HE : Hid (r = false) := hide (by rw [HR.out]; have := hno.out; rw [hje, List.take_length] at this; exact this)
      clear hje
      go_wp2_with fail
      go_ret
      exact ⟨by rw [HE.out]; rfl, hB⟩

theorem cell_far9 {w1 : World} {b g o : Nat} {r0 r1 r2 r3 r4 r5 r6 r7 r8 : Value} (h : ¬ b = g) : (((((((((w1.setCell ⟨g, 0, none⟩ r0).setCell ⟨g, 1, none⟩ r1).setCell ⟨g, 2, none⟩ r2).setCell ⟨g, 3, none⟩ r3).setCell ⟨g, 4, none⟩ r4).setCell ⟨g, 5, none⟩ r5).setCell ⟨g, 6, none⟩ r6).setCell ⟨g, 7, none⟩ r7).setCell ⟨g, 8, none⟩ r8).cell? ⟨b, o, none⟩ = w1.cell? ⟨b, o, none⟩ := by
  repeat rw [World.cell?_setCell_far _ _ _ _ (fun e => h e.symm)]

/-- A message, and whether it is to be sent. -/
def DueAns (k : Nat → Nat) (w : World) (o : Option Msg) (v : Value) : Prop :=
  ∃ (mm : Msg) (z0 : Option Addr) (z1 z2 : Nat), v = .tuple #[.agg #[.int .i64 mm.kind, .int .i64 mm.frm, .int .i64 mm.to_, .int .i64 mm.epoch, .int .i64 mm.lsn, .int .i64 mm.value, .int .i64 mm.scl, .slice z0 z1 z2, .slice none 0 0], .bool o.isSome] ∧ CutsIm k w (.slice z0 z1 z2) mm.cuts ∧ mm.marks = [] ∧ ∀ m', o = some m' → m' = mm

theorem values_cell {k : Nat → Nat} {w : World} {c : Nat} {v0 : Option Addr} {v1 v2 : Nat} {l : List Int} (h : Rows k w c 3 1 (.slice v0 v1 v2) (l.map intRow)) : v1 = l.length ∧ ∀ i, (hi : i < l.length) → ∃ g, v0 = some ⟨g, 0, none⟩ ∧ w.cell? ⟨g, i, none⟩ = some (.int .i64 l[i]) := by
  obtain ⟨a, cap, hv, hc⟩ := ints_cells h
  simp only [Value.slice.injEq] at hv
  obtain ⟨rfl, rfl, rfl⟩ := hv
  exact ⟨rfl, fun i hi => hc i hi⟩

set_option maxRecDepth 3000 in
set_option maxHeartbeats 4000000 in
theorem xwrite_any {k : Nat → Nat} {w : World} {c b o : Nat} {x : XWr} (s lsn : Int) (h : WrAt k w c b o x) (h1 : 0 ≤ x.base) (h2 : x.base ≤ 4000000000) (h3 : 0 ≤ lsn) (h4 : lsn ≤ 4000000000) (h5 : x.values.length ≤ 4000000000) :
    Calls Tryz.prog 107 #[.pointer (some ⟨b, o, none⟩), .int .i64 s, .int .i64 lsn] w fun e w' => (∃ v, e = .returned v ∧ ∀ w2, DueAns k w2 (x.write s lsn) v) ∧ Below w.heap.size w w' := by
  obtain ⟨n0, n1, n2, c0, c1, c2, v0, v1, v2, hc, _, _, hV⟩ := h.ex
  obtain ⟨rfl, hvals⟩ := values_cell hV
  have q0 : w.cell? ⟨b, o, none⟩ = some (.int .i64 x.number) := hc 0 (by omega)
  have q2 : w.cell? ⟨b, o + 2, none⟩ = some (.int .i64 x.base) := hc 2 (by omega)
  have q7 : w.cell? ⟨b, o + 7, none⟩ = some (.slice v0 x.values.length v2) := hc 7 (by omega)
  have hbl := h.lt
  have hbn : ¬ b = w.heap.size := by omega
  clear hc h hV
  by_cases ha : lsn - x.base - 1 < 0
  · have HE : Hid (x.write s lsn = none) := hide (by unfold XWr.write; rw [if_pos ha])
    have hd : decide (lsn - x.base - 1 < 0) = true := by simpa using ha
    go_enter Tryz.func107, Tryz.ntmps107
    go_wp2_with fail
    refine bodyPost_ret (v := .tuple #[.agg #[.int .i64 0, .int .i64 0, .int .i64 0, .int .i64 0, .int .i64 0, .int .i64 0, .int .i64 0, .slice none 0 0, .slice none 0 0], .bool false]) (by simp [results, Tryz.results107, go_sem]) rfl ⟨⟨_, rfl, fun w2 => ?_⟩, (Below.refl _ _).alloc (Nat.le_refl _) _⟩
    rw [HE.out]
    exact ⟨m0, none, 0, 0, rfl, Rows.nil _ _ _ _ _, rfl, fun m' hm' => by simp at hm'⟩
  · have hd : decide (lsn - x.base - 1 < 0) = false := by simpa using ha
    by_cases hb : (x.values.length : Int) ≤ lsn - x.base - 1
    · have HE : Hid (x.write s lsn = none) := hide (by unfold XWr.write; rw [if_neg ha, if_pos hb])
      go_enter Tryz.func107, Tryz.ntmps107
      go_wp2_with fail
      refine bodyPost_ret (v := .tuple #[.agg #[.int .i64 0, .int .i64 0, .int .i64 0, .int .i64 0, .int .i64 0, .int .i64 0, .int .i64 0, .slice none 0 0, .slice none 0 0], .bool false]) (by simp [results, Tryz.results107, go_sem]) rfl ⟨⟨_, rfl, fun w2 => ?_⟩, (Below.refl _ _).alloc (Nat.le_refl _) _⟩
      rw [HE.out]
      exact ⟨m0, none, 0, 0, rfl, Rows.nil _ _ _ _ _, rfl, fun m' hm' => by simp at hm'⟩
    · obtain ⟨i, hi⟩ := Int.eq_ofNat_of_zero_le (show 0 ≤ lsn - x.base - 1 by omega)
      have hil : i < x.values.length := by omega
      obtain ⟨g, rfl, p0⟩ := hvals i hil
      have hgl : g < w.heap.size := World.block_lt_of_cell? w _ p0
      have hgn : ¬ g = w.heap.size := by omega
      have HE : Hid (x.write s lsn = some ⟨6, x.number, s, x.number, lsn, x.values[i], 0, [], []⟩) := hide (by
        unfold XWr.write; rw [if_neg ha, if_neg hb, hi, Int.toNat_natCast, List.getD_eq_getElem?_getD, List.getElem?_eq_getElem hil]; rfl)
      obtain ⟨df, hdf⟩ : ∃ df, lsn - x.base = df := ⟨_, rfl⟩
      have hdf1 : df - 1 = (i : Int) := by omega
      have hili : (i : Int) < (x.values.length : Int) := by omega
      generalize x.values[i] = vi at *
      have ha' : decide ((i : Int) < 0) = false := by simp
      have hb' : decide ((x.values.length : Int) ≤ (i : Int)) = false := by simp; omega
      clear ha hb hd hi hvals
      go_enter Tryz.func107, Tryz.ntmps107
      go_wp2_with fail
      go_region_held3 (fun W => W.cell? ⟨b, o, none⟩ = some (.int .i64 x.number) ∧ W.cell? ⟨b, o + 7, none⟩ = some (.slice (some ⟨g, 0, none⟩) x.values.length v2) ∧ W.cell? ⟨g, i, none⟩ = some (.int .i64 vi)) (go_keep) (fail)
      go_wp2_with fail
      refine bodyPost_ret (v := .tuple #[.agg #[.int .i64 6, .int .i64 x.number, .int .i64 s, .int .i64 x.number, .int .i64 lsn, .int .i64 vi, .int .i64 0, .slice none 0 0, .slice none 0 0], .bool true]) (by simp [results, Tryz.results107, go_sem]) rfl ⟨⟨_, rfl, fun w2 => ?_⟩, ((Below.refl _ _).alloc (Nat.le_refl _) _).drew⟩
      rw [HE.out]
      exact ⟨⟨6, x.number, s, x.number, lsn, vi, 0, [], []⟩, none, 0, 0, rfl, Rows.nil _ _ _ _ _, rfl, fun m' hm' => by simpa using hm'.symm⟩

end Go.Proofs.YtfpbkghcjaonlaaGreat

/-
  The program: dueTo.
-/
namespace Go.Proofs.YtfpbkghcjaonlaaGreat
open Go.RowKit

set_option maxRecDepth 3000 in
set_option maxHeartbeats 8000000 in
theorem dueTo_any {k : Nat → Nat} {w w0 : World} {c b o : Nat} {x : XWr} (s : Nat) (hs : s < 6) (h : WrAt k w c b o x) (hC0 : ∀ c0 c1 c2, w.cell? ⟨b, o + 6, none⟩ = some (.slice c0 c1 c2) → CutsIm k w0 (.slice c0 c1 c2) x.cuts) (h1 : 0 ≤ x.base) (h2 : x.base ≤ 4000000000) (h3 : ∀ n ∈ x.noted, 0 ≤ n ∧ n ≤ 3000000000) (h5 : x.values.length ≤ 4000000000) (hl : x.notes.length ≤ 4000000000) :
    Calls Tryz.prog 105 #[.pointer (some ⟨b, o, none⟩), .int .i64 s] w fun e w' => (∃ v, e = .returned v ∧ DueAns k w0 (x.dueTo s) v) ∧ Below w.heap.size w w' := by
  have hbl := h.lt
  have hbn : ¬ b = w.heap.size := by omega
  have HN : Hid (∀ W, Below w.heap.size w W → Calls Tryz.prog 121 #[.pointer (some ⟨b, o, none⟩), .int .i64 s] W fun e w' => e = .returned (.bool (x.hasNote s)) ∧ Below W.heap.size W w') := hide fun W hW => hasNote_any s (h.below hW) hl
  have hns : 0 ≤ x.noted.getD s 0 ∧ x.noted.getD s 0 ≤ 3000000000 := by
    have n6 := h.n6
    rw [List.getD_eq_getElem?_getD, List.getElem?_eq_getElem (by omega)]
    exact h3 _ (List.getElem_mem _)
  have HWt : Hid (∀ W, Below w.heap.size w W → Calls Tryz.prog 107 #[.pointer (some ⟨b, o, none⟩), .int .i64 s, .int .i64 (x.noted.getD s 0 + 1)] W fun e w' => (∃ v, e = .returned v ∧ DueAns k w0 (x.write s (x.noted.getD s 0 + 1)) v) ∧ Below W.heap.size W w') := hide fun W hW => by
    refine (xwrite_any s (x.noted.getD s 0 + 1) (h.below hW) h1 h2 (by omega) (by omega) h5).mono ?_
    rintro e w' ⟨⟨v, rfl, hv⟩, hb⟩
    exact ⟨⟨v, rfl, hv w0⟩, hb⟩
  obtain ⟨n0, n1, n2, c0, c1, c2, v0, v1, v2, hc, _, _, hV⟩ := h.ex
  have q0 : w.cell? ⟨b, o, none⟩ = some (.int .i64 x.number) := hc 0 (by omega)
  have q1 : w.cell? ⟨b, o + 1, none⟩ = some (.int .i64 x.phase) := hc 1 (by omega)
  have q6 : w.cell? ⟨b, o + 6, none⟩ = some (.slice c0 c1 c2) := hc 6 (by omega)
  have hC := hC0 _ _ _ q6
  have q8 : w.cell? ⟨b, o + 8 + s, none⟩ = some (.bool (x.heard.getD s false)) := by have := (hc (8 + s) (by omega)).trans (wrRow_heard x _ _ _ s hs h.h6); rwa [← Nat.add_assoc] at this
  have q14 : w.cell? ⟨b, o + 14 + s, none⟩ = some (.int .i64 (x.noted.getD s 0)) := by have := (hc (14 + s) (by omega)).trans (wrRow_noted x _ _ _ s hs h.h6 h.n6); rwa [← Nat.add_assoc] at this
  have hs6 : (s : Int) < 6 := by omega
  obtain ⟨rr, hrr⟩ : ∃ rr, rr = x.dueTo s := ⟨_, rfl⟩
  rw [← hrr]
  have HRR := hide hrr
  clear hc h hV hrr hC0
  by_cases p1 : x.phase = 1
  · have HE : Hid (rr = if x.hasNote s then none else some ⟨1, x.number, s, x.number, 0, 0, 0, [], []⟩) := hide (by rw [HRR.out]; unfold XWr.dueTo; rw [if_pos p1])
    rw [p1] at q1
    generalize x.hasNote (s : Int) = hn at *
    have HS0 : Hid ((w.alloc (Obj.cells #[.int .i64 0, .int .i64 0, .int .i64 0, .int .i64 0, .int .i64 0, .int .i64 0, .int .i64 0, .slice none 0 0, .slice none 0 0] 109)).drew.cell? ⟨b, o, none⟩ = some (.int .i64 x.number)) := hide ((World.cell?_alloc_lt w _ ⟨b, o, none⟩ hbl).trans q0)
    have HZ : Hid (∀ w1, Below (w.alloc (Obj.cells #[.int .i64 0, .int .i64 0, .int .i64 0, .int .i64 0, .int .i64 0, .int .i64 0, .int .i64 0, .slice none 0 0, .slice none 0 0] 109)).drew.heap.size (w.alloc (Obj.cells #[.int .i64 0, .int .i64 0, .int .i64 0, .int .i64 0, .int .i64 0, .int .i64 0, .int .i64 0, .slice none 0 0, .slice none 0 0] 109)).drew w1 → w1.cell? ⟨w.heap.size, 0, none⟩ = some (.int .i64 0) ∧ w1.cell? ⟨w.heap.size, 1, none⟩ = some (.int .i64 0) ∧ w1.cell? ⟨w.heap.size, 2, none⟩ = some (.int .i64 0) ∧ w1.cell? ⟨w.heap.size, 3, none⟩ = some (.int .i64 0) ∧ w1.cell? ⟨w.heap.size, 4, none⟩ = some (.int .i64 0) ∧ w1.cell? ⟨w.heap.size, 5, none⟩ = some (.int .i64 0) ∧ w1.cell? ⟨w.heap.size, 6, none⟩ = some (.int .i64 0) ∧ w1.cell? ⟨w.heap.size, 7, none⟩ = some (.slice none 0 0) ∧ w1.cell? ⟨w.heap.size, 8, none⟩ = some (.slice none 0 0) ∧ w1.frozen? ⟨w.heap.size, 0, none⟩ = false ∧ w1.frozen? ⟨w.heap.size, 1, none⟩ = false ∧ w1.frozen? ⟨w.heap.size, 2, none⟩ = false ∧ w1.frozen? ⟨w.heap.size, 3, none⟩ = false ∧ w1.frozen? ⟨w.heap.size, 4, none⟩ = false ∧ w1.frozen? ⟨w.heap.size, 5, none⟩ = false ∧ w1.frozen? ⟨w.heap.size, 6, none⟩ = false ∧ w1.frozen? ⟨w.heap.size, 7, none⟩ = false ∧ w1.frozen? ⟨w.heap.size, 8, none⟩ = false ∧ w.heap.size < w1.heap.size ∧ w1.cell? ⟨b, o, none⟩ = some (.int .i64 x.number)) := hide fun w1 hb1 => by
      have bz : Blk (fun _ => 0) w1 0 w.heap.size 109 [.int .i64 0, .int .i64 0, .int .i64 0, .int .i64 0, .int .i64 0, .int .i64 0, .int .i64 0, .slice none 0 0, .slice none 0 0] := ⟨(hb1.block w.heap.size (by simp)).trans (heap_alloc_new w _), rfl⟩
      have hbw : Below w.heap.size w w1 := (((Below.refl _ _).alloc (Nat.le_refl _) _).drew).trans (hb1.mono (by simp))
      exact ⟨bz.cell 0, bz.cell 1, bz.cell 2, bz.cell 3, bz.cell 4, bz.cell 5, bz.cell 6, bz.cell 7, bz.cell 8, bz.free 0, bz.free 1, bz.free 2, bz.free 3, bz.free 4, bz.free 5, bz.free 6, bz.free 7, bz.free 8, bz.lt, (hbw.cell (p := ⟨b, o, none⟩) hbl).trans q0⟩
    clear p1
    go_enter Tryz.func105, Tryz.ntmps105
    go_wp2_with fail

    go_region_held3 (fun W => W.cell? ⟨b, o, none⟩ = some (.int .i64 x.number)) (first | with_reducible exact HS0.out | with_reducible exact zq | with_reducible exact (cell_far9 hbn).trans zq)
      (first | (go_at_call 121; refine (HN.out _ (Below.drew ((Below.refl _ _).alloc (Nat.le_refl _) _))).mono ?_; rintro e1 w1 ⟨rfl, hb1⟩; obtain ⟨zc0, zc1, zc2, zc3, zc4, zc5, zc6, zc7, zc8, zf0, zf1, zf2, zf3, zf4, zf5, zf6, zf7, zf8, zl, zq⟩ := HZ.out w1 hb1))
    go_wp2_with fail
    have hbw : Below w.heap.size w w1 := (((Below.refl _ _).alloc (Nat.le_refl _) _).drew).trans (hb1.mono (by simp))
    refine bodyPost_ret (v := .tuple #[.agg #[.int .i64 1, .int .i64 x.number, .int .i64 s, .int .i64 x.number, .int .i64 0, .int .i64 0, .int .i64 0, .slice none 0 0, .slice none 0 0], .bool !hn]) (by simp [results, Tryz.results105, go_sem, zc0, zc1, zc2, zc3, zc4, zc5, zc6, zc7, zc8]) rfl ⟨⟨_, rfl, ?_⟩, below9 hbw (Nat.le_refl w.heap.size) (.int .i64 1) (.int .i64 x.number) (.int .i64 s) (.int .i64 x.number) (.int .i64 0) (.int .i64 0) (.int .i64 0) (.slice none 0 0) (.slice none 0 0)⟩
    rw [HE.out]
    cases hn
    · exact ⟨⟨1, x.number, s, x.number, 0, 0, 0, [], []⟩, none, 0, 0, rfl, Rows.nil _ _ _ _ _, rfl, fun m' hm' => by simpa using hm'.symm⟩
    · exact ⟨⟨1, x.number, s, x.number, 0, 0, 0, [], []⟩, none, 0, 0, rfl, Rows.nil _ _ _ _ _, rfl, fun m' hm' => by simp at hm'⟩
  · have d1 : (x.phase == 1) = false := by simpa using p1
    by_cases p23 : x.phase = 2 ∨ x.phase = 3
    · have HE : Hid (rr = if x.heard.getD s false then x.write s (x.noted.getD s 0 + 1) else some ⟨3, x.number, s, x.number, 0, 0, 0, x.cuts, []⟩) := hide (by rw [HRR.out]; unfold XWr.dueTo; rw [if_neg p1, if_pos p23])
      have d23 : x.phase = 2 ∨ ((x.phase == 2) = false ∧ x.phase = 3) := by
        rcases p23 with h | h
        · exact .inl h
        · exact .inr ⟨by simp [h], h⟩
      have hw : IntKind.i64.wrap (x.noted.getD s 0 + 1) = x.noted.getD s 0 + 1 := by rw [IntKind.wrap_i64] <;> omega
      generalize x.noted.getD s 0 = nt at *
      generalize x.heard.getD s false = hd at *
      generalize x.phase = ph at *
      clear p1 p23 HRR
      cases hd
      · have HC := hide hC
        clear hC
        rcases d23 with rfl | ⟨d2, rfl⟩
        all_goals
          go_enter Tryz.func105, Tryz.ntmps105
          go_wp2_with fail
          go_region_held3 (fun W => W.cell? ⟨b, o, none⟩ = some (.int .i64 x.number) ∧ W.cell? ⟨b, o + 6, none⟩ = some (.slice c0 c1 c2)) (go_keep) (fail)
          go_wp2_with fail
          refine bodyPost_ret (v := .tuple #[.agg #[.int .i64 3, .int .i64 x.number, .int .i64 s, .int .i64 x.number, .int .i64 0, .int .i64 0, .int .i64 0, .slice c0 c1 c2, .slice none 0 0], .bool true]) (by simp [results, Tryz.results105, go_sem]) rfl ⟨⟨_, rfl, ?_⟩, ((Below.refl _ _).alloc (Nat.le_refl _) _).drew⟩
          rw [HE.out]
          exact ⟨⟨3, x.number, s, x.number, 0, 0, 0, x.cuts, []⟩, c0, c1, c2, rfl, HC.out, rfl, fun m' hm' => by simpa using hm'.symm⟩
      · rcases d23 with rfl | ⟨d2, rfl⟩
        all_goals
          go_enter Tryz.func105, Tryz.ntmps105
          go_wp2_with fail
          refine (HWt.out _ ((Below.refl _ _).alloc (Nat.le_refl _) _)).mono ?_
          rintro e1 w1 ⟨⟨v, rfl, mm, z0, z1, z2, rfl, hcz, hmz, hsome⟩, hb1⟩
          have hb0 : Below w.heap.size w (w.alloc (Obj.cells #[.int .i64 0, .int .i64 0, .int .i64 0, .int .i64 0, .int .i64 0, .int .i64 0, .int .i64 0, .slice none 0 0, .slice none 0 0] 109)) := (Below.refl _ _).alloc (Nat.le_refl _) _
          have hbw : Below w.heap.size w w1 := hb0.trans (hb1.mono (by simp))
          have bz : Blk (fun _ => 0) w1 0 w.heap.size 109 [.int .i64 0, .int .i64 0, .int .i64 0, .int .i64 0, .int .i64 0, .int .i64 0, .int .i64 0, .slice none 0 0, .slice none 0 0] := ⟨(hb1.block w.heap.size (by simp)).trans (heap_alloc_new w _), rfl⟩
          have zc0 : w1.cell? ⟨w.heap.size, 0, none⟩ = some (.int .i64 0) := bz.cell 0
          have zc1 : w1.cell? ⟨w.heap.size, 1, none⟩ = some (.int .i64 0) := bz.cell 1
          have zc2 : w1.cell? ⟨w.heap.size, 2, none⟩ = some (.int .i64 0) := bz.cell 2
          have zc3 : w1.cell? ⟨w.heap.size, 3, none⟩ = some (.int .i64 0) := bz.cell 3
          have zc4 : w1.cell? ⟨w.heap.size, 4, none⟩ = some (.int .i64 0) := bz.cell 4
          have zc5 : w1.cell? ⟨w.heap.size, 5, none⟩ = some (.int .i64 0) := bz.cell 5
          have zc6 : w1.cell? ⟨w.heap.size, 6, none⟩ = some (.int .i64 0) := bz.cell 6
          have zc7 : w1.cell? ⟨w.heap.size, 7, none⟩ = some (.slice none 0 0) := bz.cell 7
          have zc8 : w1.cell? ⟨w.heap.size, 8, none⟩ = some (.slice none 0 0) := bz.cell 8
          have zf0 := bz.free 0
          have zf1 := bz.free 1
          have zf2 := bz.free 2
          have zf3 := bz.free 3
          have zf4 := bz.free 4
          have zf5 := bz.free 5
          have zf6 := bz.free 6
          have zf7 := bz.free 7
          have zf8 := bz.free 8
          have zl := bz.lt
          generalize x.write (s : Int) (nt + 1) = ow at *
          have HQ := hide (And.intro hcz (And.intro hmz hsome))
          clear hcz hmz hsome bz hb1
          go_wp2_with fail
          refine bodyPost_ret (v := .tuple #[.agg #[.int .i64 mm.kind, .int .i64 mm.frm, .int .i64 mm.to_, .int .i64 mm.epoch, .int .i64 mm.lsn, .int .i64 mm.value, .int .i64 mm.scl, .slice z0 z1 z2, .slice none 0 0], .bool ow.isSome]) (by simp [results, Tryz.results105, go_sem, zc0, zc1, zc2, zc3, zc4, zc5, zc6, zc7, zc8]) rfl ⟨⟨_, rfl, ?_⟩, below9 hbw (Nat.le_refl w.heap.size) (.int .i64 mm.kind) (.int .i64 mm.frm) (.int .i64 mm.to_) (.int .i64 mm.epoch) (.int .i64 mm.lsn) (.int .i64 mm.value) (.int .i64 mm.scl) (.slice z0 z1 z2) (.slice none 0 0)⟩
          rw [HE.out]
          exact ⟨mm, z0, z1, z2, rfl, HQ.out.1, HQ.out.2.1, HQ.out.2.2⟩
    · have HE : Hid (rr = none) := hide (by rw [HRR.out]; unfold XWr.dueTo; rw [if_neg p1, if_neg p23])
      have d2 : (x.phase == 2) = false := by simp; exact fun h => p23 (.inl h)
      have d3 : (x.phase == 3) = false := by simp; exact fun h => p23 (.inr h)
      go_enter Tryz.func105, Tryz.ntmps105
      go_wp2_with fail
      refine bodyPost_ret (v := .tuple #[.agg #[.int .i64 0, .int .i64 0, .int .i64 0, .int .i64 0, .int .i64 0, .int .i64 0, .int .i64 0, .slice none 0 0, .slice none 0 0], .bool false]) (by simp [results, Tryz.results105, go_sem]) rfl ⟨⟨_, rfl, ?_⟩, (Below.refl _ _).alloc (Nat.le_refl _) _⟩
      rw [HE.out]
      exact ⟨m0, none, 0, 0, rfl, Rows.nil _ _ _ _ _, rfl, fun m' hm' => by simp at hm'⟩

theorem due_take (x : XWr) (j : Nat) : ((List.range (j + 1)).filterMap x.dueTo) = ((List.range j).filterMap x.dueTo) ++ (x.dueTo j).toList := by
  rw [List.range_succ, List.filterMap_append]
  cases h : x.dueTo j <;> simp [h]

/-- A list of messages that is being built; its lists are older. -/
def MsgsMade (k : Nat → Nat) (w0 w : World) (v : Value) (l : List Msg) : Prop := ∃ rows, Made w w0.heap.size 109 9 v rows ∧ All2 (MsgIs k w0) l rows

theorem MsgsMade.is {k : Nat → Nat} {w0 w : World} {v : Value} {l : List Msg} (h : MsgsMade k w0 w v l) (hb : Below w0.heap.size w0 w) : ∃ k', Evo k k' noC w0 w ∧ MsgsIs k' w 0 v l := by
  obtain ⟨rows, h1, h2⟩ := h
  have ev : Evo k (fun g => if g < w0.heap.size then k g else 0) noC w0 w := (Evo.of_below (k := k) hb).recolour _ (fun i hi => if_pos hi)
  exact ⟨_, ev, rows, h1.colour (c := 0) (fun g hg => if_neg (by have := (Made.block h1 g hg).1; omega)), h2.imp fun _ _ x => x.evo ev (noC_not _)⟩

set_option maxRecDepth 3000 in
set_option maxHeartbeats 8000000 in
theorem due_any {k : Nat → Nat} {w : World} {c b o : Nat} {x : XWr} (h : WrAt k w c b o x) (h1 : 0 ≤ x.base) (h2 : x.base ≤ 4000000000) (h3 : ∀ n ∈ x.noted, 0 ≤ n ∧ n ≤ 3000000000) (h5 : x.values.length ≤ 4000000000) (hl : x.notes.length ≤ 4000000000) :
    Calls Tryz.prog 65 #[.pointer (some ⟨b, o, none⟩)] w fun e w' => (∃ v, e = .returned v ∧ MsgsMade k w w' v x.due) ∧ Below w.heap.size w w' := by
  have HD : Hid (∀ s, s < 6 → ∀ W, Below w.heap.size w W → Calls Tryz.prog 105 #[.pointer (some ⟨b, o, none⟩), .int .i64 (s : Nat)] W fun e w' => (∃ v, e = .returned v ∧ DueAns k w (x.dueTo s) v) ∧ Below W.heap.size W w') := hide fun s hs W hW => by
    refine dueTo_any s hs (h.below hW) (fun c0 c1 c2 hq => ?_) h1 h2 h3 h5 hl
    obtain ⟨n0, n1, n2, d0, d1, d2, v0, v1, v2, hc, _, hC, _⟩ := h.ex
    have h6 : w.cell? ⟨b, o + 6, none⟩ = some (.slice d0 d1 d2) := hc 6 (by omega)
    rw [(hW.cell (p := ⟨b, o + 6, none⟩) h.lt), h6] at hq
    simp only [Option.some.injEq] at hq
    rw [← hq]; exact hC
  clear h h1 h2 h3 h5 hl
  have H0 : Hid (∃ rows, Made w w.heap.size 109 9 (.slice none 0 0) rows ∧ All2 (MsgIs k w) ((List.range 0).filterMap x.dueTo) rows) := hide ⟨[], Made.nil _ _ _ _, rfl, fun i h1 => by simp at h1⟩
  go_enter Tryz.func65, Tryz.ntmps65
  go_wp2_with fail
  go_loopw [3, 4] (fun v i wr => Below w.heap.size w wr ∧ ∃ j : Nat, j ≤ 6 ∧ i = .int .i64 j ∧ Hid (∃ rows, Made wr w.heap.size 109 9 v rows ∧ All2 (MsgIs k w) ((List.range j).filterMap x.dueTo) rows)) (fun _ i _ => 6 - (intOf i).toNat)
  case atStart => exact ⟨Below.refl _ _, 0, by omega, rfl, H0⟩
  case round =>
    obtain ⟨hB, j, hj, rfl, hst⟩ := hrel
    obtain ⟨rows, hM, hA⟩ := hst.out
    obtain ⟨ma, mcap, hmv⟩ := hM.form
    have hsz := hB.size
    have hrl : rows.length ≤ 6 := by
      rw [← hA.1]
      exact Nat.le_trans (List.length_filterMap_le _ _) (by simp; omega)
    by_cases hlt : j < 6
    · have hd : decide ((j : Int) < 6) = true := by simp; omega
      have HDj := hide (HD.out j hlt wr hB)
      have HT := hide (due_take x j)
      generalize hdj : x.dueTo j = dj at *
      clear hdj hst
      go_wp2_with fail
      refine HDj.out.mono ?_
      rintro e1 w1 ⟨⟨v, rfl, mm, z0, z1, z2, rfl, hcz, hmz, hsome⟩, hb1⟩
      have hB1 : Below w.heap.size w w1 := hB.trans (hb1.mono hsz)
      have HQ := hide (And.intro hcz (And.intro hmz hsome))
      clear hcz hmz hsome
      cases dj with
      | none =>
        simp only [Option.isSome]
        go_wp2_with fail
        go_roundw
        case rel => exact ⟨hB1.alloc hB1.size _, j + 1, by omega, by go_num, hide ⟨rows, (hM.kept hb1).kept ((Below.refl _ _).alloc (Nat.le_refl _) _), by rw [HT.out]; simpa using hA⟩⟩
        case measure => simp [intOf]; omega
      | some m' =>
        simp only [Option.isSome]
        subst hmv
        have hM2 := (hM.kept hb1).kept (((Below.refl _ _).alloc (Nat.le_refl _) (Obj.cells #[.int .i64 mm.kind, .int .i64 mm.frm, .int .i64 mm.to_, .int .i64 mm.epoch, .int .i64 mm.lsn, .int .i64 mm.value, .int .i64 mm.scl, .slice z0 z1 z2, .slice none 0 0] 109)).alloc (by simp) (Obj.cells #[.int .i64 mm.kind, .int .i64 mm.frm, .int .i64 mm.to_, .int .i64 mm.epoch, .int .i64 mm.lsn, .int .i64 mm.value, .int .i64 mm.scl, .slice z0 z1 z2, .slice none 0 0] 109))
        go_wp2_with (at_builtin; go_must (refine wpList_append_made (.tmp 18) (.tmp 20) 66 109 _ 9 104 _ rows rows.length [.int .i64 mm.kind, .int .i64 mm.frm, .int .i64 mm.to_, .int .i64 mm.epoch, .int .i64 mm.lsn, .int .i64 mm.value, .int .i64 mm.scl, .slice z0 z1 z2, .slice none 0 0] w.heap.size ⟨w1.heap.size + 1, 0, none⟩ 1 rfl rfl rfl Tryz.underlying66 Tryz.infoMessage rfl (by decide) rfl rfl hM2 rfl (cell_two_new' _ _ _ _) (by simp [Value.oneCell']) (by simp only [maxLen]; omega) (by omega) (by have := hB1.size; simp; omega) ?_; intro ao cap2 w2 hM3 hB3))
        go_roundw
        case rel =>
          refine ⟨((hB1.alloc hB1.size _).alloc (by have := hB1.size; simp; omega) _).trans hB3, j + 1, by omega, by go_num, hide ⟨rows ++ [[.int .i64 mm.kind, .int .i64 mm.frm, .int .i64 mm.to_, .int .i64 mm.epoch, .int .i64 mm.lsn, .int .i64 mm.value, .int .i64 mm.scl, .slice z0 z1 z2, .slice none 0 0]], by simpa using hM3, ?_⟩⟩
          rw [HT.out]
          have he := HQ.out.2.2 m' rfl
          subst he
          exact All2.snoc hA ⟨_, _, rfl, HQ.out.1, by rw [HQ.out.2.1]; exact Rows.nil _ _ _ _ _⟩
        case measure => simp [intOf]; omega
    · have hj6 : j = 6 := by omega
      have hd : decide ((j : Int) < 6) = false := by simp; omega
      have HM := hide (And.intro hM (And.intro hA hj6))
      clear hM hA hst hj6
      go_wp2_with fail
      go_ret
      obtain ⟨hM, hA, hj6⟩ := HM.out
      exact ⟨⟨_, rfl, rows, hM, by rw [hj6] at hA; exact hA⟩, hB⟩
end Go.Proofs.YtfpbkghcjaonlaaGreat

/-
  The program: Look, Message, Drop, Copy.
-/
namespace Go.Proofs.YtfpbkghcjaonlaaGreat
open Go.RowKit

/-- A message of the network, as the walk asks for it. -/
theorem xmsg_at {k : Nat → Nat} {w : World} {px : Nat} {x : XVol} (hx : XVolIs k w px x) (i : Nat) (hi : i < x.msgs.length) :
    ∃ g cap z0 z1 z2 y0 y1 y2, w.cell? ⟨px, 2, none⟩ = some (.slice (some ⟨g, 0, none⟩) x.msgs.length cap) ∧ px < w.heap.size ∧ g < w.heap.size ∧ w.cell? ⟨g, i * 9, none⟩ = some (.int .i64 x.msgs[i].kind) ∧ w.cell? ⟨g, i * 9 + 1, none⟩ = some (.int .i64 x.msgs[i].frm) ∧ w.cell? ⟨g, i * 9 + 2, none⟩ = some (.int .i64 x.msgs[i].to_) ∧ w.cell? ⟨g, i * 9 + 3, none⟩ = some (.int .i64 x.msgs[i].epoch) ∧ w.cell? ⟨g, i * 9 + 4, none⟩ = some (.int .i64 x.msgs[i].lsn) ∧ w.cell? ⟨g, i * 9 + 5, none⟩ = some (.int .i64 x.msgs[i].value) ∧ w.cell? ⟨g, i * 9 + 6, none⟩ = some (.int .i64 x.msgs[i].scl) ∧ w.cell? ⟨g, i * 9 + 7, none⟩ = some (.slice z0 z1 z2) ∧ w.cell? ⟨g, i * 9 + 8, none⟩ = some (.slice y0 y1 y2) ∧ CutsIm k w (.slice z0 z1 z2) x.msgs[i].cuts ∧ IntsIm k w (.slice y0 y1 y2) x.msgs[i].marks := by
  obtain ⟨vM, vW, sr, wr, hB, hM, hS, hW⟩ := hx.ex
  obtain ⟨a, cap, hv, hcells⟩ := msgs_cells hM
  obtain ⟨g, vc, vm, rfl, c0, c1, c2, c3, c4, c5, c6, c7, c8, hc, hm⟩ := hcells i hi
  obtain ⟨z0, z1, z2, hz⟩ := Rows.shape hc
  subst hz
  obtain ⟨y0, y1, y2, hz⟩ := Rows.shape hm
  subst hz
  subst hv
  exact ⟨g, cap, z0, z1, z2, y0, y1, y2, hB.cell 2, hB.lt, World.block_lt_of_cell? w _ c0, c0, c1, c2, c3, c4, c5, c6, c7, c8, hc, hm⟩

theorem XFresh.frame {B0 B0' : Nat} {w w' : World} {m : Msg} {v : Value} (h : XFresh B0 w m v) (hb : B0' ≤ B0) (hk : ∀ g, B0 ≤ g → g < w.heap.size → w'.heap[g]? = w.heap[g]?) : XFresh B0' w' m v := by
  obtain ⟨vc, vm, B1, rfl, h1, h2, h3, h4⟩ := h
  exact ⟨vc, vm, B1, rfl, by omega, h2, (h3.frame (fun g a b _ => hk g a b)).weaken hb, h4.frame (fun g a b _ => hk g (by omega) b)⟩

theorem XFresh.form {B0 : Nat} {w : World} {m : Msg} {v : Value} (h : XFresh B0 w m v) : ∃ a0 a1 a2 b0 b1 b2, v = .agg #[.int .i64 m.kind, .int .i64 m.frm, .int .i64 m.to_, .int .i64 m.epoch, .int .i64 m.lsn, .int .i64 m.value, .int .i64 m.scl, .slice a0 a1 a2, .slice b0 b1 b2] := by
  obtain ⟨vc, vm, B1, rfl, h1, h2, h3, h4⟩ := h
  obtain ⟨a0, a1, a2, hs⟩ := made_shape h3
  subst hs
  obtain ⟨b0, b1, b2, hs⟩ := made_shape h4
  subst hs
  exact ⟨a0, a1, a2, b0, b1, b2, rfl⟩

theorem XFresh.xmsg {B0 : Nat} {w : World} {m : Msg} {v : Value} (h : XFresh B0 w m v) (err : Int) : XMsg B0 w err m (.tuple #[v, .int .i64 err]) := by
  obtain ⟨vc, vm, B1, rfl, h1, h2, h3, h4⟩ := h
  exact ⟨vc, vm, B1, rfl, h1, h2, h3, h4⟩

set_option maxRecDepth 3000 in
set_option maxHeartbeats 4000000 in
theorem look_in {k : Nat → Nat} {w : World} {px : Nat} {x : XVol} (hx : XVolIs k w px x) (hok : XOk x) (i : Nat) (hi : i < x.msgs.length) :
    Calls Tryz.prog 99 #[.pointer (some ⟨px, 1, none⟩), .int .i64 i] w fun e w' => (∃ v, e = .returned (.tuple #[v, .bool true]) ∧ XFresh w.heap.size w' x.msgs[i] v) ∧ Below w.heap.size w w' := by
  obtain ⟨g, cap, z0, z1, z2, y0, y1, y2, q2, hpl, hgl, c0, c1, c2, c3, c4, c5, c6, c7, c8, hc, hm⟩ := xmsg_at hx i hi
  have hmk := hok.mo _ (List.getElem_mem hi)
  have hml := hok.ml
  have HFR : Hid (∀ W, Below w.heap.size w W → Calls Tryz.prog 112 #[.agg #[.int .i64 x.msgs[i].kind, .int .i64 x.msgs[i].frm, .int .i64 x.msgs[i].to_, .int .i64 x.msgs[i].epoch, .int .i64 x.msgs[i].lsn, .int .i64 x.msgs[i].value, .int .i64 x.msgs[i].scl, .slice z0 z1 z2, .slice y0 y1 y2]] W fun e w' => (∃ v, e = .returned v ∧ XFresh W.heap.size w' x.msgs[i] v) ∧ Below W.heap.size W w') := hide fun W hW =>
    fresh_any x.msgs[i] (Rows.evo hc (Evo.of_below (C := noC) hW) (noC_not _)) (Rows.evo hm (Evo.of_below (C := noC) hW) (noC_not _)) (by have := hmk.1; omega) hmk.2
  have hd1 : decide ((i : Int) < 0) = false := by simp
  have hil : (i : Int) < (x.msgs.length : Int) := by omega
  generalize x.msgs[i] = mm at *
  clear hc hm hmk hx hok
  go_enter Tryz.func99, Tryz.ntmps99
  go_wp2_with fail
  refine (HFR.out _ ((Below.refl _ _).alloc (Nat.le_refl _) _)).mono ?_
  rintro e1 w1 ⟨⟨v, rfl, hv⟩, hb1⟩
  obtain ⟨a0, a1, a2, b0, b1, b2, hvf⟩ := hv.form
  subst hvf
  have hs1 := hb1.size
  simp only [World.size_alloc] at hs1
  have hB1 : Below w.heap.size w w1 := ((Below.refl _ _).alloc (Nat.le_refl _) _).trans (hb1.mono (by simp))
  have bz : Blk (fun _ => 0) w1 0 w.heap.size 109 [.int .i64 0, .int .i64 0, .int .i64 0, .int .i64 0, .int .i64 0, .int .i64 0, .int .i64 0, .slice none 0 0, .slice none 0 0] := ⟨(hb1.block w.heap.size (by simp)).trans (heap_alloc_new w _), rfl⟩
  have zc0 : w1.cell? ⟨w.heap.size, 0, none⟩ = some (.int .i64 0) := bz.cell 0
  have zc1 : w1.cell? ⟨w.heap.size, 1, none⟩ = some (.int .i64 0) := bz.cell 1
  have zc2 : w1.cell? ⟨w.heap.size, 2, none⟩ = some (.int .i64 0) := bz.cell 2
  have zc3 : w1.cell? ⟨w.heap.size, 3, none⟩ = some (.int .i64 0) := bz.cell 3
  have zc4 : w1.cell? ⟨w.heap.size, 4, none⟩ = some (.int .i64 0) := bz.cell 4
  have zc5 : w1.cell? ⟨w.heap.size, 5, none⟩ = some (.int .i64 0) := bz.cell 5
  have zc6 : w1.cell? ⟨w.heap.size, 6, none⟩ = some (.int .i64 0) := bz.cell 6
  have zc7 : w1.cell? ⟨w.heap.size, 7, none⟩ = some (.slice none 0 0) := bz.cell 7
  have zc8 : w1.cell? ⟨w.heap.size, 8, none⟩ = some (.slice none 0 0) := bz.cell 8
  have zf0 := bz.free 0
  have zf1 := bz.free 1
  have zf2 := bz.free 2
  have zf3 := bz.free 3
  have zf4 := bz.free 4
  have zf5 := bz.free 5
  have zf6 := bz.free 6
  have zf7 := bz.free 7
  have zf8 := bz.free 8
  have zl := bz.lt
  clear hb1 bz
  go_wp2_with fail
  refine bodyPost_ret (v := .tuple #[.agg #[.int .i64 mm.kind, .int .i64 mm.frm, .int .i64 mm.to_, .int .i64 mm.epoch, .int .i64 mm.lsn, .int .i64 mm.value, .int .i64 mm.scl, .slice a0 a1 a2, .slice b0 b1 b2], .bool true]) (by simp [results, Tryz.results99, go_sem, zc0, zc1, zc2, zc3, zc4, zc5, zc6, zc7, zc8]) rfl ⟨⟨_, rfl, ?_⟩, ?_⟩
  · exact hv.frame (by simp) (fun g h1 _ => heap_set9 _ _ _ _ _ _ _ _ _ (by simp at h1; omega))
  · exact below9 hB1 (Nat.le_refl w.heap.size) (.int .i64 mm.kind) (.int .i64 mm.frm) (.int .i64 mm.to_) (.int .i64 mm.epoch) (.int .i64 mm.lsn) (.int .i64 mm.value) (.int .i64 mm.scl) (.slice a0 a1 a2) (.slice b0 b1 b2)

set_option maxRecDepth 3000 in
set_option maxHeartbeats 4000000 in
theorem xmessage_in {k : Nat → Nat} {w : World} {px : Nat} {x : XVol} (hx : XVolIs k w px x) (hok : XOk x) (i : Nat) (hi : i < x.msgs.length) :
    Calls Tryz.prog 59 #[.pointer (some ⟨px, 0, none⟩), .int .i64 i] w fun e w' => (∃ v, e = .returned v ∧ XMsg w.heap.size w' 0 x.msgs[i] v) ∧ Below w.heap.size w w' := by
  have hpl : px < w.heap.size := by obtain ⟨_, _, _, _, hB, _⟩ := hx.ex; exact hB.lt
  have HLk : Hid (∀ W, Below w.heap.size w W → Calls Tryz.prog 99 #[.pointer (some ⟨px, 1, none⟩), .int .i64 i] W fun e w' => (∃ v, e = .returned (.tuple #[v, .bool true]) ∧ XFresh W.heap.size w' x.msgs[i] v) ∧ Below W.heap.size W w') := hide fun W hW =>
    look_in (hx.evo (Evo.of_below (C := noC) hW) (noC_not _) (fun c _ _ => noC_not c)) hok i hi
  generalize x.msgs[i] = mm at *
  clear hx hok hi
  go_enter Tryz.func59, Tryz.ntmps59
  go_wp2_with fail
  refine (HLk.out _ ((Below.refl _ _).alloc (Nat.le_refl _) _)).mono ?_
  rintro e1 w1 ⟨⟨v, rfl, hv⟩, hb1⟩
  obtain ⟨a0, a1, a2, b0, b1, b2, hvf⟩ := hv.form
  subst hvf
  have hs1 := hb1.size
  simp only [World.size_alloc] at hs1
  have hB1 : Below w.heap.size w w1 := ((Below.refl _ _).alloc (Nat.le_refl _) _).trans (hb1.mono (by simp))
  have bz : Blk (fun _ => 0) w1 0 w.heap.size 109 [.int .i64 0, .int .i64 0, .int .i64 0, .int .i64 0, .int .i64 0, .int .i64 0, .int .i64 0, .slice none 0 0, .slice none 0 0] := ⟨(hb1.block w.heap.size (by simp)).trans (heap_alloc_new w _), rfl⟩
  have zc0 : w1.cell? ⟨w.heap.size, 0, none⟩ = some (.int .i64 0) := bz.cell 0
  have zc1 : w1.cell? ⟨w.heap.size, 1, none⟩ = some (.int .i64 0) := bz.cell 1
  have zc2 : w1.cell? ⟨w.heap.size, 2, none⟩ = some (.int .i64 0) := bz.cell 2
  have zc3 : w1.cell? ⟨w.heap.size, 3, none⟩ = some (.int .i64 0) := bz.cell 3
  have zc4 : w1.cell? ⟨w.heap.size, 4, none⟩ = some (.int .i64 0) := bz.cell 4
  have zc5 : w1.cell? ⟨w.heap.size, 5, none⟩ = some (.int .i64 0) := bz.cell 5
  have zc6 : w1.cell? ⟨w.heap.size, 6, none⟩ = some (.int .i64 0) := bz.cell 6
  have zc7 : w1.cell? ⟨w.heap.size, 7, none⟩ = some (.slice none 0 0) := bz.cell 7
  have zc8 : w1.cell? ⟨w.heap.size, 8, none⟩ = some (.slice none 0 0) := bz.cell 8
  have zf0 := bz.free 0
  have zf1 := bz.free 1
  have zf2 := bz.free 2
  have zf3 := bz.free 3
  have zf4 := bz.free 4
  have zf5 := bz.free 5
  have zf6 := bz.free 6
  have zf7 := bz.free 7
  have zf8 := bz.free 8
  have zl := bz.lt
  clear hb1 bz
  go_wp2_with fail
  have b9 := below9 hB1 (Nat.le_refl w.heap.size) (.int .i64 mm.kind) (.int .i64 mm.frm) (.int .i64 mm.to_) (.int .i64 mm.epoch) (.int .i64 mm.lsn) (.int .i64 mm.value) (.int .i64 mm.scl) (.slice a0 a1 a2) (.slice b0 b1 b2)
  refine bodyPost_ret (v := .tuple #[.agg #[.int .i64 mm.kind, .int .i64 mm.frm, .int .i64 mm.to_, .int .i64 mm.epoch, .int .i64 mm.lsn, .int .i64 mm.value, .int .i64 mm.scl, .slice a0 a1 a2, .slice b0 b1 b2], .int .i64 0]) (by simp [results, Tryz.results59, go_sem, zc0, zc1, zc2, zc3, zc4, zc5, zc6, zc7, zc8, zl]) rfl ⟨⟨_, rfl, XFresh.xmsg (hv.frame (by simp) (fun g h1 h2 => ?_)) 0⟩, b9.alloc b9.size _⟩
  rw [Below.heap_alloc _ _ _ (by simpa using h2)]
  exact heap_set9 _ _ _ _ _ _ _ _ _ (by simp at h1; omega)

set_option maxRecDepth 3000 in
set_option maxHeartbeats 4000000 in
theorem xdrop_any {k : Nat → Nat} {w : World} {px : Nat} {x : XVol} (hx : XVolIs k w px x) (hok : XOk x) (n : Int) :
    Calls Tryz.prog 46 #[.pointer (some ⟨px, 0, none⟩), .int .i64 n] w fun e w' => e = .returned (.int .i64 (x.drop n).2) ∧ ∃ k', Evo k k' cXN w w' ∧ XVolIs k' w' px (x.drop n).1 := by
  obtain ⟨vM, vW, sr, wr, hB, hM, hS, hW⟩ := hx.ex
  have hpl := hB.lt
  have hml := hok.ml
  by_cases hn : 0 ≤ n ∧ n < (x.msgs.length : Int)
  · obtain ⟨i, rfl⟩ := Int.eq_ofNat_of_zero_le hn.1
    have hi : i < x.msgs.length := by omega
    have HE : Hid (x.drop (i : Int) = (x.taken (i : Int), 0)) := hide (by unfold XVol.drop XVol.look; rw [if_neg (by omega), Int.toNat_natCast, List.getElem?_eq_getElem hi])
    have HT : Hid (Calls Tryz.prog 97 #[.pointer (some ⟨px, 1, none⟩), .int .i64 i] w fun e w' => ∃ z0 z1 z2 y0 y1 y2, e = .returned (.tuple #[.agg #[.int .i64 x.msgs[i].kind, .int .i64 x.msgs[i].frm, .int .i64 x.msgs[i].to_, .int .i64 x.msgs[i].epoch, .int .i64 x.msgs[i].lsn, .int .i64 x.msgs[i].value, .int .i64 x.msgs[i].scl, .slice z0 z1 z2, .slice y0 y1 y2], .bool true]) ∧ ∃ k', Evo k k' cXN w w' ∧ XVolIs k' w' px (x.taken (i : Int))) := hide (by
      refine (take_in i hi hB rfl hM (by omega)).mono ?_
      rintro e w' ⟨vc, vm, k', vM', rfl, ev, hB', hM', hc, hm⟩
      obtain ⟨z0, z1, z2, hz⟩ := Rows.shape hc
      subst hz
      obtain ⟨y0, y1, y2, hz⟩ := Rows.shape hm
      subst hz
      refine ⟨z0, z1, z2, y0, y1, y2, rfl, k', ev, ?_⟩
      unfold XVol.taken
      rw [Int.toNat_natCast]
      exact XVolIs.with_net hS hW ev hB' hM')
    generalize x.msgs[i] = mm at *
    clear hB hM hS hW hx hok hn hi
    go_enter Tryz.func46, Tryz.ntmps46
    go_wp2_with fail
    refine HT.out.mono ?_
    rintro e1 w1 ⟨z0, z1, z2, y0, y1, y2, rfl, HY⟩
    have HY' := hide HY
    clear HY
    go_wp2_with fail
    go_ret
    obtain ⟨k', ev, hv⟩ := HY'.out
    exact ⟨by rw [HE.out]; rfl, k', ev.alloc _, by rw [HE.out]; exact hv.evo (((Evo.refl k' noC _).alloc _)) (noC_not _) (fun c _ _ => noC_not c)⟩
  · have HE : Hid (x.drop n = (x, 12)) := hide (by
      unfold XVol.drop XVol.look
      by_cases h0 : n < 0
      · rw [if_pos h0]
      · rw [if_neg h0, List.getElem?_eq_none (by omega)])
    obtain ⟨a, cap, hv, _⟩ := msgs_cells hM
    subst hv
    have HT := hide (take_no w px n a x.msgs.length cap (hB.cell 2) (by omega))
    clear hB hM hS hW hok hn
    go_enter Tryz.func46, Tryz.ntmps46
    go_wp2_with fail
    refine HT.out.mono ?_
    rintro e1 w1 ⟨rfl, hb1⟩
    go_wp2_with fail
    go_ret
    exact ⟨by rw [HE.out]; rfl, k, Evo.of_below (hb1.alloc hb1.size _), by rw [HE.out]; exact hx.evo (Evo.of_below (C := noC) (hb1.alloc hb1.size _)) (noC_not _) (fun c _ _ => noC_not c)⟩

theorem XFresh.im {k : Nat → Nat} {w w' : World} {m : Msg} {v : Value} (h : XFresh w.heap.size w' m v) (hb : Below w.heap.size w w') :
    ∃ k' a0 a1 a2 b0 b1 b2, v = .agg #[.int .i64 m.kind, .int .i64 m.frm, .int .i64 m.to_, .int .i64 m.epoch, .int .i64 m.lsn, .int .i64 m.value, .int .i64 m.scl, .slice a0 a1 a2, .slice b0 b1 b2] ∧ Evo k k' noC w w' ∧ CutsIm k' w' (.slice a0 a1 a2) m.cuts ∧ IntsIm k' w' (.slice b0 b1 b2) m.marks := by
  obtain ⟨vc, vm, B1, rfl, h1, h2, h3, h4⟩ := h
  obtain ⟨a0, a1, a2, hs⟩ := made_shape h3
  subst hs
  obtain ⟨b0, b1, b2, hs⟩ := made_shape h4
  subst hs
  have ev : Evo k (fun g => if g < w.heap.size then k g else IM) noC w w' := (Evo.of_below (k := k) hb).recolour _ (fun i hi => if_pos hi)
  refine ⟨_, a0, a1, a2, b0, b1, b2, rfl, ev, ?_, ?_⟩
  · exact h3.colour (c := IM) (fun g hg => if_neg (by have := (Made.block h3 g hg).1; omega))
  · exact h4.colour (c := IM) (fun g hg => if_neg (by have := (Made.block h4 g hg).1; omega))

set_option maxRecDepth 3000 in
set_option maxHeartbeats 4000000 in
theorem xcopy_any {k : Nat → Nat} {w : World} {px : Nat} {x : XVol} (hx : XVolIs k w px x) (hok : XOk x) (n : Int) :
    Calls Tryz.prog 48 #[.pointer (some ⟨px, 0, none⟩), .int .i64 n] w fun e w' => e = .returned (.int .i64 (x.copy n).2) ∧ ∃ k', Evo k k' cXN w w' ∧ XVolIs k' w' px (x.copy n).1 := by
  have hx0 := hx
  obtain ⟨vM, vW, sr, wr, hB, hM, hS, hW⟩ := hx.ex
  have hpl := hB.lt
  have hml := hok.ml
  by_cases hn : 0 ≤ n ∧ n < (x.msgs.length : Int)
  · obtain ⟨i, rfl⟩ := Int.eq_ofNat_of_zero_le hn.1
    have hi : i < x.msgs.length := by omega
    have HE : Hid (x.copy (i : Int) = (x.send x.msgs[i], 0)) := hide (by unfold XVol.copy XVol.look; rw [if_neg (by omega), Int.toNat_natCast, List.getElem?_eq_getElem hi])
    have hmk := hok.mo _ (List.getElem_mem hi)
    have HLk := hide (look_in hx0 hok i hi)
    have HX := hide hx0
    have HK := hide hok
    generalize x.msgs[i] = mm at *
    clear hB hM hS hW hx hx0 hok hn hi
    go_enter Tryz.func48, Tryz.ntmps48
    go_wp2_with fail
    refine HLk.out.mono ?_
    rintro e1 w1 ⟨⟨v, rfl, hv⟩, hb1⟩
    obtain ⟨k1, a0, a1, a2, b0, b1, b2, rfl, ev1, hc, hm⟩ := hv.im (k := k) hb1
    have hpl1 : px < w1.heap.size := Nat.lt_of_lt_of_le hpl hb1.size
    have HS : Hid (∀ W, Below w1.heap.size w1 W → Calls Tryz.prog 87 #[.pointer (some ⟨px, 1, none⟩), .agg #[.int .i64 mm.kind, .int .i64 mm.frm, .int .i64 mm.to_, .int .i64 mm.epoch, .int .i64 mm.lsn, .int .i64 mm.value, .int .i64 mm.scl, .slice a0 a1 a2, .slice b0 b1 b2]] W fun e w' => e = .returned (.tuple #[]) ∧ ∃ k', Evo k k' cXN w w' ∧ XVolIs k' w' px (x.send mm)) := hide fun W hW => by
      have e0 : Evo k1 k1 noC w1 W := Evo.of_below hW
      refine (xsend_any mm ((HX.out.evo ev1 (noC_not _) (fun c _ _ => noC_not c)).evo e0 (noC_not _) (fun c _ _ => noC_not c)) HK.out (hc.evo e0 (noC_not _)) (hm.evo e0 (noC_not _)) hmk).mono ?_
      rintro e w' ⟨rfl, k2, ev2, h2⟩
      exact ⟨rfl, k2, ((ev1.trans e0).mono (fun _ h => h.elim)).trans ev2, h2⟩
    clear hv hb1 hc hm ev1
    go_wp2_with fail
    go_region_with (go_at_call 87; refine (HS.out _ (Below.drew ((Below.refl _ _).alloc (Nat.le_refl _) _))).mono ?_; rintro e2 w4 ⟨rfl, HY2⟩)
    all_goals go_wp2_with fail
    all_goals go_ret
    all_goals exact ⟨by rw [HE.out]; rfl, by rw [HE.out]; exact HY2⟩
  · have HE : Hid (x.copy n = (x, 12)) := hide (by
      unfold XVol.copy XVol.look
      by_cases h0 : n < 0
      · rw [if_pos h0]
      · rw [if_neg h0, List.getElem?_eq_none (by omega)])
    obtain ⟨a, cap, hv, _⟩ := msgs_cells hM
    subst hv
    have HT := hide (look_no w px n a x.msgs.length cap (hB.cell 2) (by omega))
    clear hB hM hS hW hok hn
    go_enter Tryz.func48, Tryz.ntmps48
    go_wp2_with fail
    refine HT.out.mono ?_
    rintro e1 w1 ⟨rfl, hb1⟩
    go_wp2_with fail
    go_ret
    exact ⟨by rw [HE.out]; rfl, k, Evo.of_below (hb1.alloc hb1.size _), by rw [HE.out]; exact hx0.evo (Evo.of_below (C := noC) (hb1.alloc hb1.size _)) (noC_not _) (fun c _ _ => noC_not c)⟩
end Go.Proofs.YtfpbkghcjaonlaaGreat
