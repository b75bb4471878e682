import Derived.Test.YtfpbkghcjaonlaaGreatJ19
/-
  The program: MStatus at a writer.
-/
namespace Go.Proofs.YtfpbkghcjaonlaaGreat
open Go.RowKit

theorem wrRow_setHeard (x : XWr) (vN vC vV : Value) (s : Nat) (hs : s < 6) (h6 : x.heard.length = 6) (v : Bool) : (wrRow x vN vC vV).set (8 + s) (.bool v) = wrRow { x with heard := x.heard.set s v } vN vC vV := by
  unfold wrRow
  rw [List.set_append_right _ _ (by simp), List.set_append_left _ _ (by simp; omega)]
  simp only [List.length_cons, List.length_nil, List.map_set]
  congr 3
  omega
theorem wrRow_setNoted (x : XWr) (vN vC vV : Value) (s : Nat) (hs : s < 6) (h6 : x.heard.length = 6) (v : Int) : (wrRow x vN vC vV).set (14 + s) (.int .i64 v) = wrRow { x with noted := x.noted.set s v } vN vC vV := by
  unfold wrRow
  rw [List.set_append_right _ _ (by simp; omega), List.set_append_right _ _ (by simp; omega)]
  simp only [List.length_cons, List.length_nil, List.length_map, h6, List.map_set]
  congr 3
  omega

/-- What of a writer is read from its row. -/
theorem WrW.at {k : Nat → Nat} {w : World} {c g n cap i : Nat} {wrows : List (List Value)} {x : XWr} {n0 c0 v0 : Option Addr} {n1 n2 c1 c2 v1 v2 : Nat} (h : WrW k w g n cap wrows i x (.slice n0 n1 n2) (.slice c0 c1 c2) (.slice v0 v1 v2)) (hN : NotesIs k w c (.slice n0 n1 n2) x.notes) (hC : CutsIm k w (.slice c0 c1 c2) x.cuts) (hV : Rows k w (c + 1) 3 1 (.slice v0 v1 v2) (x.values.map intRow)) : WrAt k w c g (i * 20) x :=
  ⟨⟨n0, n1, n2, c0, c1, c2, v0, v1, v2, h.facts.2.2.1, hN, hC, hV⟩, h.h6, h.n6⟩

set_option maxRecDepth 3000 in
set_option maxHeartbeats 4000000 in
theorem hearStatus_no {k : Nat → Nat} {w : World} {g n cap i : Nat} {wrows : List (List Value)} {x : XWr} {vN vC vV : Value} (h : WrW k w g n cap wrows i x vN vC vV) (m0 m1 m2 m3 m4 m5 m6 : Int) (z0 y0 : Option Addr) (z1 z2 y1 y2 : Nat) (hp : ¬ (x.phase = 2 ∨ x.phase = 3)) :
    Calls Tryz.prog 129 #[.pointer (some ⟨g, i * 20, none⟩), .agg #[.int .i64 m0, .int .i64 m1, .int .i64 m2, .int .i64 m3, .int .i64 m4, .int .i64 m5, .int .i64 m6, .slice z0 z1 z2, .slice y0 y1 y2]] w fun e w' => e = .returned (.tuple #[]) ∧ Below w.heap.size w w' := by
  obtain ⟨hk, hl, hc, hf⟩ := h.facts
  have q1 : w.cell? ⟨g, i * 20 + 1, none⟩ = some (.int .i64 x.phase) := hc 1 (by omega)
  have d2 : (x.phase != 2) = true := by simp; exact fun h => hp (.inl h)
  have d3 : (x.phase != 3) = true := by simp; exact fun h => hp (.inr h)
  clear hc hf h hp
  go_enter Tryz.func129, Tryz.ntmps129
  go_wp2_with fail
  refine bodyPost_ret (v := .tuple #[]) (by simp [results, Tryz.results129]) rfl ⟨rfl, (Below.refl _ _).alloc (Nat.le_refl _) _⟩

theorem hs_no {x : XWr} {s : Nat} {m0 m2 m3 m4 m5 m6 : Int} {mc : List (Int × Int)} {mm : List Int} (hph : x.phase = 2) (hsc : ¬ x.noted.getD s 0 < m6) (hr : ¬ 4 ≤ XWr.readyN { x with heard := x.heard.set s true }) : x.hearStatus ⟨m0, s, m2, m3, m4, m5, m6, mc, mm⟩ = { x with heard := x.heard.set s true } := by
  unfold XWr.hearStatus
  rw [if_pos (.inl hph)]
  unfold XWr.noteS
  simp only [Int.toNat_natCast, if_neg hsc]
  unfold XWr.opens
  rw [if_neg (fun h => hr h.2)]
  unfold XWr.durs
  rw [if_neg (by simp [hph])]
theorem hs_yes {x : XWr} {s : Nat} {m0 m2 m3 m4 m5 m6 : Int} {mc : List (Int × Int)} {mm : List Int} (hph : x.phase = 2) (hsc : ¬ x.noted.getD s 0 < m6) (hr : 4 ≤ XWr.readyN { x with heard := x.heard.set s true }) : x.hearStatus ⟨m0, s, m2, m3, m4, m5, m6, mc, mm⟩ = { x with heard := x.heard.set s true, phase := 3, dur := XWr.agreed { x with heard := x.heard.set s true, phase := 3 } } := by
  unfold XWr.hearStatus
  rw [if_pos (.inl hph)]
  unfold XWr.noteS
  simp only [Int.toNat_natCast, if_neg hsc]
  unfold XWr.opens
  rw [if_pos ⟨hph, hr⟩]
  unfold XWr.durs
  rw [if_pos rfl]

theorem hs_no2 {x : XWr} {s : Nat} {m0 m2 m3 m4 m5 m6 : Int} {mc : List (Int × Int)} {mm : List Int} (hph : x.phase = 2) (hsc : x.noted.getD s 0 < m6) (hr : ¬ 4 ≤ XWr.readyN { x with heard := x.heard.set s true, noted := x.noted.set s m6 }) : x.hearStatus ⟨m0, s, m2, m3, m4, m5, m6, mc, mm⟩ = { x with heard := x.heard.set s true, noted := x.noted.set s m6 } := by
  unfold XWr.hearStatus
  rw [if_pos (.inl hph)]
  unfold XWr.noteS
  simp only [Int.toNat_natCast, if_pos hsc]
  unfold XWr.opens
  rw [if_neg (fun h => hr h.2)]
  unfold XWr.durs
  rw [if_neg (by simp [hph])]
theorem hs_yes2 {x : XWr} {s : Nat} {m0 m2 m3 m4 m5 m6 : Int} {mc : List (Int × Int)} {mm : List Int} (hph : x.phase = 2) (hsc : x.noted.getD s 0 < m6) (hr : 4 ≤ XWr.readyN { x with heard := x.heard.set s true, noted := x.noted.set s m6 }) : x.hearStatus ⟨m0, s, m2, m3, m4, m5, m6, mc, mm⟩ = { x with heard := x.heard.set s true, noted := x.noted.set s m6, phase := 3, dur := XWr.agreed { x with heard := x.heard.set s true, noted := x.noted.set s m6, phase := 3 } } := by
  unfold XWr.hearStatus
  rw [if_pos (.inl hph)]
  unfold XWr.noteS
  simp only [Int.toNat_natCast, if_pos hsc]
  unfold XWr.opens
  rw [if_pos ⟨hph, hr⟩]
  unfold XWr.durs
  rw [if_pos rfl]

theorem hs_3 {x : XWr} {s : Nat} {m0 m2 m3 m4 m5 m6 : Int} {mc : List (Int × Int)} {mm : List Int} (hph : x.phase = 3) (hsc : ¬ x.noted.getD s 0 < m6) : x.hearStatus ⟨m0, s, m2, m3, m4, m5, m6, mc, mm⟩ = { x with heard := x.heard.set s true, dur := XWr.agreed { x with heard := x.heard.set s true } } := by
  unfold XWr.hearStatus
  rw [if_pos (.inr hph)]
  unfold XWr.noteS
  simp only [Int.toNat_natCast, if_neg hsc]
  unfold XWr.opens
  rw [if_neg (by simp [hph])]
  unfold XWr.durs
  rw [if_pos hph]
theorem hs_32 {x : XWr} {s : Nat} {m0 m2 m3 m4 m5 m6 : Int} {mc : List (Int × Int)} {mm : List Int} (hph : x.phase = 3) (hsc : x.noted.getD s 0 < m6) : x.hearStatus ⟨m0, s, m2, m3, m4, m5, m6, mc, mm⟩ = { x with heard := x.heard.set s true, noted := x.noted.set s m6, dur := XWr.agreed { x with heard := x.heard.set s true, noted := x.noted.set s m6 } } := by
  unfold XWr.hearStatus
  rw [if_pos (.inr hph)]
  unfold XWr.noteS
  simp only [Int.toNat_natCast, if_pos hsc]
  unfold XWr.opens
  rw [if_neg (by simp [hph])]
  unfold XWr.durs
  rw [if_pos hph]

set_option maxRecDepth 3000 in
set_option maxHeartbeats 8000000 in
theorem hearStatus_yes {k : Nat → Nat} {w : World} {c g n cap i : Nat} {wrows : List (List Value)} {x : XWr} {n0 c0 v0 : Option Addr} {n1 n2 c1 c2 v1 v2 : Nat} (h : WrW k w g n cap wrows i x (.slice n0 n1 n2) (.slice c0 c1 c2) (.slice v0 v1 v2)) (hN : NotesIs k w c (.slice n0 n1 n2) x.notes) (hC : CutsIm k w (.slice c0 c1 c2) x.cuts) (hV : Rows k w (c + 1) 3 1 (.slice v0 v1 v2) (x.values.map intRow)) (hc1 : c ≠ cXW) (hc2 : c + 1 ≠ cXW)
    (s : Nat) (hs : s < 6) (m0 m2 m3 m4 m5 m6 : Int) (z0 y0 : Option Addr) (z1 z2 y1 y2 : Nat) (hp : x.phase = 2 ∨ x.phase = 3) (mc : List (Int × Int)) (mm : List Int) :
    Calls Tryz.prog 129 #[.pointer (some ⟨g, i * 20, none⟩), .agg #[.int .i64 m0, .int .i64 (s : Int), .int .i64 m2, .int .i64 m3, .int .i64 m4, .int .i64 m5, .int .i64 m6, .slice z0 z1 z2, .slice y0 y1 y2]] w fun e w' => e = .returned (.tuple #[]) ∧ ∃ k', Evo k k' (fun c => c = cXW) w w' ∧
      WrW k' w' g n cap (wrows.set i (wrRow (x.hearStatus ⟨m0, s, m2, m3, m4, m5, m6, mc, mm⟩) (.slice n0 n1 n2) (.slice c0 c1 c2) (.slice v0 v1 v2))) i (x.hearStatus ⟨m0, s, m2, m3, m4, m5, m6, mc, mm⟩) (.slice n0 n1 n2) (.slice c0 c1 c2) (.slice v0 v1 v2) := by
  obtain ⟨hk, hl, hc, hf⟩ := h.facts
  have q1 : w.cell? ⟨g, i * 20 + 1, none⟩ = some (.int .i64 x.phase) := hc 1 (by omega)
  have q8 : w.cell? ⟨g, i * 20 + 8 + s, none⟩ = some (.bool (x.heard.getD s false)) := by have := (hc (8 + s) (by omega)).trans (wrRow_heard x _ _ _ s hs h.h6); rwa [← Nat.add_assoc] at this
  have f8 := hf (i * 20 + 8 + s)
  have hs6 : (s : Int) < 6 := by omega
  have hgn : ¬ g = w.heap.size := by omega
  have d23 : x.phase = 2 ∨ ((x.phase != 2) = true ∧ x.phase = 3) := by
    rcases hp with h | h
    · exact .inl h
    · exact .inr ⟨by simp [h], h⟩
  have H0 := hide h
  have HN := hide hN
  have HC := hide hC
  have HV := hide hV
  clear hc hf h hp hN hC hV
  obtain ⟨xr, hxr⟩ : ∃ xr, xr = x.hearStatus ⟨m0, s, m2, m3, m4, m5, m6, mc, mm⟩ := ⟨_, rfl⟩
  rw [← hxr]
  have HXR := hide hxr
  clear hxr
  rcases d23 with hph | ⟨d2, hph⟩
  · rw [hph] at q1
    go_enter Tryz.func129, Tryz.ntmps129
    go_wp2_with fail
    obtain ⟨W0, hW0⟩ : ∃ W0, W0 = w.alloc (Obj.cells #[.int .i64 m0, .int .i64 (s : Int), .int .i64 m2, .int .i64 m3, .int .i64 m4, .int .i64 m5, .int .i64 m6, .slice z0 z1 z2, .slice y0 y1 y2] 109) := ⟨_, rfl⟩
    rw [← hW0]
    obtain ⟨kx, hkx⟩ : ∃ kx : Nat → Nat, kx = fun b => if b < w.heap.size then k b else 0 := ⟨_, rfl⟩
    have evx : Evo k kx noC w W0 := by rw [hkx, hW0]; exact ((Evo.refl k noC w).alloc _).recolour _ (fun j hj => if_pos hj)
    obtain ⟨bi, hbi⟩ : ∃ bi, bi = w.heap.size := ⟨_, rfl⟩
    rw [← hbi]
    have bm0 : Blk kx W0 0 bi 109 [.int .i64 m0, .int .i64 (s : Int), .int .i64 m2, .int .i64 m3, .int .i64 m4, .int .i64 m5, .int .i64 m6, .slice z0 z1 z2, .slice y0 y1 y2] := by rw [hW0, hbi]; exact ⟨heap_alloc_new w _, by rw [hkx]; simp⟩
    rw [← hbi] at hgn
    have HH := hide (And.intro hW0 (And.intro hkx hbi))
    clear hW0 hkx hbi q1 q8 f8
    have h0 := H0.out.evo evx (noC_not _)
    obtain ⟨hk0, hl0, hc0', hf0⟩ := h0.facts
    have q8 : W0.cell? ⟨g, i * 20 + 8 + s, none⟩ = some (.bool (x.heard.getD s false)) := by have := (hc0' (8 + s) (by omega)).trans (wrRow_heard x _ _ _ s hs h0.h6); rwa [← Nat.add_assoc] at this
    have f8 := hf0 (i * 20 + 8 + s)
    have b1 : W0.cell? ⟨bi, 1, none⟩ = some (.int .i64 (s : Int)) := bm0.cell 1
    have bl0 := bm0.lt
    have h1 := h0.set (x' := { x with heard := x.heard.set s true }) (8 + s) (by omega) (.bool true) (wrRow_setHeard x _ _ _ s hs h0.h6 true) (by simpa using h0.h6) h0.n6
    rw [← Nat.add_assoc] at h1
    have ev1 : Evo k kx (fun c => c = cXW) w (W0.setCell ⟨g, i * 20 + 8 + s, none⟩ (.bool true)).drew := ((evx.mono (D := fun c => c = cXW) (fun _ h => h.elim)).setCell _ _ (fun _ => hk0)).drew
    have bm1 : Blk kx (W0.setCell ⟨g, i * 20 + 8 + s, none⟩ (.bool true)).drew 0 bi 109 [.int .i64 m0, .int .i64 (s : Int), .int .i64 m2, .int .i64 m3, .int .i64 m4, .int .i64 m5, .int .i64 m6, .slice z0 z1 z2, .slice y0 y1 y2] := bm0.other _ _ (fun e => hgn e.symm)
    have HW1 : Hid (WrW kx (W0.setCell ⟨g, i * 20 + 8 + s, none⟩ (.bool true)).drew g n cap (wrows.set i (wrRow { x with heard := x.heard.set s true } (.slice n0 n1 n2) (.slice c0 c1 c2) (.slice v0 v1 v2))) i { x with heard := x.heard.set s true } (.slice n0 n1 n2) (.slice c0 c1 c2) (.slice v0 v1 v2)) := hide ⟨h1.own.drew, h1.hi, h1.row, h1.h6, h1.n6⟩
    clear hc0' hf0 h0 h1 bm0 evx
    go_region
    go_wp2_with fail
    generalize (W0.setCell ⟨g, i * 20 + 8 + s, none⟩ (.bool true)).drew = W1 at *
    clear q8 f8 b1 bl0 hk0 hl0
    obtain ⟨hk1, hl1, hc1', hf1⟩ := HW1.out.facts
    have b1 : W1.cell? ⟨bi, 1, none⟩ = some (.int .i64 (s : Int)) := bm1.cell 1
    have b6 : W1.cell? ⟨bi, 6, none⟩ = some (.int .i64 m6) := bm1.cell 6
    have bl1 := bm1.lt
    have q14 : W1.cell? ⟨g, i * 20 + 14 + s, none⟩ = some (.int .i64 (x.noted.getD s 0)) := by have := (hc1' (14 + s) (by omega)).trans (wrRow_noted _ _ _ _ s hs HW1.out.h6 HW1.out.n6); rwa [← Nat.add_assoc] at this
    have f14 := hf1 (i * 20 + 14 + s)
    clear hc1' hf1
    obtain ⟨nt, hnt⟩ : ∃ nt, nt = x.noted.getD s 0 := ⟨_, rfl⟩
    rw [← hnt] at q14
    have HNT := hide hnt
    clear hnt
    by_cases hsc : nt < m6
    · have hd : decide (nt < m6) = true := by simpa using hsc
      have hsc' : x.noted.getD s 0 < m6 := by rw [← HNT.out]; exact hsc
      go_quiet (fail)
      have evd : Evo kx kx noC W1 (W1.drewN nq) := (Evo.refl kx noC W1).drewN nq
      have ev1' := ev1.drewN nq
      have bm2 := bm1.evo evd (noC_not _)
      have hWd := HW1.out.evo evd (noC_not _)
      generalize W1.drewN nq = W9 at *
      clear q14 f14 b1 b6 bl1 hk1 hl1
      obtain ⟨hk9, hl9, hc9, hf9⟩ := hWd.facts
      have b1 : W9.cell? ⟨bi, 1, none⟩ = some (.int .i64 (s : Int)) := bm2.cell 1
      have b6 : W9.cell? ⟨bi, 6, none⟩ = some (.int .i64 m6) := bm2.cell 6
      have bl9 := bm2.lt
      have q14 : W9.cell? ⟨g, i * 20 + 14 + s, none⟩ = some (.int .i64 nt) := by rw [HNT.out]; have := (hc9 (14 + s) (by omega)).trans (wrRow_noted _ _ _ _ s hs hWd.h6 hWd.n6); rwa [← Nat.add_assoc] at this
      have f14 := hf9 (i * 20 + 14 + s)
      have h2 := hWd.set (x' := { x with heard := x.heard.set s true, noted := x.noted.set s m6 }) (14 + s) (by omega) (.int .i64 m6) (wrRow_setNoted _ _ _ _ s hs hWd.h6 m6) hWd.h6 (by simpa using hWd.n6)
      rw [← Nat.add_assoc] at h2
      simp only [List.set_set] at h2
      have ev2 : Evo k kx (fun c => c = cXW) w (W9.setCell ⟨g, i * 20 + 14 + s, none⟩ (.int .i64 m6)).drew := (ev1'.setCell _ _ (fun _ => hk9)).drew
      have HW2 : Hid (WrW kx (W9.setCell ⟨g, i * 20 + 14 + s, none⟩ (.int .i64 m6)).drew g n cap (wrows.set i (wrRow { x with heard := x.heard.set s true, noted := x.noted.set s m6 } (.slice n0 n1 n2) (.slice c0 c1 c2) (.slice v0 v1 v2))) i { x with heard := x.heard.set s true, noted := x.noted.set s m6 } (.slice n0 n1 n2) (.slice c0 c1 c2) (.slice v0 v1 v2)) := hide ⟨h2.own.drew, h2.hi, h2.row, h2.h6, h2.n6⟩
      clear hc9 hf9 h2 hWd
      go_wp2_with fail
      go_region
      generalize (W9.setCell ⟨g, i * 20 + 14 + s, none⟩ (.int .i64 m6)).drew = W2 at *
      clear q14 f14 b1 b6 bl9 hk9 hl9
      have hA := HW2.out.at (HN.out.evo ev2 (by omega) (by decide)) (HC.out.evo ev2 (by decide)) (HV.out.evo ev2 (by omega))
      obtain ⟨hkt, hlt', hct, hft⟩ := HW2.out.facts
      have t1 : W2.cell? ⟨g, i * 20 + 1, none⟩ = some (.int .i64 2) := (hct 1 (by omega)).trans (by rw [← hph]; rfl)
      have tf1 := hft (i * 20 + 1)
      have HRdy := hide (ready_any hA)
      clear hA hct hft
      cases hrd : decide (4 ≤ { x with heard := x.heard.set s true, noted := x.noted.set s m6 }.readyN)
      · rw [hrd] at HRdy
        have HE : Hid (xr = { x with heard := x.heard.set s true, noted := x.noted.set s m6 }) := hide (by rw [HXR.out]; exact hs_no2 hph hsc' (by simpa using hrd))
        go_wp2_with fail
        refine HRdy.out.mono ?_
        rintro e5 w5 ⟨rfl, hb5⟩
        have t5 := (hb5.cell (p := ⟨g, i * 20 + 1, none⟩) hlt').trans t1
        have hl5 : g < w5.heap.size := Nat.lt_of_lt_of_le hlt' hb5.size
        go_wp2_with fail
        go_end0
        refine ⟨rfl, kx, ev2.trans (Evo.of_below hb5), ?_⟩
        rw [HE.out]
        exact WrW.evo HW2.out (Evo.of_below (C := noC) hb5) (noC_not _)
      · rw [hrd] at HRdy
        have HE : Hid (xr = { { x with heard := x.heard.set s true, noted := x.noted.set s m6 } with phase := 3, dur := XWr.agreed { { x with heard := x.heard.set s true, noted := x.noted.set s m6 } with phase := 3 } }) := hide (by rw [HXR.out]; exact hs_yes2 hph hsc' (by simpa using hrd))
        go_wp2_with fail
        refine HRdy.out.mono ?_
        rintro e5 w5 ⟨rfl, hb5⟩
        have hW5 := WrW.evo HW2.out (Evo.of_below (C := noC) hb5) (noC_not _)
        have ev5 : Evo k kx (fun c => c = cXW) w w5 := ev2.trans (Evo.of_below hb5)
        obtain ⟨hk5, hl5, hc5, hf5⟩ := hW5.facts
        have t5 : w5.cell? ⟨g, i * 20 + 1, none⟩ = some (.int .i64 2) := (hc5 1 (by omega)).trans (by rw [← hph]; rfl)
        have tf5 := hf5 (i * 20 + 1)
        have hW6 := hW5.set (x' := { { x with heard := x.heard.set s true, noted := x.noted.set s m6 } with phase := 3 }) 1 (by omega) (.int .i64 3) rfl hW5.h6 hW5.n6
        have ev6 : Evo k kx (fun c => c = cXW) w (w5.setCell ⟨g, i * 20 + 1, none⟩ (.int .i64 3)) := ev5.setCell _ _ (fun _ => hk5)
        simp only [List.set_set] at hW6
        have HW6 := hide (And.intro hW6 ev6)
        clear hW5 hc5 hf5 hW6 ev6
        go_upto_region 7 with (fail)
        generalize w5.setCell ⟨g, i * 20 + 1, none⟩ (.int .i64 3) = w6 at *
        obtain ⟨hW6, ev6⟩ := HW6.out
        have hA6 := hW6.at (HN.out.evo ev6 (by omega) (by decide)) (HC.out.evo ev6 (by decide)) (HV.out.evo ev6 (by omega))
        obtain ⟨hk6, hl6, hc6, hf6⟩ := hW6.facts
        have t6 : w6.cell? ⟨g, i * 20 + 1, none⟩ = some (.int .i64 3) := (hc6 1 (by omega)).trans rfl
        have u4 : ∃ dd, w6.cell? ⟨g, i * 20 + 4, none⟩ = some (.int .i64 dd) := ⟨_, (hc6 4 (by omega)).trans rfl⟩
        obtain ⟨dd, t4⟩ := u4
        have tf6 := hf6 (i * 20 + 4)
        have HAg := hide (agreed_any hA6)
        have hW7 := hW6.set (x' := { { x with heard := x.heard.set s true, noted := x.noted.set s m6 } with phase := 3, dur := XWr.agreed { { x with heard := x.heard.set s true, noted := x.noted.set s m6 } with phase := 3 } }) 4 (by omega) (.int .i64 (XWr.agreed { { x with heard := x.heard.set s true, noted := x.noted.set s m6 } with phase := 3 })) rfl hW6.h6 hW6.n6
        simp only [List.set_set] at hW7
        have HW7 := hide (And.intro hW7 (ev6.setCell ⟨g, i * 20 + 4, none⟩ (.int .i64 (XWr.agreed { { x with heard := x.heard.set s true, noted := x.noted.set s m6 } with phase := 3 })) (fun _ => hk6)))
        generalize XWr.agreed { { x with heard := x.heard.set s true, noted := x.noted.set s m6 } with phase := 3 } = ag at *
        clear hA6 hc6 hf6 hW7 hW6 ev6
        go_wp2_with fail
        refine HAg.out.mono ?_
        rintro e8 w8 ⟨rfl, hw8⟩
        have hw9 := hw8.symm
        subst hw9
        go_wp2_with fail
        go_end0
        exact ⟨rfl, kx, HW7.out.2, by rw [HE.out]; exact HW7.out.1⟩
    · have hd : decide (nt < m6) = false := by simpa using hsc
      have hsc' : ¬ x.noted.getD s 0 < m6 := by rw [← HNT.out]; exact hsc
      go_quiet (fail)
      have ev2 := ev1.drewN nq
      have HW2 : Hid (WrW kx (W1.drewN nq) g n cap _ i { x with heard := x.heard.set s true } (.slice n0 n1 n2) (.slice c0 c1 c2) (.slice v0 v1 v2)) := hide (HW1.out.evo ((Evo.refl kx noC W1).drewN nq) (noC_not _))
      generalize W1.drewN nq = W2 at *
      clear q14 f14 b1 b6 bl1 hk1 hl1
      have hA := HW2.out.at (HN.out.evo ev2 (by omega) (by decide)) (HC.out.evo ev2 (by decide)) (HV.out.evo ev2 (by omega))
      obtain ⟨hkt, hlt', hct, hft⟩ := HW2.out.facts
      have t1 : W2.cell? ⟨g, i * 20 + 1, none⟩ = some (.int .i64 2) := (hct 1 (by omega)).trans (by rw [← hph]; rfl)
      have tf1 := hft (i * 20 + 1)
      have HRdy := hide (ready_any hA)
      clear hA hct hft
      cases hrd : decide (4 ≤ { x with heard := x.heard.set s true }.readyN)
      · rw [hrd] at HRdy
        have HE : Hid (xr = { x with heard := x.heard.set s true }) := hide (by rw [HXR.out]; exact hs_no hph hsc' (by simpa using hrd))
        go_wp2_with fail
        refine HRdy.out.mono ?_
        rintro e5 w5 ⟨rfl, hb5⟩
        have t5 := (hb5.cell (p := ⟨g, i * 20 + 1, none⟩) hlt').trans t1
        have hl5 : g < w5.heap.size := Nat.lt_of_lt_of_le hlt' hb5.size
        go_wp2_with fail
        go_end0
        refine ⟨rfl, kx, ev2.trans (Evo.of_below hb5), ?_⟩
        rw [HE.out]
        exact WrW.evo HW2.out (Evo.of_below (C := noC) hb5) (noC_not _)
      · rw [hrd] at HRdy
        have HE : Hid (xr = { { x with heard := x.heard.set s true } with phase := 3, dur := XWr.agreed { { x with heard := x.heard.set s true } with phase := 3 } }) := hide (by rw [HXR.out]; exact hs_yes hph hsc' (by simpa using hrd))
        go_wp2_with fail
        refine HRdy.out.mono ?_
        rintro e5 w5 ⟨rfl, hb5⟩
        have hW5 := WrW.evo HW2.out (Evo.of_below (C := noC) hb5) (noC_not _)
        have ev5 : Evo k kx (fun c => c = cXW) w w5 := ev2.trans (Evo.of_below hb5)
        obtain ⟨hk5, hl5, hc5, hf5⟩ := hW5.facts
        have t5 : w5.cell? ⟨g, i * 20 + 1, none⟩ = some (.int .i64 2) := (hc5 1 (by omega)).trans (by rw [← hph]; rfl)
        have tf5 := hf5 (i * 20 + 1)
        have hW6 := hW5.set (x' := { { x with heard := x.heard.set s true } with phase := 3 }) 1 (by omega) (.int .i64 3) rfl hW5.h6 hW5.n6
        have ev6 : Evo k kx (fun c => c = cXW) w (w5.setCell ⟨g, i * 20 + 1, none⟩ (.int .i64 3)) := ev5.setCell _ _ (fun _ => hk5)
        simp only [List.set_set] at hW6
        have HW6 := hide (And.intro hW6 ev6)
        clear hW5 hc5 hf5 hW6 ev6
        go_upto_region 7 with (fail)
        generalize w5.setCell ⟨g, i * 20 + 1, none⟩ (.int .i64 3) = w6 at *
        obtain ⟨hW6, ev6⟩ := HW6.out
        have hA6 := hW6.at (HN.out.evo ev6 (by omega) (by decide)) (HC.out.evo ev6 (by decide)) (HV.out.evo ev6 (by omega))
        obtain ⟨hk6, hl6, hc6, hf6⟩ := hW6.facts
        have t6 : w6.cell? ⟨g, i * 20 + 1, none⟩ = some (.int .i64 3) := (hc6 1 (by omega)).trans rfl
        have u4 : ∃ dd, w6.cell? ⟨g, i * 20 + 4, none⟩ = some (.int .i64 dd) := ⟨_, (hc6 4 (by omega)).trans rfl⟩
        obtain ⟨dd, t4⟩ := u4
        have tf6 := hf6 (i * 20 + 4)
        have HAg := hide (agreed_any hA6)
        have hW7 := hW6.set (x' := { { x with heard := x.heard.set s true } with phase := 3, dur := XWr.agreed { { x with heard := x.heard.set s true } with phase := 3 } }) 4 (by omega) (.int .i64 (XWr.agreed { { x with heard := x.heard.set s true } with phase := 3 })) rfl hW6.h6 hW6.n6
        simp only [List.set_set] at hW7
        have HW7 := hide (And.intro hW7 (ev6.setCell ⟨g, i * 20 + 4, none⟩ (.int .i64 (XWr.agreed { { x with heard := x.heard.set s true } with phase := 3 })) (fun _ => hk6)))
        generalize XWr.agreed { { x with heard := x.heard.set s true } with phase := 3 } = ag at *
        clear hA6 hc6 hf6 hW7 hW6 ev6
        go_wp2_with fail
        refine HAg.out.mono ?_
        rintro e8 w8 ⟨rfl, hw8⟩
        have hw9 := hw8.symm
        subst hw9
        go_wp2_with fail
        go_end0
        exact ⟨rfl, kx, HW7.out.2, by rw [HE.out]; exact HW7.out.1⟩
  · rw [hph] at q1
    go_enter Tryz.func129, Tryz.ntmps129
    go_wp2_with fail
    obtain ⟨W0, hW0⟩ : ∃ W0, W0 = w.alloc (Obj.cells #[.int .i64 m0, .int .i64 (s : Int), .int .i64 m2, .int .i64 m3, .int .i64 m4, .int .i64 m5, .int .i64 m6, .slice z0 z1 z2, .slice y0 y1 y2] 109) := ⟨_, rfl⟩
    rw [← hW0]
    obtain ⟨kx, hkx⟩ : ∃ kx : Nat → Nat, kx = fun b => if b < w.heap.size then k b else 0 := ⟨_, rfl⟩
    have evx : Evo k kx noC w W0 := by rw [hkx, hW0]; exact ((Evo.refl k noC w).alloc _).recolour _ (fun j hj => if_pos hj)
    obtain ⟨bi, hbi⟩ : ∃ bi, bi = w.heap.size := ⟨_, rfl⟩
    rw [← hbi]
    have bm0 : Blk kx W0 0 bi 109 [.int .i64 m0, .int .i64 (s : Int), .int .i64 m2, .int .i64 m3, .int .i64 m4, .int .i64 m5, .int .i64 m6, .slice z0 z1 z2, .slice y0 y1 y2] := by rw [hW0, hbi]; exact ⟨heap_alloc_new w _, by rw [hkx]; simp⟩
    rw [← hbi] at hgn
    have HH := hide (And.intro hW0 (And.intro hkx hbi))
    clear hW0 hkx hbi q1 q8 f8
    have h0 := H0.out.evo evx (noC_not _)
    obtain ⟨hk0, hl0, hc0', hf0⟩ := h0.facts
    have q8 : W0.cell? ⟨g, i * 20 + 8 + s, none⟩ = some (.bool (x.heard.getD s false)) := by have := (hc0' (8 + s) (by omega)).trans (wrRow_heard x _ _ _ s hs h0.h6); rwa [← Nat.add_assoc] at this
    have f8 := hf0 (i * 20 + 8 + s)
    have b1 : W0.cell? ⟨bi, 1, none⟩ = some (.int .i64 (s : Int)) := bm0.cell 1
    have bl0 := bm0.lt
    have h1 := h0.set (x' := { x with heard := x.heard.set s true }) (8 + s) (by omega) (.bool true) (wrRow_setHeard x _ _ _ s hs h0.h6 true) (by simpa using h0.h6) h0.n6
    rw [← Nat.add_assoc] at h1
    have ev1 : Evo k kx (fun c => c = cXW) w (W0.setCell ⟨g, i * 20 + 8 + s, none⟩ (.bool true)).drew := ((evx.mono (D := fun c => c = cXW) (fun _ h => h.elim)).setCell _ _ (fun _ => hk0)).drew
    have bm1 : Blk kx (W0.setCell ⟨g, i * 20 + 8 + s, none⟩ (.bool true)).drew 0 bi 109 [.int .i64 m0, .int .i64 (s : Int), .int .i64 m2, .int .i64 m3, .int .i64 m4, .int .i64 m5, .int .i64 m6, .slice z0 z1 z2, .slice y0 y1 y2] := bm0.other _ _ (fun e => hgn e.symm)
    have HW1 : Hid (WrW kx (W0.setCell ⟨g, i * 20 + 8 + s, none⟩ (.bool true)).drew g n cap (wrows.set i (wrRow { x with heard := x.heard.set s true } (.slice n0 n1 n2) (.slice c0 c1 c2) (.slice v0 v1 v2))) i { x with heard := x.heard.set s true } (.slice n0 n1 n2) (.slice c0 c1 c2) (.slice v0 v1 v2)) := hide ⟨h1.own.drew, h1.hi, h1.row, h1.h6, h1.n6⟩
    clear hc0' hf0 h0 h1 bm0 evx
    go_region
    go_wp2_with fail
    generalize (W0.setCell ⟨g, i * 20 + 8 + s, none⟩ (.bool true)).drew = W1 at *
    clear q8 f8 b1 bl0 hk0 hl0
    obtain ⟨hk1, hl1, hc1', hf1⟩ := HW1.out.facts
    have b1 : W1.cell? ⟨bi, 1, none⟩ = some (.int .i64 (s : Int)) := bm1.cell 1
    have b6 : W1.cell? ⟨bi, 6, none⟩ = some (.int .i64 m6) := bm1.cell 6
    have bl1 := bm1.lt
    have q14 : W1.cell? ⟨g, i * 20 + 14 + s, none⟩ = some (.int .i64 (x.noted.getD s 0)) := by have := (hc1' (14 + s) (by omega)).trans (wrRow_noted _ _ _ _ s hs HW1.out.h6 HW1.out.n6); rwa [← Nat.add_assoc] at this
    have f14 := hf1 (i * 20 + 14 + s)
    clear hc1' hf1
    obtain ⟨nt, hnt⟩ : ∃ nt, nt = x.noted.getD s 0 := ⟨_, rfl⟩
    rw [← hnt] at q14
    have HNT := hide hnt
    clear hnt
    by_cases hsc : nt < m6
    · have hd : decide (nt < m6) = true := by simpa using hsc
      have hsc' : x.noted.getD s 0 < m6 := by rw [← HNT.out]; exact hsc
      go_quiet (fail)
      have evd : Evo kx kx noC W1 (W1.drewN nq) := (Evo.refl kx noC W1).drewN nq
      have ev1' := ev1.drewN nq
      have bm2 := bm1.evo evd (noC_not _)
      have hWd := HW1.out.evo evd (noC_not _)
      generalize W1.drewN nq = W9 at *
      clear q14 f14 b1 b6 bl1 hk1 hl1
      obtain ⟨hk9, hl9, hc9, hf9⟩ := hWd.facts
      have b1 : W9.cell? ⟨bi, 1, none⟩ = some (.int .i64 (s : Int)) := bm2.cell 1
      have b6 : W9.cell? ⟨bi, 6, none⟩ = some (.int .i64 m6) := bm2.cell 6
      have bl9 := bm2.lt
      have q14 : W9.cell? ⟨g, i * 20 + 14 + s, none⟩ = some (.int .i64 nt) := by rw [HNT.out]; have := (hc9 (14 + s) (by omega)).trans (wrRow_noted _ _ _ _ s hs hWd.h6 hWd.n6); rwa [← Nat.add_assoc] at this
      have f14 := hf9 (i * 20 + 14 + s)
      have h2 := hWd.set (x' := { x with heard := x.heard.set s true, noted := x.noted.set s m6 }) (14 + s) (by omega) (.int .i64 m6) (wrRow_setNoted _ _ _ _ s hs hWd.h6 m6) hWd.h6 (by simpa using hWd.n6)
      rw [← Nat.add_assoc] at h2
      simp only [List.set_set] at h2
      have ev2 : Evo k kx (fun c => c = cXW) w (W9.setCell ⟨g, i * 20 + 14 + s, none⟩ (.int .i64 m6)).drew := (ev1'.setCell _ _ (fun _ => hk9)).drew
      have HW2 : Hid (WrW kx (W9.setCell ⟨g, i * 20 + 14 + s, none⟩ (.int .i64 m6)).drew g n cap (wrows.set i (wrRow { x with heard := x.heard.set s true, noted := x.noted.set s m6 } (.slice n0 n1 n2) (.slice c0 c1 c2) (.slice v0 v1 v2))) i { x with heard := x.heard.set s true, noted := x.noted.set s m6 } (.slice n0 n1 n2) (.slice c0 c1 c2) (.slice v0 v1 v2)) := hide ⟨h2.own.drew, h2.hi, h2.row, h2.h6, h2.n6⟩
      clear hc9 hf9 h2 hWd
      go_wp2_with fail
      go_region
      generalize (W9.setCell ⟨g, i * 20 + 14 + s, none⟩ (.int .i64 m6)).drew = W2 at *
      clear q14 f14 b1 b6 bl9 hk9 hl9
      have hA := HW2.out.at (HN.out.evo ev2 (by omega) (by decide)) (HC.out.evo ev2 (by decide)) (HV.out.evo ev2 (by omega))
      obtain ⟨hkt, hlt', hct, hft⟩ := HW2.out.facts
      have t1 : W2.cell? ⟨g, i * 20 + 1, none⟩ = some (.int .i64 3) := (hct 1 (by omega)).trans (by rw [← hph]; rfl)
      have t4 : W2.cell? ⟨g, i * 20 + 4, none⟩ = some (.int .i64 x.dur) := (hct 4 (by omega)).trans rfl
      have tf4 := hft (i * 20 + 4)
      have HAg := hide (agreed_any hA)
      have hW7 := HW2.out.set (x' := { { x with heard := x.heard.set s true, noted := x.noted.set s m6 } with dur := XWr.agreed { x with heard := x.heard.set s true, noted := x.noted.set s m6 } }) 4 (by omega) (.int .i64 (XWr.agreed { x with heard := x.heard.set s true, noted := x.noted.set s m6 })) rfl HW2.out.h6 HW2.out.n6
      simp only [List.set_set] at hW7
      have HW7 := hide (And.intro hW7 (ev2.setCell ⟨g, i * 20 + 4, none⟩ (.int .i64 (XWr.agreed { x with heard := x.heard.set s true, noted := x.noted.set s m6 })) (fun _ => hkt)))
      have HE : Hid (xr = { { x with heard := x.heard.set s true, noted := x.noted.set s m6 } with dur := XWr.agreed { x with heard := x.heard.set s true, noted := x.noted.set s m6 } }) := hide (by rw [HXR.out]; exact hs_32 hph hsc')
      generalize XWr.agreed { x with heard := x.heard.set s true, noted := x.noted.set s m6 } = ag at *
      clear hA hct hft hW7
      go_wp2_with fail
      refine HAg.out.mono ?_
      rintro e8 w8 ⟨rfl, hw8⟩
      have hw9 := hw8.symm
      subst hw9
      go_wp2_with fail
      go_end0
      exact ⟨rfl, kx, HW7.out.2, by rw [HE.out]; exact HW7.out.1⟩
    · have hd : decide (nt < m6) = false := by simpa using hsc
      have hsc' : ¬ x.noted.getD s 0 < m6 := by rw [← HNT.out]; exact hsc
      go_quiet (fail)
      have ev2 := ev1.drewN nq
      have HW2 : Hid (WrW kx (W1.drewN nq) g n cap _ i { x with heard := x.heard.set s true } (.slice n0 n1 n2) (.slice c0 c1 c2) (.slice v0 v1 v2)) := hide (HW1.out.evo ((Evo.refl kx noC W1).drewN nq) (noC_not _))
      generalize W1.drewN nq = W2 at *
      clear q14 f14 b1 b6 bl1 hk1 hl1
      have hA := HW2.out.at (HN.out.evo ev2 (by omega) (by decide)) (HC.out.evo ev2 (by decide)) (HV.out.evo ev2 (by omega))
      obtain ⟨hkt, hlt', hct, hft⟩ := HW2.out.facts
      have t1 : W2.cell? ⟨g, i * 20 + 1, none⟩ = some (.int .i64 3) := (hct 1 (by omega)).trans (by rw [← hph]; rfl)
      have t4 : W2.cell? ⟨g, i * 20 + 4, none⟩ = some (.int .i64 x.dur) := (hct 4 (by omega)).trans rfl
      have tf4 := hft (i * 20 + 4)
      have HAg := hide (agreed_any hA)
      have hW7 := HW2.out.set (x' := { { x with heard := x.heard.set s true } with dur := XWr.agreed { x with heard := x.heard.set s true } }) 4 (by omega) (.int .i64 (XWr.agreed { x with heard := x.heard.set s true })) rfl HW2.out.h6 HW2.out.n6
      simp only [List.set_set] at hW7
      have HW7 := hide (And.intro hW7 (ev2.setCell ⟨g, i * 20 + 4, none⟩ (.int .i64 (XWr.agreed { x with heard := x.heard.set s true })) (fun _ => hkt)))
      have HE : Hid (xr = { { x with heard := x.heard.set s true } with dur := XWr.agreed { x with heard := x.heard.set s true } }) := hide (by rw [HXR.out]; exact hs_3 hph hsc')
      generalize XWr.agreed { x with heard := x.heard.set s true } = ag at *
      clear hA hct hft hW7
      go_wp2_with fail
      refine HAg.out.mono ?_
      rintro e8 w8 ⟨rfl, hw8⟩
      have hw9 := hw8.symm
      subst hw9
      go_wp2_with fail
      go_end0
      exact ⟨rfl, kx, HW7.out.2, by rw [HE.out]; exact HW7.out.1⟩
end Go.Proofs.YtfpbkghcjaonlaaGreat

/-
  The program: what a writer decides.
-/
namespace Go.Proofs.YtfpbkghcjaonlaaGreat
open Go.RowKit

theorem newest_take (ns : List (Int × List (Int × Int) × List Int)) (j : Nat) (h : j < ns.length) : newestOf (ns.take (j + 1)) = newestStep (newestOf (ns.take j)) ns[j] := by
  unfold newestOf; rw [List.take_succ_eq_append_getElem h, List.foldl_append]; rfl
theorem newest_len (ns : List (Int × List (Int × Int) × List Int)) (h : ∀ n ∈ ns, n.2.1.length ≤ 1000) : (newestOf ns).length ≤ 1000 := by
  unfold newestOf
  have : ∀ (l : List (Int × Int)), l.length ≤ 1000 → (ns.foldl newestStep l).length ≤ 1000 := by
    induction ns with
    | nil => intro l hl; exact hl
    | cons a r ih =>
      intro l hl
      refine ih (fun n hn => h n (List.mem_cons_of_mem _ hn)) _ ?_
      unfold newestStep
      split
      · exact h a List.mem_cons_self
      · exact hl
  exact this [] (by simp)

set_option maxRecDepth 3000 in
set_option maxHeartbeats 8000000 in
theorem newest_any {k : Nat → Nat} {w : World} {c : Nat} {v : Value} {ns : List (Int × List (Int × Int) × List Int)} (h : NotesIs k w c v ns) (hl : ns.length ≤ 4000000000) (hk : ∀ n ∈ ns, n.2.1.length ≤ 1000) :
    Calls Tryz.prog 143 #[v] w fun e w' => (∃ z, e = .returned z ∧ Made w' w.heap.size 53 2 z ((newestOf ns).map cutRow)) ∧ Below w.heap.size w w' := by
  obtain ⟨a, cap, hv, hcells⟩ := notes_cells h
  subst hv
  have HTk := hide (fun j (hj : j < ns.length) => newest_take ns j hj)
  have HLn : Hid (∀ j, (newestOf (ns.take j)).length ≤ 1000) := hide fun j => newest_len _ (fun n hn => hk n (List.mem_of_mem_take hn))
  have HCl := hide hcells
  have HK := hide hk
  obtain ⟨nw, hnw⟩ : ∃ nw, nw = newestOf ns := ⟨_, rfl⟩
  rw [← hnw]
  have HNW := hide hnw
  clear h hcells hk hnw
  go_enter Tryz.func143, Tryz.ntmps143
  go_wp2_with fail
  go_loopw [3, 8] (fun vl i wr => Below w.heap.size w wr ∧ ∃ j : Nat, j ≤ ns.length ∧ i = .int .i64 j ∧ ∃ l0 l1 l2, vl = .slice l0 l1 l2 ∧ Hid (CutsIm k w (.slice l0 l1 l2) (newestOf (ns.take j)))) (fun _ i _ => ns.length - (intOf i).toNat)
  case atStart => exact ⟨Below.refl _ _, 0, Nat.zero_le _, rfl, none, 0, 0, rfl, hide (Rows.nil _ _ _ _ _)⟩
  case round =>
    obtain ⟨hB, j, hj, rfl, l0, l1, l2, rfl, hc⟩ := hrel
    have hsz := hB.size
    by_cases hlt : j < ns.length
    · obtain ⟨g, z0, z1, z2, y0, y1, y2, rfl, hgl, p0, p1, p2, hcz, hmz⟩ := HCl.out j hlt
      have u0 := (hB.cell (p := ⟨g, j * 3, none⟩) hgl).trans p0
      have u1 := (hB.cell (p := ⟨g, j * 3 + 1, none⟩) hgl).trans p1
      have u2 := (hB.cell (p := ⟨g, j * 3 + 2, none⟩) hgl).trans p2
      have HT := hide (HTk.out j hlt)
      have hnk := HK.out _ (List.getElem_mem hlt)
      generalize hnj : ns[j] = nj at *
      have hln := HLn.out j
      have HTop1 : Hid (∀ W, Below w.heap.size w W → Calls Tryz.prog 110 #[.slice z0 z1 z2] W fun e w' => e = .returned (.int .i64 (topOf nj.2.1)) ∧ w' = W) := hide fun W hW => xtop_any (Rows.evo hcz (Evo.of_below (C := noC) hW) (noC_not _)) (by omega)
      have HTop2 : Hid (∀ W, Below w.heap.size w W → Calls Tryz.prog 110 #[.slice l0 l1 l2] W fun e w' => e = .returned (.int .i64 (topOf (newestOf (ns.take j)))) ∧ w' = W) := hide fun W hW => xtop_any (Rows.evo hc.out (Evo.of_below (C := noC) hW) (noC_not _)) (by omega)
      have HCz := hide hcz
      clear hnj p0 p1 p2 hmz hcz
      unfold newestStep at HT
      by_cases ht : topOf (newestOf (ns.take j)) < topOf nj.2.1
      · have hd : decide (topOf (newestOf (ns.take j)) < topOf nj.2.1) = true := by simpa using ht
        have HE : Hid (newestOf (ns.take (j + 1)) = nj.2.1) := hide (by rw [HT.out, if_pos ht])
        generalize topOf (newestOf (ns.take j)) = t1 at *
        generalize topOf nj.2.1 = t2 at *
        go_wp2_with fail
        refine (HTop1.out _ (hB.alloc hsz _)).mono ?_
        rintro e1 w1 ⟨rfl, rfl⟩
        go_wp2_with fail
        refine (HTop2.out _ (hB.alloc hsz _)).mono ?_
        rintro e1 w1 ⟨rfl, rfl⟩
        go_wp2_with fail
        go_roundw
        case rel => exact ⟨hB.alloc hsz _, j + 1, by omega, by go_num, z0, z1, z2, rfl, hide (by rw [HE.out]; exact HCz.out)⟩
        case measure => simp [intOf]; omega
      · have hd : decide (topOf (newestOf (ns.take j)) < topOf nj.2.1) = false := by simpa using ht
        have HE : Hid (newestOf (ns.take (j + 1)) = newestOf (ns.take j)) := hide (by rw [HT.out, if_neg ht])
        generalize topOf (newestOf (ns.take j)) = t1 at *
        generalize topOf nj.2.1 = t2 at *
        go_wp2_with fail
        refine (HTop1.out _ (hB.alloc hsz _)).mono ?_
        rintro e1 w1 ⟨rfl, rfl⟩
        go_wp2_with fail
        refine (HTop2.out _ (hB.alloc hsz _)).mono ?_
        rintro e1 w1 ⟨rfl, rfl⟩
        go_wp2_with fail
        go_roundw
        case rel => exact ⟨hB.alloc hsz _, j + 1, by omega, by go_num, l0, l1, l2, rfl, hide (by rw [HE.out]; exact hc.out)⟩
        case measure => simp [intOf]; omega
    · have hje : j = ns.length := by omega
      have hd : decide ((j : Int) < (ns.length : Int)) = false := by simp; omega
      have HC2 : Hid (CutsIm k w (.slice l0 l1 l2) nw) := hide (by rw [HNW.out]; have := hc.out; rw [hje, List.take_length] at this; exact this)
      have hnl : nw.length ≤ 1000 := by have := HLn.out ns.length; rw [List.take_length, ← HNW.out] at this; exact this
      have HCp := hide (copy_any (Rows.evo HC2.out (Evo.of_below (C := noC) hB) (noC_not _)) (by omega))
      clear hje hc
      go_wp2_with fail
      refine HCp.out.mono ?_
      rintro e1 w1 ⟨⟨z, rfl, hz⟩, hb1⟩
      obtain ⟨s0, s1, s2, hs⟩ := made_shape hz
      subst hs
      have HZ := hide hz
      clear hz
      go_wp2_with fail
      go_ret
      exact ⟨⟨_, rfl, HZ.out.weaken hsz⟩, hB.trans (hb1.mono hsz)⟩
end Go.Proofs.YtfpbkghcjaonlaaGreat

/-
  The program: a writer decides.
-/
namespace Go.Proofs.YtfpbkghcjaonlaaGreat
open Go.RowKit

theorem base_take (l : List (Int × Int)) (ns : List (Int × List (Int × Int) × List Int)) (j : Nat) (h : j < ns.length) : (ns.take (j + 1)).foldl (baseStep l) 0 = baseStep l ((ns.take j).foldl (baseStep l) 0) ns[j] := by
  rw [List.take_succ_eq_append_getElem h, List.foldl_append]; rfl
theorem reachFrom_le (l : List (Int × Int)) : ∀ (ms : List Int) (i : Nat), reachFrom l i ms ≤ i + ms.length
  | [], i => Nat.le_refl _
  | e :: es, i => by
    unfold reachFrom
    split
    · have := reachFrom_le l es (i + 1); simp only [List.length_cons]; omega
    · simp only [List.length_cons]; omega
theorem base_le (l : List (Int × Int)) (ns : List (Int × List (Int × Int) × List Int)) (h : ∀ n ∈ ns, n.2.2.length ≤ 4000000000) : ns.foldl (baseStep l) 0 ≤ 4000000000 := by
  have : ∀ b, b ≤ 4000000000 → ns.foldl (baseStep l) b ≤ 4000000000 := by
    induction ns with
    | nil => intro b hb; exact hb
    | cons a r ih =>
      intro b hb
      refine ih (fun n hn => h n (List.mem_cons_of_mem _ hn)) _ ?_
      unfold baseStep
      split
      · have h1 := reachFrom_le l a.2.2 0
        have h2 := h a List.mem_cons_self
        omega
      · exact hb
  exact this 0 (by omega)

set_option maxRecDepth 3000 in
set_option maxHeartbeats 8000000 in
theorem decide_any {k : Nat → Nat} {w : World} {c g n cap i : Nat} {wrows : List (List Value)} {x : XWr} {n0 c0 v0 : Option Addr} {n1 n2 c1 c2 v1 v2 : Nat} (h : WrW k w g n cap wrows i x (.slice n0 n1 n2) (.slice c0 c1 c2) (.slice v0 v1 v2)) (hN : NotesIs k w c (.slice n0 n1 n2) x.notes) (hok : XWOk x) :
    Calls Tryz.prog 135 #[.pointer (some ⟨g, i * 20, none⟩)] w fun e w' => e = .returned (.tuple #[]) ∧ ∃ k' d0 d1 d2, Evo k k' (fun c => c = cXW) w w' ∧
      WrW k' w' g n cap (wrows.set i (wrRow x.decides (.slice none 0 0) (.slice d0 d1 d2) (.slice v0 v1 v2))) i x.decides (.slice none 0 0) (.slice d0 d1 d2) (.slice v0 v1 v2) ∧ CutsIm k' w' (.slice d0 d1 d2) x.decides.cuts := by
  obtain ⟨hk, hl, hc, hf⟩ := h.facts
  have q5 : w.cell? ⟨g, i * 20 + 5, none⟩ = some (.slice n0 n1 n2) := hc 5 (by omega)
  have HNew := hide (newest_any hN hok.nl (fun n hn => (hok.nk n hn).1))
  obtain ⟨na, ncap, hnv, hcells⟩ := notes_cells hN
  simp only [Value.slice.injEq] at hnv
  obtain ⟨rfl, rfl, rfl⟩ := hnv
  have HCl := hide hcells
  have hnl := hok.nl
  have H0 := hide h
  have HK := hide hok
  have hll := newest_len x.notes (fun n hn => (hok.nk n hn).1)
  obtain ⟨L, hL⟩ : ∃ L, L = newestOf x.notes := ⟨_, rfl⟩
  rw [← hL] at hll HNew
  have HLL := hide hL
  have HTk := hide (fun j (hj : j < x.notes.length) => base_take L x.notes j hj)
  have HBl : Hid (∀ j, (x.notes.take j).foldl (baseStep L) 0 ≤ 4000000000) := hide fun j => base_le L _ (fun n hn => (HK.out.nk n (List.mem_of_mem_take hn)).2)
  clear hcells hc hf h hN hok hL
  go_enter Tryz.func135, Tryz.ntmps135
  go_wp2_with fail
  refine HNew.out.mono ?_
  rintro e1 w1 ⟨⟨z, rfl, hz⟩, hb1⟩
  obtain ⟨s0, s2, hs⟩ := Made.form hz
  rw [List.length_map] at hs
  subst hs
  have q5' := (hb1.cell (p := ⟨g, i * 20 + 5, none⟩) hl).trans q5
  have hl1 : g < w1.heap.size := Nat.lt_of_lt_of_le hl hb1.size
  have HZ := hide hz
  clear hz
  go_wp2_with fail
  go_loopw [3, 17] (fun bs ii wr => Below w1.heap.size w1 wr ∧ ∃ j : Nat, j ≤ x.notes.length ∧ ii = .int .i64 j ∧ bs = .int .i64 (((x.notes.take j).foldl (baseStep L) 0 : Nat) : Int)) (fun _ ii _ => x.notes.length - (intOf ii).toNat)
  case atStart => exact ⟨Below.refl _ _, 0, Nat.zero_le _, rfl, rfl⟩
  case round =>
    obtain ⟨hB, j, hj, rfl, rfl⟩ := hrel
    have hsz := hB.size
    have hB0 : Below w.heap.size w wr := hb1.trans (hB.mono hb1.size)
    by_cases hlt : j < x.notes.length
    · obtain ⟨gn, z0, z1, z2, y0, y1, y2, rfl, hgl, p0, p1, p2, hcz, hmz⟩ := HCl.out j hlt
      have u0 := (hB0.cell (p := ⟨gn, j * 3, none⟩) hgl).trans p0
      have u1 := (hB0.cell (p := ⟨gn, j * 3 + 1, none⟩) hgl).trans p1
      have u2 := (hB0.cell (p := ⟨gn, j * 3 + 2, none⟩) hgl).trans p2
      have HT := hide (HTk.out j hlt)
      have hnk := HK.out.nk _ (List.getElem_mem hlt)
      generalize hnj : x.notes[j] = nj at *
      have hbl := HBl.out j
      have HRc : Hid (∀ W, Below wr.heap.size wr W → Calls Tryz.prog 144 #[.slice s0 L.length s2, .slice y0 y1 y2] W fun e w' => e = .returned (.int .i64 (reachFrom L 0 nj.2.2)) ∧ Below W.heap.size W w') := hide fun W hW => by
        have hM := (HZ.out.kept hB).kept hW
        have hbW : Below w.heap.size w W := hB0.trans (hW.mono hB0.size)
        exact xreach_any (k := fun g => if g < w.heap.size then k g else 0) (c := 0) (Made.coloured 0 hM) (by omega) (Rows.evo hmz (Evo.of_below (C := noC) hbW) (noC_not _)) hnk.2
      clear hnj p0 p1 p2 hcz hmz
      unfold baseStep at HT
      by_cases ht : (x.notes.take j).foldl (baseStep L) 0 < reachFrom L 0 nj.2.2
      · have HE : Hid ((x.notes.take (j + 1)).foldl (baseStep L) 0 = reachFrom L 0 nj.2.2) := hide (HT.out.trans (if_pos ht))
        have hd : decide ((((x.notes.take j).foldl (baseStep L) 0 : Nat) : Int) < (reachFrom L 0 nj.2.2 : Int)) = true := by simpa using ht
        clear HT
        generalize (x.notes.take j).foldl (baseStep L) 0 = bs at *
        generalize reachFrom L 0 nj.2.2 = rc at *
        go_wp2_with fail
        refine (HRc.out _ ((Below.refl _ _).alloc (Nat.le_refl _) _)).mono ?_
        rintro e5 w5 ⟨rfl, hb5⟩
        go_wp2_with fail
        go_roundw
        case rel => exact ⟨(hB.alloc hsz _).trans (hb5.mono (by simp; omega)), j + 1, by omega, by go_num, by rw [HE.out]⟩
        case measure => simp [intOf]; omega
      · have HE : Hid ((x.notes.take (j + 1)).foldl (baseStep L) 0 = (x.notes.take j).foldl (baseStep L) 0) := hide (HT.out.trans (if_neg ht))
        have hd : decide ((((x.notes.take j).foldl (baseStep L) 0 : Nat) : Int) < (reachFrom L 0 nj.2.2 : Int)) = false := by simpa using ht
        clear HT
        generalize (x.notes.take j).foldl (baseStep L) 0 = bs at *
        generalize reachFrom L 0 nj.2.2 = rc at *
        go_wp2_with fail
        refine (HRc.out _ ((Below.refl _ _).alloc (Nat.le_refl _) _)).mono ?_
        rintro e5 w5 ⟨rfl, hb5⟩
        go_wp2_with fail
        go_roundw
        case rel => exact ⟨(hB.alloc hsz _).trans (hb5.mono (by simp; omega)), j + 1, by omega, by go_num, by rw [HE.out]⟩
        case measure => simp [intOf]; omega
    · have hje : j = x.notes.length := by omega
      have hd : decide ((j : Int) < (x.notes.length : Int)) = false := by simp; omega
      have HE : Hid ((x.notes.take j).foldl (baseStep L) 0 = x.notes.foldl (baseStep L) 0) := hide (by rw [hje, List.take_length])
      have hbl := HBl.out j
      have HF : Hid (∀ W, Below w.heap.size w W → W.cell? ⟨g, i * 20, none⟩ = some (.int .i64 x.number) ∧ W.cell? ⟨g, i * 20 + 1, none⟩ = some (.int .i64 x.phase) ∧ W.cell? ⟨g, i * 20 + 2, none⟩ = some (.int .i64 x.base) ∧ W.cell? ⟨g, i * 20 + 3, none⟩ = some (.int .i64 x.next) ∧ W.cell? ⟨g, i * 20 + 5, none⟩ = some (.slice n0 x.notes.length n2) ∧ W.cell? ⟨g, i * 20 + 6, none⟩ = some (.slice c0 c1 c2) ∧
          W.frozen? ⟨g, i * 20 + 1, none⟩ = false ∧ W.frozen? ⟨g, i * 20 + 2, none⟩ = false ∧ W.frozen? ⟨g, i * 20 + 3, none⟩ = false ∧ W.frozen? ⟨g, i * 20 + 5, none⟩ = false ∧ W.frozen? ⟨g, i * 20 + 6, none⟩ = false ∧ g < W.heap.size) := hide fun W hW => by
        obtain ⟨_, hl', hc', hf'⟩ := (H0.out.evo (Evo.of_below (C := noC) hW) (noC_not _)).facts
        exact ⟨hc' 0 (by omega), hc' 1 (by omega), hc' 2 (by omega), hc' 3 (by omega), hc' 5 (by omega), hc' 6 (by omega), hf' _, hf' _, hf' _, hf' _, hf' _, hl'⟩
      obtain ⟨r0, -, -, -, -, -, -, -, -, -, -, rl⟩ := HF.out wr hB0
      generalize (x.notes.take j).foldl (baseStep L) 0 = bs at *
      have hM2 := (HZ.out.kept hB).kept ((Below.refl _ _).alloc (Nat.le_refl _) (Obj.cells #[.int .i64 x.number, .int .i64 (bs : Int)] 53))
      have hLL : (L.map cutRow).length = L.length := List.length_map _
      have HLe := hide hLL
      clear hLL q5 q5'
      go_wp2_with (at_builtin; go_must (refine wpList_append_made (.tmp 30) (.tmp 37) 49 53 _ 2 16 _ (L.map cutRow) L.length (cutRow (x.number, (bs : Int))) w.heap.size ⟨wr.heap.size, 0, none⟩ 1 HLe.out rfl rfl Tryz.underlying49 Tryz.infoCut rfl (by decide) rfl rfl hM2 rfl (cell_one_new' _ _ _) (by simp [cutRow, Value.oneCell']) (by have := HLe.out; simp only [maxLen]; omega) (by have := HLe.out; omega) (by have := hB0.size; simp; omega) ?_; intro ao cap2 w5 hM3 hB3; have hbw5 : Below w.heap.size w w5 := (hB0.alloc hB0.size _).trans hB3; obtain ⟨a0, a1, a2, a3, a5, a6, b1, b2, b3, b5, b6, al⟩ := HF.out w5 hbw5))
      go_end0
      have ev5 : Evo k (fun b => if b < w.heap.size then k b else IM) noC w w5 := (Evo.of_below (k := k) hbw5).recolour _ (fun y hy => if_pos hy)
      have h5 := H0.out.evo ev5 (noC_not _)
      have hkg : (fun b => if b < w.heap.size then k b else IM) g = cXW := h5.facts.1
      have t1 := h5.set (x' := { x with cuts := L ++ [(x.number, (bs : Int))] }) (vC' := .slice ao (L.length + 1) cap2) 6 (by omega) _ rfl h5.h6 h5.n6
      have t2 := t1.set (x' := { x with cuts := L ++ [(x.number, (bs : Int))], base := bs }) 2 (by omega) (.int .i64 (bs : Int)) rfl h5.h6 h5.n6
      have t3 := t2.set (x' := { x with cuts := L ++ [(x.number, (bs : Int))], base := bs, next := bs }) 3 (by omega) (.int .i64 (bs : Int)) rfl h5.h6 h5.n6
      have t4 := t3.set (x' := { x with cuts := L ++ [(x.number, (bs : Int))], base := bs, next := bs, phase := 2 }) 1 (by omega) (.int .i64 2) rfl h5.h6 h5.n6
      have t5 := t4.set (x' := { x with cuts := L ++ [(x.number, (bs : Int))], base := bs, next := bs, phase := 2, notes := [] }) (vN' := .slice none 0 0) 5 (by omega) (.slice none 0 0) rfl h5.h6 h5.n6
      simp only [List.set_set] at t5
      have evF := (((((ev5.mono (D := fun c => c = cXW) (fun _ h => h.elim)).setCell ⟨g, i * 20 + 6, none⟩ (.slice ao (L.length + 1) cap2) (fun _ => hkg)).setCell ⟨g, i * 20 + 2, none⟩ (.int .i64 (bs : Int)) (fun _ => hkg)).setCell ⟨g, i * 20 + 3, none⟩ (.int .i64 (bs : Int)) (fun _ => hkg)).setCell ⟨g, i * 20 + 1, none⟩ (.int .i64 2) (fun _ => hkg)).setCell ⟨g, i * 20 + 5, none⟩ (.slice none 0 0) (fun _ => hkg)
      have evG := (((((Evo.refl (fun b => if b < w.heap.size then k b else IM) (fun c => c = cXW) w5).setCell ⟨g, i * 20 + 6, none⟩ (.slice ao (L.length + 1) cap2) (fun _ => hkg)).setCell ⟨g, i * 20 + 2, none⟩ (.int .i64 (bs : Int)) (fun _ => hkg)).setCell ⟨g, i * 20 + 3, none⟩ (.int .i64 (bs : Int)) (fun _ => hkg)).setCell ⟨g, i * 20 + 1, none⟩ (.int .i64 2) (fun _ => hkg)).setCell ⟨g, i * 20 + 5, none⟩ (.slice none 0 0) (fun _ => hkg)
      have hcu : CutsIm (fun b => if b < w.heap.size then k b else IM) w5 (.slice ao (L.length + 1) cap2) (L ++ [(x.number, (bs : Int))]) := by
        have := Made.coloured (k := k) IM hM3
        unfold CutsIm
        rw [List.map_append]
        exact this
      have hxd : x.decides = { x with cuts := L ++ [(x.number, (bs : Int))], base := bs, next := bs, phase := 2, notes := [] } := by
        unfold XWr.decides
        rw [← HLL.out, HE.out]
      rw [hxd]
      exact ⟨rfl, _, ao, _, cap2, evF, t5, hcu.evo evG (by decide)⟩
end Go.Proofs.YtfpbkghcjaonlaaGreat
