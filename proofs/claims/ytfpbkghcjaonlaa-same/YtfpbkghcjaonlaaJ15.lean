import Derived.Test.YtfpbkghcjaonlaaJ10
/-
  The program: Writes.
-/
namespace Go.Proofs.Ytfpbkghcjaonlaa
open Go.RowKit

theorem writes_take (x : XWr) (lsn : Int) (j : Nat) : ((List.range (j + 1)).filterMap (fun (s : Nat) => x.write (s : Int) lsn)) = ((List.range j).filterMap (fun (s : Nat) => x.write (s : Int) lsn)) ++ (x.write (j : Int) lsn).toList := by
  rw [List.range_succ, List.filterMap_append]
  cases h : x.write (j : Int) lsn <;> simp [h]

set_option maxRecDepth 3000 in
set_option maxHeartbeats 8000000 in
theorem writes_any {k : Nat → Nat} {w : World} {c b o : Nat} {x : XWr} (lsn : Int) (h : WrAt k w c b o x) (h1 : 0 ≤ x.base) (h2 : x.base ≤ 4000000000) (h3 : 0 ≤ lsn) (h4 : lsn ≤ 4000000000) (h5 : x.values.length ≤ 4000000000) :
    Calls Try.prog 70 #[.pointer (some ⟨b, o, none⟩), .int .i64 lsn] w fun e w' => (∃ v, e = .returned v ∧ MsgsMade k w w' v (x.writes lsn)) ∧ Below w.heap.size w w' := by
  have HD : Hid (∀ s, s < 6 → ∀ W, Below w.heap.size w W → Calls Try.prog 85 #[.pointer (some ⟨b, o, none⟩), .int .i64 (s : Nat), .int .i64 lsn] W fun e w' => (∃ v, e = .returned v ∧ DueAns k w (x.write (s : Int) lsn) v) ∧ Below W.heap.size W w') := hide fun s _ W hW => by
    refine (xwrite_any (s : Int) lsn (h.below hW) h1 h2 h3 h4 h5).mono ?_
    rintro e w' ⟨⟨v, rfl, hv⟩, hb⟩
    exact ⟨⟨v, rfl, hv w⟩, hb⟩
  clear h h1 h2 h3 h4 h5
  have H0 : Hid (∃ rows, Made w w.heap.size 99 9 (.slice none 0 0) rows ∧ All2 (MsgIs k w) ((List.range 0).filterMap (fun (s : Nat) => x.write (s : Int) lsn)) rows) := hide ⟨[], Made.nil _ _ _ _, rfl, fun i h1 => by simp at h1⟩
  go_enter Try.func70, Try.ntmps70
  go_wp2_with fail
  go_loopw [5, 6] (fun v i wr => Below w.heap.size w wr ∧ ∃ j : Nat, j ≤ 6 ∧ i = .int .i64 j ∧ Hid (∃ rows, Made wr w.heap.size 99 9 v rows ∧ All2 (MsgIs k w) ((List.range j).filterMap (fun (s : Nat) => x.write (s : Int) lsn)) rows)) (fun _ i _ => 6 - (intOf i).toNat)
  case atStart => exact ⟨Below.refl _ _, 0, by omega, rfl, H0⟩
  case round =>
    obtain ⟨hB, j, hj, rfl, hst⟩ := hrel
    obtain ⟨rows, hM, hA⟩ := hst.out
    obtain ⟨ma, mcap, hmv⟩ := hM.form
    have hsz := hB.size
    have hrl : rows.length ≤ 6 := by
      rw [← hA.1]
      exact Nat.le_trans (List.length_filterMap_le _ _) (by simp; omega)
    by_cases hlt : j < 6
    · have hd : decide ((j : Int) < 6) = true := by simp; omega
      have HDj := hide (HD.out j hlt wr hB)
      have HT := hide (writes_take x lsn j)
      generalize hdj : x.write (j : Int) lsn = dj at *
      clear hdj hst
      go_wp2_with fail
      refine HDj.out.mono ?_
      rintro e1 w1 ⟨⟨v, rfl, mm, z0, z1, z2, rfl, hcz, hmz, hsome⟩, hb1⟩
      have hB1 : Below w.heap.size w w1 := hB.trans (hb1.mono hsz)
      have HQ := hide (And.intro hcz (And.intro hmz hsome))
      clear hcz hmz hsome
      cases dj with
      | none =>
        simp only [Option.isSome]
        go_wp2_with fail
        go_roundw
        case rel => exact ⟨hB1.alloc hB1.size _, j + 1, by omega, by go_num, hide ⟨rows, (hM.kept hb1).kept ((Below.refl _ _).alloc (Nat.le_refl _) _), by rw [HT.out]; simpa using hA⟩⟩
        case measure => simp [intOf]; omega
      | some m' =>
        simp only [Option.isSome]
        subst hmv
        have hM2 := (hM.kept hb1).kept (((Below.refl _ _).alloc (Nat.le_refl _) (Obj.cells #[.int .i64 mm.kind, .int .i64 mm.frm, .int .i64 mm.to_, .int .i64 mm.epoch, .int .i64 mm.lsn, .int .i64 mm.value, .int .i64 mm.scl, .slice z0 z1 z2, .slice none 0 0] 99)).alloc (by simp) (Obj.cells #[.int .i64 mm.kind, .int .i64 mm.frm, .int .i64 mm.to_, .int .i64 mm.epoch, .int .i64 mm.lsn, .int .i64 mm.value, .int .i64 mm.scl, .slice z0 z1 z2, .slice none 0 0] 99))
        go_wp2_with (at_builtin; go_must (refine wpList_append_made (.tmp 21) (.tmp 23) 76 99 _ 9 104 _ rows rows.length [.int .i64 mm.kind, .int .i64 mm.frm, .int .i64 mm.to_, .int .i64 mm.epoch, .int .i64 mm.lsn, .int .i64 mm.value, .int .i64 mm.scl, .slice z0 z1 z2, .slice none 0 0] w.heap.size ⟨w1.heap.size + 1, 0, none⟩ 1 rfl rfl rfl Try.underlying76 Try.infoMessage rfl (by decide) rfl rfl hM2 rfl (cell_two_new' _ _ _ _) (by simp [Value.oneCell']) (by simp only [maxLen]; omega) (by omega) (by have := hB1.size; simp; omega) ?_; intro ao cap2 w2 hM3 hB3))
        go_roundw
        case rel =>
          refine ⟨((hB1.alloc hB1.size _).alloc (by have := hB1.size; simp; omega) _).trans hB3, j + 1, by omega, by go_num, hide ⟨rows ++ [[.int .i64 mm.kind, .int .i64 mm.frm, .int .i64 mm.to_, .int .i64 mm.epoch, .int .i64 mm.lsn, .int .i64 mm.value, .int .i64 mm.scl, .slice z0 z1 z2, .slice none 0 0]], by simpa using hM3, ?_⟩⟩
          rw [HT.out]
          have he := HQ.out.2.2 m' rfl
          subst he
          exact All2.snoc hA ⟨_, _, rfl, HQ.out.1, by rw [HQ.out.2.1]; exact Rows.nil _ _ _ _ _⟩
        case measure => simp [intOf]; omega
    · have hj6 : j = 6 := by omega
      have hd : decide ((j : Int) < 6) = false := by simp; omega
      have HM := hide (And.intro hM (And.intro hA hj6))
      clear hM hA hst hj6
      go_wp2_with fail
      go_ret
      obtain ⟨hM, hA, hj6⟩ := HM.out
      exact ⟨⟨_, rfl, rows, hM, by rw [hj6] at hA; exact hA⟩, hB⟩
end Go.Proofs.Ytfpbkghcjaonlaa

/-
  The program: Append of a writer.
-/
namespace Go.Proofs.Ytfpbkghcjaonlaa
open Go.RowKit

section
variable {k : Nat → Nat} {w : World} {c g n cap i : Nat} {wrows : List (List Value)} {x : XWr} {n0 c0 v0 : Option Addr} {n1 n2 c1 c2 v1 v2 : Nat}

set_option maxRecDepth 3000 in
set_option maxHeartbeats 4000000 in
theorem wAppend_no (h : WrW k w g n cap wrows i x (.slice n0 n1 n2) (.slice c0 c1 c2) (.slice v0 v1 v2)) (v wi : Int) (hd0 : 0 ≤ x.dur) (hd1 : x.dur ≤ 4000000000) (hw0 : 0 ≤ wi) (hw1 : wi ≤ 8) (he : (x.append v wi).2.2 ≠ 0) :
    Calls Try.prog 69 #[.pointer (some ⟨g, i * 20, none⟩), .int .i64 v, .int .i64 wi] w fun e w' => e = .returned (.tuple #[.int .i64 0, .int .i64 (x.append v wi).2.2]) ∧ Below w.heap.size w w' := by
  obtain ⟨hk, hl, hc, hf⟩ := h.facts
  have q1 : w.cell? ⟨g, i * 20 + 1, none⟩ = some (.int .i64 x.phase) := hc 1 (by omega)
  have q3 : w.cell? ⟨g, i * 20 + 3, none⟩ = some (.int .i64 x.next) := hc 3 (by omega)
  have q4 : w.cell? ⟨g, i * 20 + 4, none⟩ = some (.int .i64 x.dur) := hc 4 (by omega)
  have hwr : IntKind.i64.wrap (x.dur + wi) = x.dur + wi := by rw [IntKind.wrap_i64] <;> omega
  clear hc hf h
  by_cases p4 : x.phase = 4
  · have HE : Hid ((x.append v wi).2.2 = 4) := hide (by unfold XWr.append; rw [if_pos p4])
    rw [p4] at q1
    clear he p4
    go_enter Try.func69, Try.ntmps69
    go_wp2_with fail
    go_ret2
    exact ⟨by rw [HE.out]; rfl, Below.refl _ _⟩
  · have d4 : (x.phase == 4) = false := by simpa using p4
    by_cases p3 : x.phase = 3
    · by_cases pn : 40 ≤ x.next
      · have HE : Hid ((x.append v wi).2.2 = 7) := hide (by unfold XWr.append; rw [if_neg p4, if_neg (by simp [p3]), if_pos pn])
        have dn : decide (40 ≤ x.next) = true := by simpa using pn
        rw [p3] at q1
        clear he p4 p3 d4
        go_enter Try.func69, Try.ntmps69
        go_wp2_with fail
        go_ret2
        exact ⟨by rw [HE.out]; rfl, Below.refl _ _⟩
      · have dn : decide (40 ≤ x.next) = false := by simpa using pn
        have pw : x.dur + wi ≤ x.next := by
          by_cases h : x.dur + wi ≤ x.next
          · exact h
          · exact absurd (by unfold XWr.append; rw [if_neg p4, if_neg (by simp [p3]), if_neg pn, if_neg h]) he
        have HE : Hid ((x.append v wi).2.2 = 6) := hide (by unfold XWr.append; rw [if_neg p4, if_neg (by simp [p3]), if_neg pn, if_pos pw])
        have dw : decide (x.dur + wi ≤ x.next) = true := by simpa using pw
        rw [p3] at q1
        clear he p4 p3 d4
        go_enter Try.func69, Try.ntmps69
        go_wp2_with fail
        go_quiet (fail)
        go_wp2_with fail
        go_ret2
        exact ⟨by rw [HE.out]; rfl, below_drewN (Below.refl _ _) _⟩
    · have HE : Hid ((x.append v wi).2.2 = 5) := hide (by unfold XWr.append; rw [if_neg p4, if_pos p3])
      have d3 : (x.phase != 3) = true := by simpa using p3
      clear he p4 p3
      go_enter Try.func69, Try.ntmps69
      go_wp2_with fail
      go_ret2
      exact ⟨by rw [HE.out]; rfl, Below.refl _ _⟩

set_option maxRecDepth 3000 in
set_option maxHeartbeats 8000000 in
theorem wAppend_yes (h : WrW k w g n cap wrows i x (.slice n0 n1 n2) (.slice c0 c1 c2) (.slice v0 v1 v2)) (hV : Rows k w c 3 1 (.slice v0 v1 v2) (x.values.map intRow)) (hvl : x.values.length ≤ 3000000000) (hc1 : 110 ≤ c) (hc2 : c < 140) (v wi : Int) (hd0 : 0 ≤ x.dur) (hd1 : x.dur ≤ 4000000000) (hw0 : 0 ≤ wi) (hw1 : wi ≤ 8) (hx0 : 0 ≤ x.next) (he : (x.append v wi).2.2 = 0) :
    Calls Try.prog 69 #[.pointer (some ⟨g, i * 20, none⟩), .int .i64 v, .int .i64 wi] w fun e w' => e = .returned (.tuple #[.int .i64 (x.append v wi).2.1, .int .i64 0]) ∧ ∃ k' a2 b2, Evo k k' (fun d => d = cXW ∨ d = c) w w' ∧
      WrW k' w' g n cap (wrows.set i (wrRow (x.append v wi).1 (.slice n0 n1 n2) (.slice c0 c1 c2) (.slice a2 (x.values.length + 1) b2))) i (x.append v wi).1 (.slice n0 n1 n2) (.slice c0 c1 c2) (.slice a2 (x.values.length + 1) b2) ∧ Rows k' w' c 3 1 (.slice a2 (x.values.length + 1) b2) ((x.append v wi).1.values.map intRow) := by
  obtain ⟨hk, hl, hc, hf⟩ := h.facts
  have hcond : x.phase = 3 ∧ ¬ 40 ≤ x.next ∧ ¬ x.dur + wi ≤ x.next := by
    unfold XWr.append at he
    split at he
    · simp at he
    · split at he
      · simp at he
      · split at he
        · simp at he
        · split at he
          · simp at he
          · rename_i h1 h2 h3 h4; exact ⟨by simpa using h2, h3, h4⟩
  obtain ⟨p3, pn, pw⟩ := hcond
  have HE : Hid (x.append v wi = ({ x with values := x.values ++ [v], next := x.next + 1 }, x.next + 1, 0)) := hide (by unfold XWr.append; rw [if_neg (by simp [p3]), if_neg (by simp [p3]), if_neg pn, if_neg pw])
  obtain ⟨rfl, _⟩ := values_cell hV
  have q1 : w.cell? ⟨g, i * 20 + 1, none⟩ = some (.int .i64 3) := (hc 1 (by omega)).trans (by rw [← p3]; rfl)
  have q3 : w.cell? ⟨g, i * 20 + 3, none⟩ = some (.int .i64 x.next) := hc 3 (by omega)
  have q4 : w.cell? ⟨g, i * 20 + 4, none⟩ = some (.int .i64 x.dur) := hc 4 (by omega)
  have hwr : IntKind.i64.wrap (x.dur + wi) = x.dur + wi := by rw [IntKind.wrap_i64] <;> omega
  have hwn : IntKind.i64.wrap (x.next + 1) = x.next + 1 := by rw [IntKind.wrap_i64] <;> omega
  have dn : decide (40 ≤ x.next) = false := by simpa using pn
  have dw : decide (x.dur + wi ≤ x.next) = false := by simpa using pw
  have H0 := hide h
  have HV := hide hV
  clear hc hf h hV he p3
  go_enter Try.func69, Try.ntmps69
  go_wp2_with fail
  go_quiet (fail)
  obtain ⟨W1, hW1⟩ : ∃ W1, W1 = w.drewN nq := ⟨_, rfl⟩
  rw [← hW1]
  have ev1 : Evo k k noC w W1 := by rw [hW1]; exact (Evo.refl _ _ _).drewN _
  have HW1 := hide hW1
  clear hW1 q1 q3 q4
  have h1 := H0.out.evo ev1 (noC_not _)
  obtain ⟨hk1, hl1, hcc1, hff1⟩ := h1.facts
  have r7 : W1.cell? ⟨g, i * 20 + 7, none⟩ = some (.slice v0 x.values.length v2) := hcc1 7 (by omega)
  have ev3 : Evo k k noC W1 (W1.alloc (Obj.cells #[.int .i64 v] 3)) := (Evo.refl k noC W1).alloc _
  have hR3 := (HV.out.evo ev1 (noC_not _)).evo ev3 (noC_not _)
  have h3 := h1.evo ev3 (noC_not _)
  have HRL : Hid ((x.values.map intRow).length = x.values.length) := hide (List.length_map _)
  have HFx : Hid (∀ k5 w5, Evo k k5 (fun y => y = c) (W1.alloc (Obj.cells #[.int .i64 v] 3)) w5 → w5.cell? ⟨g, i * 20 + 7, none⟩ = some (.slice v0 x.values.length v2) ∧ w5.frozen? ⟨g, i * 20 + 7, none⟩ = false ∧ w5.cell? ⟨g, i * 20 + 3, none⟩ = some (.int .i64 x.next) ∧ w5.frozen? ⟨g, i * 20 + 3, none⟩ = false ∧ g < w5.heap.size) := hide fun k5 w5 hE => by
    obtain ⟨_, b, cc, d⟩ := (h3.evo hE (by unfold cXW; omega)).facts
    exact ⟨cc 7 (by omega), d _, cc 3 (by omega), d _, b⟩
  clear hcc1 hff1
  go_wp2_with (at_builtin; go_must (refine wpList_append_rows k c (.tmp 38) (.tmp 40) 38 3 _ 1 8 _ (x.values.map intRow) [intRow v] x.values.length ⟨W1.heap.size, 0, none⟩ 1 1 HRL.out rfl rfl Try.underlying38 Try.infoInt rfl (by decide) rfl rfl hR3 rfl (by simp [intRow]) (by simpa [intRow] using cell_one_new' W1 [.int .i64 v] 3) (by simp [intRow, Value.oneCell']) (by simp only [maxLen]; omega) (by omega) ?_; intro ao1 cap1 w5 k5 hR5 hE5; obtain ⟨y1', y2', y3', y4', y5'⟩ := HFx.out k5 w5 hE5))
  go_ret2
  have h5 := h3.evo hE5 (by unfold cXW; omega)
  have hkg : k5 g = cXW := h5.facts.1
  have t1 := h5.set (x' := { x with values := x.values ++ [v] }) (vV' := .slice ao1 (x.values.length + 1) cap1) 7 (by omega) (.slice ao1 (x.values.length + 1) cap1) rfl h5.h6 h5.n6
  have t2 := t1.set (x' := { x with values := x.values ++ [v], next := x.next + 1 }) 3 (by omega) (.int .i64 (x.next + 1)) rfl h5.h6 h5.n6
  simp only [List.set_set] at t2
  have evA : Evo k k5 (fun d => d = cXW ∨ d = c) w ((w5.setCell ⟨g, i * 20 + 7, none⟩ (.slice ao1 (x.values.length + 1) cap1)).setCell ⟨g, i * 20 + 3, none⟩ (.int .i64 (x.next + 1))) := ((((ev1.trans ev3).mono (D := fun d => d = cXW ∨ d = c) (fun _ h => h.elim)).trans (hE5.mono (fun _ h => .inr h))).setCell _ _ (fun _ => .inl hkg)).setCell _ _ (fun _ => .inl hkg)
  have hR6 := (hR5.other ⟨g, i * 20 + 7, none⟩ (.slice ao1 (x.values.length + 1) cap1) (by show k5 g ≠ c; rw [hkg]; unfold cXW; omega)).other ⟨g, i * 20 + 3, none⟩ (.int .i64 (x.next + 1)) (by show k5 g ≠ c; rw [hkg]; unfold cXW; omega)
  rw [HE.out]
  exact ⟨rfl, k5, ao1, cap1, evA, t2, by rw [List.map_append]; exact hR6⟩
end
end Go.Proofs.Ytfpbkghcjaonlaa

/-
  The program: Append.
-/
namespace Go.Proofs.Ytfpbkghcjaonlaa
open Go.RowKit

theorem writes_ok (p : XWr) (lsn : Int) : ∀ m ∈ p.writes lsn, MsgOk m := by
  intro m hm
  obtain ⟨s, _, hs⟩ := List.mem_filterMap.1 hm
  unfold XWr.write at hs
  split at hs
  · simp at hs
  · split at hs
    · simp at hs
    · simp only [Option.some.injEq] at hs; subst hs; exact ⟨by simp, by simp⟩
theorem writes_len (p : XWr) (lsn : Int) : (p.writes lsn).length ≤ 6 := Nat.le_trans (List.length_filterMap_le _ _) (by simp)

theorem vol_win {k : Nat → Nat} {w : World} {px : Nat} {x : XVol} (hx : XVolIs k w px x) : w.cell? ⟨px, 0, none⟩ = some (.int .i64 x.wi) := by
  obtain ⟨_, _, _, _, hB, _⟩ := hx.ex
  exact hB.cell 0

theorem append_err {x : XWr} {v wi : Int} (h : (x.append v wi).2.2 ≠ 0) : (x.append v wi).1 = x ∧ (x.append v wi).2.1 = 0 := by
  revert h
  unfold XWr.append
  split
  · exact fun _ => ⟨rfl, rfl⟩
  · split
    · exact fun _ => ⟨rfl, rfl⟩
    · split
      · exact fun _ => ⟨rfl, rfl⟩
      · split
        · exact fun _ => ⟨rfl, rfl⟩
        · exact fun h => absurd rfl h

set_option maxRecDepth 3000 in
set_option maxHeartbeats 8000000 in
theorem xappend_in {k : Nat → Nat} {w : World} {px : Nat} {x : XVol} (hx : XVolIs k w px x) (hok : XOk x) (i : Nat) (hi : i < x.wrs.length) (v : Int) (hw0 : 0 ≤ x.wi) (hw1 : x.wi ≤ 8) (hd0 : 0 ≤ x.wrs[i].dur) (hd1 : x.wrs[i].dur ≤ 4000000000) (hx0 : 0 ≤ x.wrs[i].next) (hvl : x.wrs[i].values.length ≤ 3000000000) :
    Calls Try.prog 38 #[.pointer (some ⟨px, 0, none⟩), .int .i64 ((i : Int) + 1), .int .i64 v] w fun e w' => e = .returned (.tuple #[.int .i64 (x.append ((i : Int) + 1) v).2.1, .int .i64 (x.append ((i : Int) + 1) v).2.2]) ∧ ∃ k', Evo k k' cXS w w' ∧ XVolIs k' w' px (x.append ((i : Int) + 1) v).1 := by
  have h9 : x.wrs.length ≤ 9 := by obtain ⟨_, _, _, _, _, _, _, hW⟩ := hx.ex; exact hW.l2
  have hat0 : x.wrAt ((i : Int) + 1) = some x.wrs[i] := by unfold XVol.wrAt; rw [if_neg (by omega), show ((i : Int) + 1).toNat - 1 = i from by omega, List.getElem?_eq_getElem hi]
  have HI := hide (isWr_in hx i hi)
  have hpk := hok.wk _ (List.getElem_mem hi)
  obtain ⟨g, cap, wrows, n0, n1, n2, c0, c1, c2, v0, v1, v2, q, hpl, hkpx, hW, hN, hC, hV, back⟩ := wr_write2 hx i hi
  have q0 := vol_win hx
  obtain ⟨_, hgl, _, _⟩ := hW.facts
  have hix : (i : Int) + 1 - 1 = (i : Int) := by omega
  have hil : (i : Int) < (x.wrs.length : Int) := by omega
  have hwr : IntKind.i64.wrap ((i : Int) + 1 - 1) = (i : Int) := by rw [hix, IntKind.wrap_i64] <;> omega
  have hwr2 : IntKind.i64.wrap (i : Int) = (i : Int) := by rw [IntKind.wrap_i64] <;> omega
  have hi0 : ¬ (i : Int) < 0 := by omega
  have HS0 : Hid (w.drew.cell? ⟨px, 741, none⟩ = some (.slice (some ⟨g, 0, none⟩) x.wrs.length cap) ∧ w.drew.cell? ⟨px, 0, none⟩ = some (.int .i64 x.wi)) := hide ⟨q, q0⟩
  have HXV := hide hx
  by_cases he : (x.wrs[i].append v x.wi).2.2 = 0
  · have HE : Hid (x.append ((i : Int) + 1) v = ((x.setWr i (x.wrs[i].append v x.wi).1).sendAll ((x.wrs[i].append v x.wi).1.writes (x.wrs[i].append v x.wi).2.1), (x.wrs[i].append v x.wi).2.1, 0)) := hide (by unfold XVol.append; rw [hat0]; simp only; rw [if_neg (by simpa using he), show ((i : Int) + 1).toNat - 1 = i from by omega])
    have HAp : Hid (∀ W, Below w.heap.size w W → Calls Try.prog 69 #[.pointer (some ⟨g, i * 20, none⟩), .int .i64 v, .int .i64 x.wi] W fun e w' => e = .returned (.tuple #[.int .i64 (x.wrs[i].append v x.wi).2.1, .int .i64 0]) ∧ (w'.cell? ⟨px, 741, none⟩ = some (.slice (some ⟨g, 0, none⟩) x.wrs.length cap) ∧ w'.cell? ⟨px, 0, none⟩ = some (.int .i64 x.wi)) ∧ px < w'.heap.size ∧ g < w'.heap.size ∧
        Calls Try.prog 70 #[.pointer (some ⟨g, i * 20, none⟩), .int .i64 (x.wrs[i].append v x.wi).2.1] w' fun e w'' => ∃ s0 s1 s2, e = .returned (.slice s0 s1 s2) ∧
          Calls Try.prog 54 #[.pointer (some ⟨px, 0, none⟩), .slice s0 s1 s2] w'' fun e w3 => e = .returned (.tuple #[]) ∧ ∃ k3, Evo k k3 cXS w w3 ∧ XVolIs k3 w3 px ((x.setWr i (x.wrs[i].append v x.wi).1).sendAll ((x.wrs[i].append v x.wi).1.writes (x.wrs[i].append v x.wi).2.1))) := hide fun W hW' => by
      have e0 : Evo k k noC w W := Evo.of_below hW'
      obtain ⟨rfl, _⟩ := values_cell hV
      refine (wAppend_yes (c := cWr i + 1) (hW.evo e0 (noC_not _)) (hV.evo e0 (noC_not _)) hvl (by unfold cWr; omega) (by unfold cWr; omega) v x.wi hd0 hd1 hw0 hw1 hx0 he).mono ?_
      rintro e w' ⟨rfl, k', a2, b2, ev, hw, hv⟩
      have evT : Evo k k' (fun d => d = cXW ∨ d = cWr i + 1) w w' := (e0.mono (fun _ h => h.elim)).trans ev
      have hap : (x.wrs[i].append v x.wi) = ({ x.wrs[i] with values := x.wrs[i].values ++ [v], next := x.wrs[i].next + 1 }, x.wrs[i].next + 1, 0) ∧ x.wrs[i].next < 40 := by
        revert he
        unfold XWr.append
        split
        · simp
        · split
          · simp
          · split
            · simp
            · split
              · simp
              · rename_i h3 _; exact fun _ => ⟨rfl, by omega⟩
      have him : ¬ (IM = cXW ∨ IM = cWr i + 1) := by unfold IM cXW cWr; omega
      have hN' : NotesIs k' w' (cWr i) (.slice n0 n1 n2) (x.wrs[i].append v x.wi).1.notes := by rw [hap.1]; exact hN.evo evT (by unfold cXW cWr; omega) him
      have hC' : CutsIm k' w' (.slice c0 c1 c2) (x.wrs[i].append v x.wi).1.cuts := by rw [hap.1]; exact hC.evo evT him
      have hbk := back k' w' _ _ _ _ _ evT (fun c hc => by rcases hc with h | h; exact .inl h; exact .inr (.inr h)) hw hN' hC' hv
      have hcell : ∀ j, w'.cell? ⟨px, j, none⟩ = w.cell? ⟨px, j, none⟩ := fun j => World.cell?_of_block (a := ⟨px, j, none⟩) (evT.keep px hpl (by rw [hkpx]; unfold cX cXW cWr; omega))
      have hok' : XWOk (x.wrs[i].append v x.wi).1 := by
        rw [hap.1]
        exact ⟨hpk.cl, by simp only [List.length_append, List.length_singleton]; omega, hpk.nl, hpk.nk, hpk.b0, hpk.b1, hpk.nt⟩
      refine ⟨rfl, ⟨(hcell _).trans q, (hcell _).trans q0⟩, Nat.lt_of_lt_of_le hpl evT.size, hw.facts.2.1, ?_⟩
      refine (writes_any _ (hw.at hN' hC' hv) hok'.b0 hok'.b1 (by rw [hap.1]; simp only; omega) (by rw [hap.1]; simp only; omega) hok'.vl).mono ?_
      rintro e w'' ⟨⟨vv, rfl, hm⟩, hb7⟩
      obtain ⟨rws, hmm, _⟩ := id hm
      obtain ⟨s0, s1, s2, hs⟩ := made_shape hmm
      subst hs
      obtain ⟨k7, ev7, hl7⟩ := hm.is hb7
      refine ⟨s0, s1, s2, rfl, ?_⟩
      refine (xsendAll_any _ (hbk.evo ev7 (noC_not _) (fun c _ _ => noC_not c)) (hok.setWr i _ hok') hl7 (by have := writes_len (x.wrs[i].append v x.wi).1 (x.wrs[i].append v x.wi).2.1; omega) (writes_ok _ _)).mono ?_
      rintro e w3 ⟨rfl, k3, ev3, h3⟩
      exact ⟨rfl, k3, ((evT.mono (fun c h => by unfold cXW cWr at h; unfold cXS; omega)).trans (ev7.mono (fun _ h => h.elim))).trans (ev3.mono (fun c h => by unfold cXN cX cXM at h; unfold cXS; omega)), h3⟩
    generalize (x.setWr i (x.wrs[i].append v x.wi).1).sendAll ((x.wrs[i].append v x.wi).1.writes (x.wrs[i].append v x.wi).2.1) = xe at *
    generalize (x.wrs[i].append v x.wi).2.1 = ls at *
    clear hW hN hC hV back hx hat0 he
    go_enter Try.func38, Try.ntmps38
    go_wp2_with fail
    refine HI.out.mono ?_
    rintro e1 w1 ⟨rfl, hw⟩
    have hw2 := hw.symm
    subst hw2
    go_wp2_with fail
    go_region_held3 (fun W => W.cell? ⟨px, 741, none⟩ = some (.slice (some ⟨g, 0, none⟩) x.wrs.length cap) ∧ W.cell? ⟨px, 0, none⟩ = some (.int .i64 x.wi)) (first | with_reducible exact HS0.out | with_reducible exact HSy)
      (first | (go_at_call 69; refine (HAp.out _ (Below.drew (Below.refl _ _))).mono ?_; rintro e5 w5 ⟨rfl, HSy, hp5, hg5, HWr⟩; have HWr2 := hide HWr; clear HWr))
    obtain ⟨y1, y2⟩ := HSy
    go_wp2_with fail
    refine HWr2.out.mono ?_
    rintro e6 w6 ⟨s0, s1, s2, rfl, HSd⟩
    have HSd2 := hide HSd
    clear HSd
    go_wp2_with fail
    refine HSd2.out.mono ?_
    rintro e7 w7 ⟨rfl, HY⟩
    have HY2 := hide HY
    clear HY
    go_wp2_with fail
    go_ret2
    exact ⟨by rw [HE.out]; rfl, by rw [HE.out]; exact HY2.out⟩
  · have HE : Hid (x.append ((i : Int) + 1) v = (x, 0, (x.wrs[i].append v x.wi).2.2)) := hide (by unfold XVol.append; rw [hat0]; simp only; rw [if_pos he])
    have HAp : Hid (∀ W, Below w.heap.size w W → Calls Try.prog 69 #[.pointer (some ⟨g, i * 20, none⟩), .int .i64 v, .int .i64 x.wi] W fun e w' => e = .returned (.tuple #[.int .i64 0, .int .i64 (x.wrs[i].append v x.wi).2.2]) ∧ Below W.heap.size W w') := hide fun W hW' => wAppend_no (hW.evo (Evo.of_below (C := noC) hW') (noC_not _)) v x.wi hd0 hd1 hw0 hw1 he
    have hne : ((x.wrs[i].append v x.wi).2.2 != 0) = true := by simpa using he
    have HK : Hid (∀ W, Below w.heap.size w W → W.cell? ⟨px, 741, none⟩ = some (.slice (some ⟨g, 0, none⟩) x.wrs.length cap) ∧ W.cell? ⟨px, 0, none⟩ = some (.int .i64 x.wi)) := hide fun W hW' => ⟨(hW'.cell (p := ⟨px, 741, none⟩) hpl).trans q, (hW'.cell (p := ⟨px, 0, none⟩) hpl).trans q0⟩
    generalize (x.wrs[i].append v x.wi).2.2 = er at *
    clear hW hN hC hV back hx hat0 he
    go_enter Try.func38, Try.ntmps38
    go_wp2_with fail
    refine HI.out.mono ?_
    rintro e1 w1 ⟨rfl, hw⟩
    have hw2 := hw.symm
    subst hw2
    go_wp2_with fail
    go_region_held3 (fun W => W.cell? ⟨px, 741, none⟩ = some (.slice (some ⟨g, 0, none⟩) x.wrs.length cap) ∧ W.cell? ⟨px, 0, none⟩ = some (.int .i64 x.wi)) (first | with_reducible exact HS0.out | with_reducible exact HSy)
      (first | (go_at_call 69; refine (HAp.out _ (Below.drew (Below.refl _ _))).mono ?_; rintro e5 w5 ⟨rfl, hb5⟩; have hb5x : Below w.heap.size w w5 := (Below.drew (Below.refl _ _)).trans hb5; have HSy := HK.out w5 hb5x))
    go_wp2_with fail
    go_ret2
    exact ⟨by rw [HE.out]; rfl, k, Evo.of_below hb5x, by rw [HE.out]; exact HXV.out.evo (Evo.of_below (C := noC) hb5x) (noC_not _) (fun c _ _ => noC_not c)⟩
end Go.Proofs.Ytfpbkghcjaonlaa

/-
  The program: Append, of a writer that there is not.
-/
namespace Go.Proofs.Ytfpbkghcjaonlaa
open Go.RowKit

set_option maxRecDepth 3000 in
set_option maxHeartbeats 4000000 in
theorem xappend_out {k : Nat → Nat} {w : World} {px : Nat} {x : XVol} (hx : XVolIs k w px x) (n v : Int) (hn : ¬ (1 ≤ n ∧ n ≤ (x.wrs.length : Int))) :
    Calls Try.prog 38 #[.pointer (some ⟨px, 0, none⟩), .int .i64 n, .int .i64 v] w fun e w' => e = .returned (.tuple #[.int .i64 (x.append n v).2.1, .int .i64 (x.append n v).2.2]) ∧ ∃ k', Evo k k' cXS w w' ∧ XVolIs k' w' px (x.append n v).1 := by
  have HE : Hid (x.append n v = (x, 0, 3)) := hide (by
    unfold XVol.append XVol.wrAt
    by_cases h0 : n < 1
    · rw [if_pos h0]
    · rw [if_neg h0, List.getElem?_eq_none (by omega)])
  obtain ⟨a, cap, hc⟩ := wrs_cell hx
  have hiw := isWriter_any w px n _ _ _ hc
  rw [show (decide (1 ≤ n) && decide (n ≤ (x.wrs.length : Int))) = false from by rw [Bool.and_eq_false_iff]; simp; omega] at hiw
  have HI := hide hiw
  clear hiw hn
  go_enter Try.func38, Try.ntmps38
  go_wp2_with fail
  refine HI.out.mono ?_
  rintro e1 w1 ⟨rfl, hw⟩
  have hw2 := hw.symm
  subst hw2
  go_wp2_with fail
  go_ret2
  exact ⟨by rw [HE.out]; rfl, k, Evo.refl _ _ _, by rw [HE.out]; exact hx⟩
end Go.Proofs.Ytfpbkghcjaonlaa

/-
  The program: a segment that may be written.
-/
namespace Go.Proofs.Ytfpbkghcjaonlaa
open Go.RowKit

/-- What a volume has beside one segment. -/
structure VR where
  wi : Int
  room : Int
  vM : Value
  vW : Value
  rows : List (List Value)

/-- A segment that may be written: it lies at offset o of the volume's block. -/
structure SegW (k : Nat → Nat) (w : World) (px : Nat) (r : VR) (i o : Nat) (s : XSeg) (vc : Value) : Prop where
  blk : Blk k w cX px 87 (volCells r.wi r.room r.vM (r.rows.set i (xsegRow s vc)) r.vW)
  l6 : r.rows.length = 6
  len : ∀ a ∈ r.rows, a.length = 123
  hi : i < 6
  ho : o = 3 + i * 123
  pl : s.places.length = 40

theorem xsegRow_len (s : XSeg) (vc : Value) (h : s.places.length = 40) : (xsegRow s vc).length = 123 := by
  unfold xsegRow
  have := flatten_len (placeRows_len s.places)
  simp only [List.length_append, List.length_cons, List.length_nil, this, List.length_map, h]

theorem set_lens {rows : List (List Value)} {i : Nat} {a : List Value} (h : ∀ b ∈ rows, b.length = 123) (ha : a.length = 123) : ∀ b ∈ rows.set i a, b.length = 123 := fun b hb => by
  rcases List.mem_or_eq_of_mem_set hb with h1 | rfl
  · exact h b h1
  · exact ha

theorem volCells_set {wi room : Int} {vM vW : Value} {rows : List (List Value)} (hl : ∀ r ∈ rows, r.length = 123) (i j : Nat) (hi : i < rows.length) (hj : j < 123) (v : Value) :
    (volCells wi room vM rows vW).set (3 + i * 123 + j) v = volCells wi room vM (rows.set i ((rows[i]'hi).set j v)) vW := by
  unfold volCells
  have hf := flatten_len hl
  have hlt : (i + 1) * 123 ≤ rows.length * 123 := Nat.mul_le_mul_right _ hi
  rw [List.set_append_right _ _ (by simp; omega)]
  rw [show 3 + i * 123 + j - [Value.int .i64 wi, .int .i64 room, vM].length = i * 123 + j from by simp; omega]
  rw [List.set_append_left _ _ (by rw [hf]; omega), flatten_set hl i j hi hj]

section
variable {k k' : Nat → Nat} {w w' : World} {px : Nat} {r : VR} {i o : Nat} {s s' : XSeg} {vc vc' : Value} {C : Nat → Prop}

theorem SegW.at_ (h : SegW k w px r i o s vc) : SegAt w px o s vc := by
  have h6 := h.l6
  have hi := h.hi
  refine ⟨fun j hj => ?_, h.pl⟩
  rw [h.blk.cell, h.ho, volCells_seg (set_lens h.len (xsegRow_len s vc h.pl)) i j (by simp; omega) hj]
  simp
theorem SegW.lt (h : SegW k w px r i o s vc) : px < w.heap.size := h.blk.lt
theorem SegW.col (h : SegW k w px r i o s vc) : k px = cX := h.blk.2
theorem SegW.free (h : SegW k w px r i o s vc) (j : Nat) : w.frozen? ⟨px, j, none⟩ = false := h.blk.free j
theorem SegW.evo (h : SegW k w px r i o s vc) (g : Evo k k' C w w') (hc : ¬ C cX) : SegW k' w' px r i o s vc := ⟨h.blk.evo g hc, h.l6, h.len, h.hi, h.ho, h.pl⟩
theorem SegW.below (h : SegW k w px r i o s vc) (hb : Below w.heap.size w w') : SegW k w' px r i o s vc := h.evo (Evo.of_below (C := noC) hb) (noC_not _)
theorem SegW.set (h : SegW k w px r i o s vc) (j : Nat) (hj : j < 123) (v : Value) (hr : (xsegRow s vc).set j v = xsegRow s' vc') (hp : s'.places.length = 40) : SegW k (w.setCell ⟨px, o + j, none⟩ v) px r i o s' vc' := by
  have h6 := h.l6
  have hi := h.hi
  have hb := h.blk.set (o + j) v
  rw [h.ho, volCells_set (set_lens h.len (xsegRow_len s vc h.pl)) i j (by simp; omega) hj] at hb
  simp only [List.getElem_set_self, List.set_set, hr] at hb
  exact ⟨by rw [h.ho]; exact hb, h.l6, h.len, h.hi, h.ho, hp⟩

theorem xsegRow_up (s : XSeg) (vc : Value) (b : Bool) : (xsegRow s vc).set 0 (.bool b) = xsegRow { s with up := b } vc := rfl
theorem xsegRow_epoch (s : XSeg) (vc : Value) (e : Int) : (xsegRow s vc).set 1 (.int .i64 e) = xsegRow { s with epoch := e } vc := rfl
theorem xsegRow_cuts (s : XSeg) (vc v : Value) (l : List (Int × Int)) : (xsegRow s vc).set 2 v = xsegRow { s with cuts := l } v := rfl
theorem xsegRow_place (s : XSeg) (vc : Value) (j t : Nat) (hj : j < s.places.length) (ht : t < 3) (v : Value) (p : Int × Int × Int) (hp : (placeRow s.places[j]).set t v = placeRow p) : (xsegRow s vc).set (3 + j * 3 + t) v = xsegRow { s with places := s.places.set j p } vc := by
  unfold xsegRow
  rw [List.set_append_right _ _ (by simp; omega), show 3 + j * 3 + t - [Value.bool s.up, .int .i64 s.epoch, vc].length = j * 3 + t from by simp; omega, flatten_set (placeRows_len _) j t (by simpa using hj) ht]
  simp only [List.getElem_map, hp, List.map_set]

/-- A place is written whole. -/
theorem SegW.place (h : SegW k w px r i o s vc) (j : Nat) (hj : j < 40) (p : Int × Int × Int) :
    SegW k (((w.setCell ⟨px, o + 3 + j * 3, none⟩ (.int .i64 p.1)).setCell ⟨px, o + 3 + j * 3 + 1, none⟩ (.int .i64 p.2.1)).setCell ⟨px, o + 3 + j * 3 + 2, none⟩ (.int .i64 p.2.2)) px r i o { s with places := s.places.set j p } vc := by
  have hl := h.pl
  have h1 := h.set (3 + j * 3 + 0) (by omega) (.int .i64 p.1) (xsegRow_place s vc j 0 (by omega) (by omega) _ (p.1, s.places[j].2) rfl) (by simpa using hl)
  have h2 := h1.set (3 + j * 3 + 1) (by omega) (.int .i64 p.2.1) (xsegRow_place _ vc j 1 (by simp; omega) (by omega) _ (p.1, p.2.1, s.places[j].2.2) (by simp [placeRow])) (by simpa using hl)
  have h3 := h2.set (3 + j * 3 + 2) (by omega) (.int .i64 p.2.2) (xsegRow_place _ vc j 2 (by simp; omega) (by omega) _ p (by simp [placeRow])) (by simpa using hl)
  simp only [List.set_set] at h3
  rw [show o + 3 + j * 3 = o + (3 + j * 3 + 0) from by omega, show o + (3 + j * 3 + 0) + 1 = o + (3 + j * 3 + 1) from by omega, show o + (3 + j * 3 + 0) + 2 = o + (3 + j * 3 + 2) from by omega]
  exact h3
/-- The state of a place is written. -/
theorem SegW.state (h : SegW k w px r i o s vc) (j : Nat) (hj : j < s.places.length) (a : Int) :
    SegW k (w.setCell ⟨px, o + 3 + j * 3, none⟩ (.int .i64 a)) px r i o { s with places := s.places.set j (a, s.places[j].2) } vc := by
  have hl := h.pl
  have h1 := h.set (3 + j * 3 + 0) (by omega) (.int .i64 a) (xsegRow_place s vc j 0 (by omega) (by omega) _ (a, s.places[j].2) rfl) (by simpa using hl)
  rw [show o + 3 + j * 3 = o + (3 + j * 3 + 0) from by omega]
  exact h1
end

/-- A segment of the volume, to be written, and back. -/
theorem seg_write {k : Nat → Nat} {w : World} {px : Nat} {x : XVol} (hx : XVolIs k w px x) (i : Nat) (hi : i < 6) :
    ∃ (r : VR) (c0 : Option Addr) (c1 c2 : Nat) (hl : i < x.segs.length), SegW k w px r i (3 + i * 123) x.segs[i] (.slice c0 c1 c2) ∧ CutsIm k w (.slice c0 c1 c2) x.segs[i].cuts ∧
      ∀ k' w' s' vc', Evo k k' (fun c => c = cX) w w' → SegW k' w' px r i (3 + i * 123) s' vc' → CutsIm k' w' vc' s'.cuts → XVolIs k' w' px (x.setSeg i s') := by
  obtain ⟨vM, vW, sr, wr, hB, hM, hS, hW⟩ := hx.ex
  have l1 := hS.l1
  have l2 := hS.l2
  have hlen : ∀ a ∈ sr, a.length = 123 := by
    intro a ha
    obtain ⟨j, hj, rfl⟩ := List.getElem_of_mem ha
    obtain ⟨vc, h1, _, h3⟩ := hS.all j hj (by omega)
    rw [h1]; exact xsegRow_len _ _ h3
  obtain ⟨vc, hr, hc, hp⟩ := hS.all i (by omega) (by omega)
  obtain ⟨c0, c1, c2, hz⟩ := Rows.shape hc
  subst hz
  refine ⟨⟨x.wi, x.room, vM, vW, sr⟩, c0, c1, c2, by omega, ⟨?_, l1, hlen, hi, rfl, hp⟩, hc, ?_⟩
  · rw [← hr, List.set_getElem_self]; exact hB
  · intro k' w' s' vc' ev hS' hC'
    have him : ¬ (IM = cX) := by decide
    refine ⟨vM, vW, sr.set i (xsegRow s' vc'), wr, hS'.blk, hM.evo ev (by decide) him, ⟨by simpa using l1, by simpa [XVol.setSeg] using l2, ?_⟩, hW.evo ev him (by decide) (fun c a b => by unfold cX; omega)⟩
    intro j h1 h2
    simp only [XVol.setSeg, List.length_set] at h1 h2
    show ∃ vc, (sr.set i (xsegRow s' vc'))[j]'(by simpa using h1) = xsegRow ((x.segs.set i s')[j]'(by simpa using h2)) vc ∧ CutsIm k' w' vc ((x.segs.set i s')[j]'(by simpa using h2)).cuts ∧ ((x.segs.set i s')[j]'(by simpa using h2)).places.length = 40
    rw [List.getElem_set, List.getElem_set]
    by_cases e : i = j
    · subst e
      rw [if_pos rfl, if_pos rfl]
      exact ⟨vc', rfl, hC', hS'.pl⟩
    · rw [if_neg e, if_neg e]
      obtain ⟨vc, h1, h2, h3⟩ := hS.all j h1 h2
      exact ⟨vc, h1, h2.evo ev him, h3⟩
end Go.Proofs.Ytfpbkghcjaonlaa

/-
  The program: a segment: Down, Newer, at, Value, Need, give.
-/
namespace Go.Proofs.Ytfpbkghcjaonlaa
open Go.RowKit

set_option maxHeartbeats 1000000 in
theorem sdown_any {w : World} {b o : Nat} {s : XSeg} {vc : Value} (h : SegAt w b o s vc) :
    Calls Try.prog 44 #[.pointer (some ⟨b, o, none⟩)] w fun e w' => e = .returned (.bool (!s.up)) ∧ w' = w := by
  have q0 : w.cell? ⟨b, o, none⟩ = some (.bool s.up) := h.cell 0 (by omega)
  clear h
  go_enter Try.func44, Try.ntmps44
  go_wp2_with fail
  go_ret
  exact ⟨rfl, rfl⟩

set_option maxHeartbeats 1000000 in
theorem snewer_any {w : World} {b o : Nat} {s : XSeg} {vc : Value} (h : SegAt w b o s vc) (n : Int) :
    Calls Try.prog 45 #[.pointer (some ⟨b, o, none⟩), .int .i64 n] w fun e w' => e = .returned (.bool (decide (n < s.epoch))) ∧ w' = w := by
  have q1 : w.cell? ⟨b, o + 1, none⟩ = some (.int .i64 s.epoch) := h.cell 1 (by omega)
  clear h
  go_enter Try.func45, Try.ntmps45
  go_wp2_with fail
  go_ret
  exact ⟨rfl, rfl⟩

def placeVal (p : Int × Int × Int) : Value := .agg #[.int .i64 p.1, .int .i64 p.2.1, .int .i64 p.2.2]

set_option maxHeartbeats 2000000 in
theorem sat_any {w : World} {b o : Nat} {s : XSeg} {vc : Value} (h : SegAt w b o s vc) (lsn : Int) :
    Calls Try.prog 71 #[.pointer (some ⟨b, o, none⟩), .int .i64 lsn] w fun e w' => e = .returned (placeVal (s.at_ lsn)) ∧ Below w.heap.size w w' := by
  have hl := h.len
  have hbl := h.lt
  have hbn : ¬ b = w.heap.size := by omega
  unfold placeVal
  by_cases h1 : lsn < 1
  · have HE : Hid (s.at_ lsn = (0, 0, 0)) := hide (by unfold XSeg.at_; rw [if_pos (.inl h1)])
    have d1 : decide (lsn < 1) = true := by simpa using h1
    clear h
    rw [HE.out]
    go_enter Try.func71, Try.ntmps71
    go_wp2_with fail
    exact bodyPost_ret (v := .agg #[.int .i64 0, .int .i64 0, .int .i64 0]) (by simp [results, Try.results71, go_sem]) rfl ⟨rfl, (Below.refl _ _).alloc (Nat.le_refl _) _⟩
  · have d1 : decide (lsn < 1) = false := by simpa using h1
    by_cases h2 : 40 < lsn
    · have HE : Hid (s.at_ lsn = (0, 0, 0)) := hide (by unfold XSeg.at_; rw [if_pos (.inr h2)])
      have d2 : decide (40 < lsn) = true := by simpa using h2
      clear h
      rw [HE.out]
      go_enter Try.func71, Try.ntmps71
      go_wp2_with fail
      exact bodyPost_ret (v := .agg #[.int .i64 0, .int .i64 0, .int .i64 0]) (by simp [results, Try.results71, go_sem]) rfl ⟨rfl, (Below.refl _ _).alloc (Nat.le_refl _) _⟩
    · have d2 : decide (40 < lsn) = false := by simpa using h2
      obtain ⟨j, hj⟩ : ∃ j : Nat, lsn = (j : Int) + 1 := ⟨(lsn - 1).toNat, by omega⟩
      subst hj
      have hjl : j < s.places.length := by omega
      obtain ⟨q0, q1, q2⟩ := h.place j hjl
      have HE : Hid (s.at_ ((j : Int) + 1) = s.places[j]) := hide (by
        unfold XSeg.at_
        rw [if_neg (by omega), show ((j : Int) + 1 - 1).toNat = j from by omega, List.getD_eq_getElem?_getD, List.getElem?_eq_getElem hjl]; rfl)
      rw [HE.out]
      generalize s.places[j] = pj at *
      have hwr : IntKind.i64.wrap ((j : Int) + 1 - 1) = (j : Int) := by rw [show (j : Int) + 1 - 1 = (j : Int) from by omega, IntKind.wrap_i64] <;> omega
      have hj40 : (j : Int) < 40 := by omega
      have hj0 : ¬ (j : Int) < 0 := by omega
      clear h h1 h2
      go_enter Try.func71, Try.ntmps71
      go_wp2_with fail
      exact bodyPost_ret (v := .agg #[.int .i64 pj.1, .int .i64 pj.2.1, .int .i64 pj.2.2]) (by simp [results, Try.results71, go_sem]) rfl ⟨rfl, (Below.refl _ _).alloc (Nat.le_refl _) _⟩

set_option maxHeartbeats 1000000 in
theorem svalue_any {w : World} {b o : Nat} {s : XSeg} {vc : Value} (h : SegAt w b o s vc) (lsn : Int) :
    Calls Try.prog 47 #[.pointer (some ⟨b, o, none⟩), .int .i64 lsn] w fun e w' => e = .returned (.int .i64 (s.value lsn)) ∧ Below w.heap.size w w' := by
  have HA := hide (sat_any h lsn)
  unfold placeVal at HA
  obtain ⟨r, hr⟩ : ∃ r, r = s.value lsn := ⟨_, rfl⟩
  rw [← hr]
  unfold XSeg.value at hr
  generalize s.at_ lsn = p at *
  have HR := hide hr
  clear h hr
  by_cases h2 : p.1 = 2
  · have HE : Hid (r = p.2.2) := hide (by rw [HR.out, if_pos h2])
    have hd : (p.1 != 2) = false := by simpa using h2
    clear h2
    go_enter Try.func47, Try.ntmps47
    go_wp2_with fail
    refine HA.out.mono ?_
    rintro e1 w1 ⟨rfl, hb1⟩
    go_wp2_with fail
    go_ret
    exact ⟨by rw [HE.out]; rfl, hb1.alloc hb1.size _⟩
  · have HE : Hid (r = 0) := hide (by rw [HR.out, if_neg h2])
    have hd : (p.1 != 2) = true := by simpa using h2
    clear h2
    go_enter Try.func47, Try.ntmps47
    go_wp2_with fail
    refine HA.out.mono ?_
    rintro e1 w1 ⟨rfl, hb1⟩
    go_wp2_with fail
    go_ret
    exact ⟨by rw [HE.out]; rfl, hb1.alloc hb1.size _⟩

set_option maxRecDepth 3000 in
set_option maxHeartbeats 2000000 in
theorem sneed_any {w : World} {b o : Nat} {s : XSeg} {vc : Value} (h : SegAt w b o s vc) (a c : Int) :
    Calls Try.prog 62 #[.pointer (some ⟨b, o, none⟩), .int .i64 a, .int .i64 c] w fun e w' => e = .returned (.agg #[.int .i64 7, .int .i64 a, .int .i64 c, .int .i64 0, .int .i64 ((xscl s : Int) + 1), .int .i64 0, .int .i64 0, .slice none 0 0, .slice none 0 0]) ∧ Below w.heap.size w w' := by
  have HS : Hid (∀ W, Below w.heap.size w W → Calls Try.prog 81 #[.pointer (some ⟨b, o, none⟩)] W fun e w' => e = .returned (.int .i64 (xscl s)) ∧ w' = W) := hide fun W hW => xscl_any (h.below hW)
  have hle : xscl s ≤ 40 := by
    obtain ⟨m, hm, he, _⟩ := Sim.xscl_exists s h.len
    omega
  clear h
  generalize xscl s = sc at *
  have hwr : IntKind.i64.wrap ((sc : Int) + 1) = (sc : Int) + 1 := by rw [IntKind.wrap_i64] <;> omega
  go_enter Try.func62, Try.ntmps62
  go_wp2_with fail
  refine (HS.out _ ((Below.refl _ _).alloc (Nat.le_refl _) _)).mono ?_
  rintro e1 w1 ⟨rfl, rfl⟩
  go_wp2_with fail
  exact bodyPost_ret (v := .agg #[.int .i64 7, .int .i64 a, .int .i64 c, .int .i64 0, .int .i64 ((sc : Int) + 1), .int .i64 0, .int .i64 0, .slice none 0 0, .slice none 0 0]) (by simp [results, Try.results62, go_sem]) rfl ⟨rfl, (Below.refl _ _).alloc (Nat.le_refl _) _⟩
/-- A message that is answered. -/
def MAns (k : Nat → Nat) (w : World) (m : Msg) (v : Value) : Prop :=
  ∃ (z0 : Option Addr) (z1 z2 : Nat) (y0 : Option Addr) (y1 y2 : Nat), v = .agg #[.int .i64 m.kind, .int .i64 m.frm, .int .i64 m.to_, .int .i64 m.epoch, .int .i64 m.lsn, .int .i64 m.value, .int .i64 m.scl, .slice z0 z1 z2, .slice y0 y1 y2] ∧ CutsIm k w (.slice z0 z1 z2) m.cuts ∧ IntsIm k w (.slice y0 y1 y2) m.marks
/-- A message, and whether it is to be sent. -/
def OAns (k : Nat → Nat) (w : World) (o : Option Msg) (v : Value) : Prop :=
  ∃ (mm : Msg) (z0 : Option Addr) (z1 z2 : Nat) (y0 : Option Addr) (y1 y2 : Nat), v = .tuple #[.agg #[.int .i64 mm.kind, .int .i64 mm.frm, .int .i64 mm.to_, .int .i64 mm.epoch, .int .i64 mm.lsn, .int .i64 mm.value, .int .i64 mm.scl, .slice z0 z1 z2, .slice y0 y1 y2], .bool o.isSome] ∧ CutsIm k w (.slice z0 z1 z2) mm.cuts ∧ IntsIm k w (.slice y0 y1 y2) mm.marks ∧ ∀ m', o = some m' → m' = mm

theorem OAns.none (k : Nat → Nat) (w : World) : OAns k w none (.tuple #[.agg #[.int .i64 0, .int .i64 0, .int .i64 0, .int .i64 0, .int .i64 0, .int .i64 0, .int .i64 0, .slice none 0 0, .slice none 0 0], .bool false]) :=
  ⟨m0, .none, 0, 0, .none, 0, 0, rfl, Rows.nil _ _ _ _ _, Rows.nil _ _ _ _ _, fun m' hm' => by simp at hm'⟩

/-- A block of nine cells, as the walk asks for it. -/
theorem cells9m {w : World} {b e : Nat} {c0 c1 c2 c3 c4 c5 c6 c7 c8 : Value} (h : w.heap[b]? = some (.cells #[c0, c1, c2, c3, c4, c5, c6, c7, c8] e (0, 0))) :
    (w.cell? ⟨b, 0, none⟩ = some c0 ∧ w.cell? ⟨b, 1, none⟩ = some c1 ∧ w.cell? ⟨b, 2, none⟩ = some c2 ∧ w.cell? ⟨b, 3, none⟩ = some c3 ∧ w.cell? ⟨b, 4, none⟩ = some c4 ∧ w.cell? ⟨b, 5, none⟩ = some c5 ∧ w.cell? ⟨b, 6, none⟩ = some c6 ∧ w.cell? ⟨b, 7, none⟩ = some c7 ∧ w.cell? ⟨b, 8, none⟩ = some c8) ∧
    (w.frozen? ⟨b, 0, none⟩ = false ∧ w.frozen? ⟨b, 1, none⟩ = false ∧ w.frozen? ⟨b, 2, none⟩ = false ∧ w.frozen? ⟨b, 3, none⟩ = false ∧ w.frozen? ⟨b, 4, none⟩ = false ∧ w.frozen? ⟨b, 5, none⟩ = false ∧ w.frozen? ⟨b, 6, none⟩ = false ∧ w.frozen? ⟨b, 7, none⟩ = false ∧ w.frozen? ⟨b, 8, none⟩ = false) ∧ b < w.heap.size := by
  have hb : Blk (fun _ => 0) w 0 b e [c0, c1, c2, c3, c4, c5, c6, c7, c8] := ⟨h, rfl⟩
  exact ⟨⟨hb.cell 0, hb.cell 1, hb.cell 2, hb.cell 3, hb.cell 4, hb.cell 5, hb.cell 6, hb.cell 7, hb.cell 8⟩, ⟨hb.free 0, hb.free 1, hb.free 2, hb.free 3, hb.free 4, hb.free 5, hb.free 6, hb.free 7, hb.free 8⟩, hb.lt⟩

end Go.Proofs.Ytfpbkghcjaonlaa
