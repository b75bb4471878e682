import Derived.Test.YtfpbkghcjaonlaaGreatJ18
/-
  The program: writers at the volume: Writer, Resend.
-/
namespace Go.Proofs.YtfpbkghcjaonlaaGreat
open Go.RowKit

theorem wr_open {k : Nat → Nat} {w : World} {px : Nat} {x : XVol} (hx : XVolIs k w px x) (i : Nat) (hi : i < x.wrs.length) :
    ∃ g cap, w.cell? ⟨px, 741, none⟩ = some (.slice (some ⟨g, 0, none⟩) x.wrs.length cap) ∧ px < w.heap.size ∧ k g = cXW ∧ WrAt k w (cWr i) g (i * 20) x.wrs[i] := by
  obtain ⟨vM, vW, sr, wr, hB, hM, hS, hW⟩ := hx.ex
  have l1 := hW.l1
  obtain ⟨g, cap, hv, hk, hl, hc, hcell, hf⟩ := hW.own.at (by omega)
  rw [l1] at hv
  refine ⟨g, cap, ?_, hB.lt, hk, ?_⟩
  · rw [hB.cell, volCells_wr hS, hv]
  · have hw := hW.all i (by omega) hi
    obtain ⟨vN, vC, vV, hr, hN, hC, hV⟩ := hw.ex
    obtain ⟨rows, hR, hA⟩ := hN
    obtain ⟨n0, n1, n2, hz⟩ := Rows.shape hR
    subst hz
    obtain ⟨c0, c1, c2, hz⟩ := Rows.shape hC
    subst hz
    obtain ⟨v0, v1, v2, hz⟩ := Rows.shape hV
    subst hz
    exact ⟨⟨n0, n1, n2, c0, c1, c2, v0, v1, v2, fun j hj => by rw [hcell i j (by omega) hj, hr], ⟨rows, hR, hA⟩, hC, hV⟩, hw.h6, hw.n6⟩

set_option maxRecDepth 3000 in
set_option maxHeartbeats 4000000 in
theorem wstate_any {k : Nat → Nat} {w : World} {c b o : Nat} {x : XWr} (h : WrAt k w c b o x) :
    Calls Tryz.prog 102 #[.pointer (some ⟨b, o, none⟩)] w fun e w' => e = .returned (WSt.val ⟨x.phase, x.base, x.next, x.dur⟩) ∧ Below w.heap.size w w' := by
  have hbl := h.lt
  have hbn : ¬ b = w.heap.size := by omega
  obtain ⟨n0, n1, n2, c0, c1, c2, v0, v1, v2, hc, _, _, _⟩ := h.ex
  have q1 : w.cell? ⟨b, o + 1, none⟩ = some (.int .i64 x.phase) := hc 1 (by omega)
  have q2 : w.cell? ⟨b, o + 2, none⟩ = some (.int .i64 x.base) := hc 2 (by omega)
  have q3 : w.cell? ⟨b, o + 3, none⟩ = some (.int .i64 x.next) := hc 3 (by omega)
  have q4 : w.cell? ⟨b, o + 4, none⟩ = some (.int .i64 x.dur) := hc 4 (by omega)
  clear hc h
  unfold WSt.val
  go_enter Tryz.func102, Tryz.ntmps102
  go_wp2_with fail
  go_region_held3 (fun W => W.cell? ⟨b, o + 1, none⟩ = some (.int .i64 x.phase) ∧ W.cell? ⟨b, o + 2, none⟩ = some (.int .i64 x.base) ∧ W.cell? ⟨b, o + 3, none⟩ = some (.int .i64 x.next) ∧ W.cell? ⟨b, o + 4, none⟩ = some (.int .i64 x.dur)) (go_keep) (fail)
  go_wp2_with fail
  exact bodyPost_ret (v := .agg #[.int .i64 x.phase, .int .i64 x.base, .int .i64 x.next, .int .i64 x.dur]) (by simp [results, Tryz.results102, go_sem]) rfl ⟨rfl, ((Below.refl _ _).alloc (Nat.le_refl _) _).drew⟩

set_option maxHeartbeats 1000000 in
theorem fenced_any {k : Nat → Nat} {w : World} {c b o : Nat} {x : XWr} (h : WrAt k w c b o x) :
    Calls Tryz.prog 69 #[.pointer (some ⟨b, o, none⟩)] w fun e w' => e = .returned (.bool (x.phase == 4)) ∧ w' = w := by
  obtain ⟨n0, n1, n2, c0, c1, c2, v0, v1, v2, hc, _, _, _⟩ := h.ex
  have q1 : w.cell? ⟨b, o + 1, none⟩ = some (.int .i64 x.phase) := hc 1 (by omega)
  clear hc h
  go_enter Tryz.func69, Tryz.ntmps69
  go_wp2_with fail
  go_ret
  exact ⟨rfl, rfl⟩

theorem isWr_in {k : Nat → Nat} {w : World} {px : Nat} {x : XVol} (hx : XVolIs k w px x) (i : Nat) (hi : i < x.wrs.length) :
    Calls Tryz.prog 68 #[.pointer (some ⟨px, 0, none⟩), .int .i64 ((i : Int) + 1)] w fun e w' => e = .returned (.bool true) ∧ w' = w := by
  obtain ⟨g, cap, hc, _⟩ := wr_open hx i hi
  have := isWriter_any w px ((i : Int) + 1) _ _ _ hc
  rwa [show (decide (1 ≤ (i : Int) + 1) && decide ((i : Int) + 1 ≤ (x.wrs.length : Int))) = true from by rw [Bool.and_eq_true]; simp; omega] at this

theorem wrs_cell {k : Nat → Nat} {w : World} {px : Nat} {x : XVol} (hx : XVolIs k w px x) : ∃ a cap, w.cell? ⟨px, 741, none⟩ = some (.slice a x.wrs.length cap) := by
  obtain ⟨vM, vW, sr, wr, hB, hM, hS, hW⟩ := hx.ex
  obtain ⟨a, cap, hv, _⟩ := hW.own.form
  rw [hW.l1] at hv
  exact ⟨a, cap, by rw [hB.cell, volCells_wr hS, hv]⟩

set_option maxRecDepth 3000 in
set_option maxHeartbeats 4000000 in
theorem xwriter_in {k : Nat → Nat} {w : World} {px : Nat} {x : XVol} (hx : XVolIs k w px x) (i : Nat) (hi : i < x.wrs.length) :
    Calls Tryz.prog 57 #[.pointer (some ⟨px, 0, none⟩), .int .i64 ((i : Int) + 1)] w fun e w' => e = .returned (.tuple #[WSt.val ⟨x.wrs[i].phase, x.wrs[i].base, x.wrs[i].next, x.wrs[i].dur⟩, .int .i64 0]) ∧ Below w.heap.size w w' := by
  have h9 : x.wrs.length ≤ 9 := by obtain ⟨_, _, _, _, _, _, _, hW⟩ := hx.ex; exact hW.l2
  obtain ⟨g, cap, q, hpl, hk, hat⟩ := wr_open hx i hi
  have HI : Hid (∀ W, Below w.heap.size w W → Calls Tryz.prog 68 #[.pointer (some ⟨px, 0, none⟩), .int .i64 ((i : Int) + 1)] W fun e w' => e = .returned (.bool true) ∧ w' = W) := hide fun W hW => isWr_in (hx.evo (Evo.of_below (C := noC) hW) (noC_not _) (fun c _ _ => noC_not c)) i hi
  have HS : Hid (∀ W, Below w.heap.size w W → Calls Tryz.prog 102 #[.pointer (some ⟨g, i * 20, none⟩)] W fun e w' => e = .returned (WSt.val ⟨x.wrs[i].phase, x.wrs[i].base, x.wrs[i].next, x.wrs[i].dur⟩) ∧ Below W.heap.size W w') := hide fun W hW => wstate_any (hat.below hW)
  have hgl := hat.lt
  have hix : (i : Int) + 1 - 1 = (i : Int) := by omega
  have hil : (i : Int) < (x.wrs.length : Int) := by omega
  unfold WSt.val at *
  generalize x.wrs[i].phase = a0 at *
  generalize x.wrs[i].base = a1 at *
  generalize x.wrs[i].next = a2 at *
  generalize x.wrs[i].dur = a3 at *
  clear hx hat
  go_enter Tryz.func57, Tryz.ntmps57
  go_wp2_with fail
  refine (HI.out _ ((Below.refl _ _).alloc (Nat.le_refl _) _)).mono ?_
  rintro e1 w1 ⟨rfl, rfl⟩
  go_wp2_with fail
  refine (HS.out _ ((Below.refl _ _).alloc (Nat.le_refl _) _)).mono ?_
  rintro e1 w1 ⟨rfl, hb1⟩
  have hs1 := hb1.size
  simp only [World.size_alloc] at hs1
  have hB1 : Below w.heap.size w w1 := ((Below.refl _ _).alloc (Nat.le_refl _) _).trans (hb1.mono (by simp))
  have bz : Blk (fun _ => 0) w1 0 w.heap.size 105 [.int .i64 0, .int .i64 0, .int .i64 0, .int .i64 0] := ⟨(hb1.block w.heap.size (by simp)).trans (heap_alloc_new w _), rfl⟩
  have zc0 : w1.cell? ⟨w.heap.size, 0, none⟩ = some (.int .i64 0) := bz.cell 0
  have zc1 : w1.cell? ⟨w.heap.size, 1, none⟩ = some (.int .i64 0) := bz.cell 1
  have zc2 : w1.cell? ⟨w.heap.size, 2, none⟩ = some (.int .i64 0) := bz.cell 2
  have zc3 : w1.cell? ⟨w.heap.size, 3, none⟩ = some (.int .i64 0) := bz.cell 3
  have zf0 := bz.free 0
  have zf1 := bz.free 1
  have zf2 := bz.free 2
  have zf3 := bz.free 3
  have zl := bz.lt
  clear bz hb1
  go_wp2_with fail
  refine bodyPost_ret (v := .tuple #[.agg #[.int .i64 a0, .int .i64 a1, .int .i64 a2, .int .i64 a3], .int .i64 0]) (by simp [results, Tryz.results57, go_sem, zc0, zc1, zc2, zc3]) rfl ⟨rfl, ?_⟩
  exact (((hB1.setCell (p := ⟨w.heap.size, 0, none⟩) (Nat.le_refl _) _).setCell (p := ⟨w.heap.size, 1, none⟩) (Nat.le_refl _) _).setCell (p := ⟨w.heap.size, 2, none⟩) (Nat.le_refl _) _).setCell (p := ⟨w.heap.size, 3, none⟩) (Nat.le_refl _) _

theorem due_ok {p : XWr} (h : XWOk p) : ∀ m ∈ p.due, MsgOk m := by
  intro m hm
  obtain ⟨s, _, hs⟩ := List.mem_filterMap.1 hm
  unfold XWr.dueTo at hs
  have hc := h.cl
  split at hs
  · split at hs
    · simp at hs
    · simp only [Option.some.injEq] at hs; subst hs; exact ⟨by simp, by simp⟩
  · split at hs
    · split at hs
      · unfold XWr.write at hs
        split at hs
        · simp at hs
        · split at hs
          · simp at hs
          · simp only [Option.some.injEq] at hs; subst hs; exact ⟨by simp, by simp⟩
      · simp only [Option.some.injEq] at hs; subst hs; exact ⟨hc, by simp⟩
    · simp at hs
theorem due_len (p : XWr) : p.due.length ≤ 6 := Nat.le_trans (List.length_filterMap_le _ _) (by simp)

set_option maxRecDepth 3000 in
set_option maxHeartbeats 4000000 in
theorem xresend_any {k : Nat → Nat} {w : World} {px : Nat} {x : XVol} (hx : XVolIs k w px x) (hok : XOk x) (n : Int) :
    Calls Tryz.prog 30 #[.pointer (some ⟨px, 0, none⟩), .int .i64 n] w fun e w' => e = .returned (.int .i64 (x.resend n).2) ∧ ∃ k', Evo k k' cXN w w' ∧ XVolIs k' w' px (x.resend n).1 := by
  have h9 : x.wrs.length ≤ 9 := by obtain ⟨_, _, _, _, _, _, _, hW⟩ := hx.ex; exact hW.l2
  by_cases hn : 1 ≤ n ∧ n ≤ (x.wrs.length : Int)
  · obtain ⟨i, hi0⟩ := Int.eq_ofNat_of_zero_le (show 0 ≤ n - 1 by omega)
    obtain rfl : n = (i : Int) + 1 := by omega
    have hi : i < x.wrs.length := by omega
    have hat0 : x.wrAt ((i : Int) + 1) = some x.wrs[i] := by unfold XVol.wrAt; rw [if_neg (by omega), show ((i : Int) + 1).toNat - 1 = i from by omega, List.getElem?_eq_getElem hi]
    obtain ⟨g, cap, q, hpl, hk, hat⟩ := wr_open hx i hi
    have hpk := hok.wk _ (List.getElem_mem hi)
    have HI := hide (isWr_in hx i hi)
    have HF := hide (fenced_any hat)
    have HD := hide (due_any hat hpk.b0 hpk.b1 hpk.nt hpk.vl hpk.nl)
    have hgl := hat.lt
    have hix : (i : Int) + 1 - 1 = (i : Int) := by omega
    have hil : (i : Int) < (x.wrs.length : Int) := by omega
    by_cases hp : x.wrs[i].phase = 4
    · have HE : Hid (x.resend ((i : Int) + 1) = (x, 4)) := hide (by unfold XVol.resend; rw [hat0]; simp [hp])
      have hp4 : (x.wrs[i].phase == 4) = true := by simp [hp]
      rw [hp4] at HF
      clear hp hp4 hat0 hn hi0 hat
      go_enter Tryz.func30, Tryz.ntmps30
      go_wp2_with fail
      refine HI.out.mono ?_
      rintro e1 w1 ⟨rfl, hw⟩
      have hw2 := hw.symm
      subst hw2
      go_wp2_with fail
      refine HF.out.mono ?_
      rintro e1 w1 ⟨rfl, hw⟩
      have hw2 := hw.symm
      subst hw2
      go_wp2_with fail
      go_ret
      exact ⟨by rw [HE.out]; rfl, k, Evo.refl _ _ _, by rw [HE.out]; exact hx⟩
    · have HE : Hid (x.resend ((i : Int) + 1) = (x.sendAll x.wrs[i].due, 0)) := hide (by unfold XVol.resend; rw [hat0]; simp [hp])
      have hp4 : (x.wrs[i].phase == 4) = false := by simp [hp]
      rw [hp4] at HF
      have HSA : Hid (∀ W v, MsgsMade k w W v x.wrs[i].due → Below w.heap.size w W → Calls Tryz.prog 66 #[.pointer (some ⟨px, 0, none⟩), v] W fun e w' => e = .returned (.tuple #[]) ∧ ∃ k', Evo k k' cXN w w' ∧ XVolIs k' w' px (x.sendAll x.wrs[i].due)) := hide fun W v hm hb => by
        obtain ⟨k1, ev1, hl⟩ := hm.is hb
        refine (xsendAll_any x.wrs[i].due (hx.evo ev1 (noC_not _) (fun c _ _ => noC_not c)) hok hl (by have := due_len x.wrs[i]; omega) (due_ok hpk)).mono ?_
        rintro e w' ⟨rfl, k2, ev2, h2⟩
        exact ⟨rfl, k2, (ev1.mono (fun _ h => h.elim)).trans ev2, h2⟩
      clear hp hp4 hat0 hn hi0 hat
      generalize x.wrs[i].due = du at *
      go_enter Tryz.func30, Tryz.ntmps30
      go_wp2_with fail
      refine HI.out.mono ?_
      rintro e1 w1 ⟨rfl, hw⟩
      have hw2 := hw.symm
      subst hw2
      go_wp2_with fail
      refine HF.out.mono ?_
      rintro e1 w1 ⟨rfl, hw⟩
      have hw2 := hw.symm
      subst hw2
      go_wp2_with fail
      refine HD.out.mono ?_
      rintro e1 w1 ⟨⟨v, rfl, hm⟩, hb1⟩
      obtain ⟨rows, hmm, _⟩ := id hm
      obtain ⟨s0, s1, s2, hs⟩ := made_shape hmm
      subst hs
      have H9 := hide (HSA.out _ _ hm hb1)
      clear hm hmm
      go_wp2_with fail
      refine H9.out.mono ?_
      rintro e1 w2 ⟨rfl, HY⟩
      have HY2 := hide HY
      clear HY
      go_wp2_with fail
      go_ret
      exact ⟨by rw [HE.out]; rfl, by rw [HE.out]; exact HY2.out⟩
  · have HE : Hid (x.resend n = (x, 3)) := hide (by
      unfold XVol.resend XVol.wrAt
      by_cases h0 : n < 1
      · rw [if_pos h0]
      · rw [if_neg h0, List.getElem?_eq_none (by omega)])
    obtain ⟨a, cap, hc⟩ := wrs_cell hx
    have hiw := isWriter_any w px n _ _ _ hc
    rw [show (decide (1 ≤ n) && decide (n ≤ (x.wrs.length : Int))) = false from by rw [Bool.and_eq_false_iff]; simp; omega] at hiw
    have HI := hide hiw
    clear hiw hn hok
    go_enter Tryz.func30, Tryz.ntmps30
    go_wp2_with fail
    refine HI.out.mono ?_
    rintro e1 w1 ⟨rfl, hw⟩
    have hw2 := hw.symm
    subst hw2
    go_wp2_with fail
    go_ret
    exact ⟨by rw [HE.out]; rfl, k, Evo.refl _ _ _, by rw [HE.out]; exact hx⟩
end Go.Proofs.YtfpbkghcjaonlaaGreat

/-
  The program: what a writer has noted.
-/
namespace Go.Proofs.YtfpbkghcjaonlaaGreat
open Go.RowKit

theorem six_of {α : Type} {l : List α} (h : l.length = 6) : ∃ a0 a1 a2 a3 a4 a5, l = [a0, a1, a2, a3, a4, a5] := by
  match l, h with
  | [a0, a1, a2, a3, a4, a5], _ => exact ⟨a0, a1, a2, a3, a4, a5, rfl⟩

theorem WrAt.noted {k : Nat → Nat} {w : World} {c b o : Nat} {x : XWr} (h : WrAt k w c b o x) : ∃ a0 a1 a2 a3 a4 a5, x.noted = [a0, a1, a2, a3, a4, a5] ∧ w.cell? ⟨b, o + 14, none⟩ = some (.int .i64 a0) ∧ w.cell? ⟨b, o + 15, none⟩ = some (.int .i64 a1) ∧ w.cell? ⟨b, o + 16, none⟩ = some (.int .i64 a2) ∧ w.cell? ⟨b, o + 17, none⟩ = some (.int .i64 a3) ∧ w.cell? ⟨b, o + 18, none⟩ = some (.int .i64 a4) ∧ w.cell? ⟨b, o + 19, none⟩ = some (.int .i64 a5) := by
  obtain ⟨n0, n1, n2, c0, c1, c2, v0, v1, v2, hc, _⟩ := h.ex
  obtain ⟨a0, a1, a2, a3, a4, a5, ha⟩ := six_of h.n6
  have f : ∀ s, s < 6 → w.cell? ⟨b, o + (14 + s), none⟩ = some (.int .i64 (x.noted.getD s 0)) := fun s hs => (hc (14 + s) (by omega)).trans (wrRow_noted x _ _ _ s hs h.h6 h.n6)
  rw [ha] at f
  exact ⟨a0, a1, a2, a3, a4, a5, ha, f 0 (by omega), f 1 (by omega), f 2 (by omega), f 3 (by omega), f 4 (by omega), f 5 (by omega)⟩

theorem run_index_six (a0 a1 a2 a3 a4 a5 : Int) (j : Nat) (hj : j < 6) (w : World) :
    (Instr.index 118 (.agg #[.int .i64 a0, .int .i64 a1, .int .i64 a2, .int .i64 a3, .int .i64 a4, .int .i64 a5]) (.int .i64 j)).run Tryz.prog w = .ok (.int .i64 (([a0, a1, a2, a3, a4, a5] : List Int)[j]'(by simpa using hj))) w := by
  cases hq : Tryz.prog.info? 3 with
  | none => have := Tryz.infoInt; rw [hq] at this; simp at this
  | some i =>
    have hs : i.size = 1 := by have := Tryz.infoInt; rw [hq] at this; simp at this; exact this.2.1
    have hc : j = 0 ∨ j = 1 ∨ j = 2 ∨ j = 3 ∨ j = 4 ∨ j = 5 := by omega
    rcases hc with rfl | rfl | rfl | rfl | rfl | rfl
    all_goals
      simp [Instr.index, asIntOf, run_underlying Tryz.underlying118, part, isAgg, run_underlying Tryz.underlying3, sizeOf, typeInfo, hq, hs]

theorem filter_take_succ (l : List Int) (p : Int → Bool) (j : Nat) (h : j < l.length) : ((l.take (j + 1)).filter p).length = ((l.take j).filter p).length + (p l[j]).toNat := by
  rw [List.take_succ_eq_append_getElem h, List.filter_append, List.length_append]
  by_cases c : p l[j] <;> simp [c]

set_option maxRecDepth 3000 in
set_option maxHeartbeats 4000000 in
theorem reaching_any {k : Nat → Nat} {w : World} {c b o : Nat} {x : XWr} (n : Int) (h : WrAt k w c b o x) :
    Calls Tryz.prog 145 #[.pointer (some ⟨b, o, none⟩), .int .i64 n] w fun e w' => e = .returned (.int .i64 (x.reaching n)) ∧ w' = w := by
  obtain ⟨a0, a1, a2, a3, a4, a5, ha, q0, q1, q2, q3, q4, q5⟩ := h.noted
  unfold XWr.reaching
  rw [ha]
  clear h ha
  go_enter Tryz.func145, Tryz.ntmps145
  go_wp2_with fail
  go_loopw [5, 12] (fun cn i wr => wr = w ∧ ∃ j : Nat, j ≤ 6 ∧ i = .int .i64 j ∧ cn = .int .i64 ((([a0, a1, a2, a3, a4, a5].take j).filter fun m => decide (n ≤ m)).length : Nat)) (fun _ i _ => 6 - (intOf i).toNat)
  case atStart => exact ⟨rfl, 0, by omega, rfl, rfl⟩
  case round =>
    obtain ⟨rfl, j, hj, rfl, rfl⟩ := hrel
    by_cases hlt : j < 6
    · have HT := hide (filter_take_succ [a0, a1, a2, a3, a4, a5] (fun m => decide (n ≤ m)) j (by simpa using hlt))
      have hcl : (([a0, a1, a2, a3, a4, a5].take j).filter fun m => decide (n ≤ m)).length ≤ 6 := Nat.le_trans (List.length_filter_le _ _) (by simp; omega)
      generalize (([a0, a1, a2, a3, a4, a5].take j).filter fun m => decide (n ≤ m)).length = cnt at *
      have hd0 : decide ((j : Int) < 6) = true := by simp; omega
      have hx := fun W => run_index_six a0 a1 a2 a3 a4 a5 j hlt W
      generalize ([a0, a1, a2, a3, a4, a5] : List Int)[j] = aj at *
      cases hd : decide (n ≤ aj)
      · rw [hd] at HT
        go_wp2_with fail
        go_roundw
        case rel => exact ⟨trivial, j + 1, by omega, by go_num, by rw [HT.out]; rfl⟩
        case measure => simp [intOf]; omega
      · rw [hd] at HT
        go_wp2_with fail
        go_roundw
        case rel => exact ⟨trivial, j + 1, by omega, by go_num, by rw [HT.out]; go_num⟩
        case measure => simp [intOf]; omega
    · have hj6 : j = 6 := by omega
      subst hj6
      go_wp2_with fail
      go_ret
      exact ⟨rfl, rfl⟩

theorem range_filter_succ (p : Nat → Bool) (j : Nat) : ((List.range (j + 1)).filter p).length = ((List.range j).filter p).length + (p j).toNat := by
  rw [List.range_succ, List.filter_append, List.length_append]
  cases c : p j <;> simp [c]

set_option maxRecDepth 3000 in
set_option maxHeartbeats 8000000 in
theorem ready_any {k : Nat → Nat} {w : World} {c b o : Nat} {x : XWr} (h : WrAt k w c b o x) :
    Calls Tryz.prog 136 #[.pointer (some ⟨b, o, none⟩)] w fun e w' => e = .returned (.bool (decide (4 ≤ x.readyN))) ∧ Below w.heap.size w w' := by
  have hbl := h.lt
  have HC : Hid (∀ s, s < 6 → ∀ W, Below w.heap.size w W → W.cell? ⟨b, o + 8 + s, none⟩ = some (.bool (x.heard.getD s false)) ∧ W.cell? ⟨b, o + 14 + s, none⟩ = some (.int .i64 (x.noted.getD s 0)) ∧ W.cell? ⟨b, o + 2, none⟩ = some (.int .i64 x.base) ∧ b < W.heap.size) := hide fun s hs W hW => by
    have h' := h.below hW
    obtain ⟨n0, n1, n2, c0, c1, c2, v0, v1, v2, hc, _⟩ := h'.ex
    have q8 := (hc (8 + s) (by omega)).trans (wrRow_heard x _ _ _ s hs h.h6)
    have q14 := (hc (14 + s) (by omega)).trans (wrRow_noted x _ _ _ s hs h.h6 h.n6)
    rw [← Nat.add_assoc] at q8 q14
    exact ⟨q8, q14, hc 2 (by omega), h'.lt⟩
  clear h
  unfold XWr.readyN
  obtain ⟨R, hR⟩ : ∃ R, R = decide (4 ≤ ((List.range 6).filter fun s => x.heard.getD s false && decide (x.base ≤ x.noted.getD s 0)).length) := ⟨_, rfl⟩
  rw [← hR]
  have HR := hide hR
  clear hR
  go_enter Tryz.func136, Tryz.ntmps136
  go_wp2_with fail
  go_loopw [3, 4] (fun cn i wr => Below w.heap.size w wr ∧ ∃ j : Nat, j ≤ 6 ∧ i = .int .i64 j ∧ cn = .int .i64 (((List.range j).filter fun s => x.heard.getD s false && decide (x.base ≤ x.noted.getD s 0)).length : Nat)) (fun _ i _ => 6 - (intOf i).toNat)
  case atStart => exact ⟨Below.refl _ _, 0, by omega, rfl, rfl⟩
  case round =>
    obtain ⟨hB, j, hj, rfl, rfl⟩ := hrel
    by_cases hlt : j < 6
    · have hd0 : decide ((j : Int) < 6) = true := by simp; omega
      have hj6 : (j : Int) < 6 := by omega
      obtain ⟨q8, q14, q2, hbl2⟩ := HC.out j hlt wr hB
      have HT := hide (range_filter_succ (fun s => x.heard.getD s false && decide (x.base ≤ x.noted.getD s 0)) j)
      have hcl : ((List.range j).filter fun s => x.heard.getD s false && decide (x.base ≤ x.noted.getD s 0)).length ≤ 6 := Nat.le_trans (List.length_filter_le _ _) (by simp; omega)
      generalize ((List.range j).filter fun s => x.heard.getD s false && decide (x.base ≤ x.noted.getD s 0)).length = cnt at *
      generalize x.heard.getD j false = hj0 at *
      generalize x.noted.getD j 0 = nj at *
      cases hj0
      · go_wp2_with fail
        go_quiet (fail)
        go_wp2_with fail
        go_roundw
        case rel => exact ⟨below_drewN hB _, j + 1, by omega, by go_num, by rw [HT.out]; rfl⟩
        case measure => simp [intOf]; omega
      · cases hd : decide (x.base ≤ nj)
        · rw [hd] at HT
          go_wp2_with fail
          go_quiet (fail)
          go_wp2_with fail
          go_roundw
          case rel => exact ⟨below_drewN hB _, j + 1, by omega, by go_num, by rw [HT.out]; rfl⟩
          case measure => simp [intOf]; omega
        · rw [hd] at HT
          go_wp2_with fail
          go_quiet (fail)
          go_wp2_with fail
          go_roundw
          case rel => exact ⟨below_drewN hB _, j + 1, by omega, by go_num, by rw [HT.out]; go_num⟩
          case measure => simp [intOf]; omega
    · have hj6 : j = 6 := by omega
      subst hj6
      have HR2 : Hid (R = decide ((4 : Int) ≤ ((((List.range 6).filter fun s => x.heard.getD s false && decide (x.base ≤ x.noted.getD s 0)).length : Nat) : Int))) := hide (by rw [HR.out]; simp only [decide_eq_decide]; omega)
      generalize ((List.range 6).filter fun s => x.heard.getD s false && decide (x.base ≤ x.noted.getD s 0)).length = cnt at *
      go_wp2_with fail
      go_ret
      exact ⟨by rw [HR2.out]; rfl, hB⟩

theorem agreed_take (x : XWr) (j : Nat) (h : j < x.noted.length) : (x.noted.take (j + 1)).foldl (agreedStep x) 0 = agreedStep x ((x.noted.take j).foldl (agreedStep x) 0) x.noted[j] := by
  rw [List.take_succ_eq_append_getElem h, List.foldl_append]; rfl

set_option maxRecDepth 3000 in
set_option maxHeartbeats 8000000 in
theorem agreed_any {k : Nat → Nat} {w : World} {c b o : Nat} {x : XWr} (h : WrAt k w c b o x) :
    Calls Tryz.prog 137 #[.pointer (some ⟨b, o, none⟩)] w fun e w' => e = .returned (.int .i64 x.agreed) ∧ w' = w := by
  have HRe := hide (fun n => reaching_any n h)
  have h6 : x.noted.length = 6 := h.n6
  obtain ⟨a0, a1, a2, a3, a4, a5, ha, q0, q1, q2, q3, q4, q5⟩ := h.noted
  have hbl := h.lt
  have HTk := hide (fun j (hj : j < x.noted.length) => agreed_take x j hj)
  have HA := hide ha
  have hx := fun j (hj : j < 6) W => run_index_six a0 a1 a2 a3 a4 a5 j hj W
  obtain ⟨r, hr⟩ : ∃ r, r = x.agreed := ⟨_, rfl⟩
  rw [← hr]
  have HR := hide hr
  have HX := hide hx
  clear h ha hr hx
  go_enter Tryz.func137, Tryz.ntmps137
  go_wp2_with fail
  go_loopw [3, 10] (fun bs i wr => wr = w ∧ ∃ j : Nat, j ≤ 6 ∧ i = .int .i64 j ∧ bs = .int .i64 ((x.noted.take j).foldl (agreedStep x) 0)) (fun _ i _ => 6 - (intOf i).toNat)
  case atStart => exact ⟨rfl, 0, by omega, rfl, rfl⟩
  case round =>
    obtain ⟨rfl, j, hj, rfl, rfl⟩ := hrel
    by_cases hlt : j < 6
    · have hd0 : decide ((j : Int) < 6) = true := by simp; omega
      have hx := HX.out j hlt
      have HT := hide (HTk.out j (by omega))
      have HJ : Hid (x.noted[j]'(by omega) = ([a0, a1, a2, a3, a4, a5] : List Int)[j]'(by simpa using hlt)) := hide (by simp only [HA.out])
      have HT2 : Hid ((x.noted.take (j + 1)).foldl (agreedStep x) 0 = agreedStep x ((x.noted.take j).foldl (agreedStep x) 0) (([a0, a1, a2, a3, a4, a5] : List Int)[j]'(by simpa using hlt))) := hide (by rw [← HJ.out]; exact HT.out)
      clear HT HJ
      have HRj := hide (HRe.out (([a0, a1, a2, a3, a4, a5] : List Int)[j]'(by simpa using hlt)))
      generalize (x.noted.take j).foldl (agreedStep x) 0 = bs at *
      generalize ([a0, a1, a2, a3, a4, a5] : List Int)[j]'(by simpa using hlt) = aj at *
      unfold agreedStep at HT2
      by_cases hb : bs < aj
      · have hd1 : decide (bs < aj) = true := by simpa using hb
        by_cases h4 : 4 ≤ x.reaching aj
        · have HE : Hid ((x.noted.take (j + 1)).foldl (fun b n => if b < n ∧ 4 ≤ x.reaching n then n else b) 0 = aj) := hide (by rw [HT2.out, if_pos ⟨hb, h4⟩])
          have hd4 : decide ((4 : Int) ≤ (x.reaching aj : Int)) = true := by simp; omega
          generalize x.reaching aj = ra at *
          go_wp2_with fail
          refine HRj.out.mono ?_
          rintro e1 w1 ⟨rfl, hw⟩
          have hw2 := hw.symm
          subst hw2
          go_wp2_with fail
          go_roundw
          case rel => exact ⟨trivial, j + 1, by omega, by go_num, by unfold agreedStep; rw [HE.out]⟩
          case measure => simp [intOf]; omega
        · have HE : Hid ((x.noted.take (j + 1)).foldl (fun b n => if b < n ∧ 4 ≤ x.reaching n then n else b) 0 = bs) := hide (by rw [HT2.out, if_neg (fun h => h4 h.2)])
          have hd4 : decide ((4 : Int) ≤ (x.reaching aj : Int)) = false := by simp; omega
          generalize x.reaching aj = ra at *
          go_wp2_with fail
          refine HRj.out.mono ?_
          rintro e1 w1 ⟨rfl, hw⟩
          have hw2 := hw.symm
          subst hw2
          go_wp2_with fail
          go_roundw
          case rel => exact ⟨trivial, j + 1, by omega, by go_num, by unfold agreedStep; rw [HE.out]⟩
          case measure => simp [intOf]; omega
      · have HE : Hid ((x.noted.take (j + 1)).foldl (fun b n => if b < n ∧ 4 ≤ x.reaching n then n else b) 0 = bs) := hide (by rw [HT2.out, if_neg (fun h => hb h.1)])
        have hd1 : decide (bs < aj) = false := by simpa using hb
        go_wp2_with fail
        go_roundw
        case rel => exact ⟨trivial, j + 1, by omega, by go_num, by unfold agreedStep; rw [HE.out]⟩
        case measure => simp [intOf]; omega
    · have hj6 : j = 6 := by omega
      have HE : Hid (r = (x.noted.take j).foldl (agreedStep x) 0) := hide (by rw [HR.out, hj6, ← h6, List.take_length]; rfl)
      have hd0 : decide ((j : Int) < 6) = false := by simp; omega
      generalize (x.noted.take j).foldl (agreedStep x) 0 = bs at *
      clear hj6
      go_wp2_with fail
      go_ret
      exact ⟨by rw [HE.out]; rfl, rfl⟩
end Go.Proofs.YtfpbkghcjaonlaaGreat

/-
  The program: a writer is written.
-/
namespace Go.Proofs.YtfpbkghcjaonlaaGreat
open Go.RowKit

/-- A writer that may be written: row i of the writers' array. -/
structure WrW (k : Nat → Nat) (w : World) (g n cap : Nat) (wrows : List (List Value)) (i : Nat) (x : XWr) (vN vC vV : Value) : Prop where
  own : Rows k w cXW 120 20 (.slice (some ⟨g, 0, none⟩) n cap) wrows
  hi : i < wrows.length
  row : wrows[i] = wrRow x vN vC vV
  h6 : x.heard.length = 6
  n6 : x.noted.length = 6

theorem WrW.facts {k : Nat → Nat} {w : World} {g n cap i : Nat} {wrows : List (List Value)} {x : XWr} {vN vC vV : Value} (h : WrW k w g n cap wrows i x vN vC vV) :
    k g = cXW ∧ g < w.heap.size ∧ (∀ j, j < 20 → w.cell? ⟨g, i * 20 + j, none⟩ = (wrRow x vN vC vV)[j]?) ∧ ∀ j, w.frozen? ⟨g, j, none⟩ = false := by
  have hi := h.hi
  obtain ⟨b, cap', hv, hk, hl, _, hc, hf⟩ := h.own.at (by omega)
  simp only [Value.slice.injEq, Option.some.injEq, Addr.mk.injEq, and_true] at hv
  obtain ⟨rfl, -, -⟩ := hv
  exact ⟨hk, hl, fun j hj => by rw [hc i j hi hj, h.row], hf⟩

/-- One cell of it is written. -/
theorem WrW.set {k : Nat → Nat} {w : World} {g n cap i : Nat} {wrows : List (List Value)} {x x' : XWr} {vN vC vV vN' vC' vV' : Value} (h : WrW k w g n cap wrows i x vN vC vV) (j : Nat) (hj : j < 20) (v : Value)
    (hr : (wrRow x vN vC vV).set j v = wrRow x' vN' vC' vV') (h6 : x'.heard.length = 6) (n6 : x'.noted.length = 6) : WrW k (w.setCell ⟨g, i * 20 + j, none⟩ v) g n cap (wrows.set i (wrRow x' vN' vC' vV')) i x' vN' vC' vV' := by
  have hs := h.own.set i j h.hi hj v
  rw [h.row, hr] at hs
  exact ⟨hs, by simpa using h.hi, by simp, h6, n6⟩

theorem WrW.evo {k k' : Nat → Nat} {w w' : World} {g n cap i : Nat} {wrows : List (List Value)} {x : XWr} {vN vC vV : Value} {C : Nat → Prop} (h : WrW k w g n cap wrows i x vN vC vV) (ev : Evo k k' C w w') (hc : ¬ C cXW) : WrW k' w' g n cap wrows i x vN vC vV :=
  ⟨h.own.evo ev hc, h.hi, h.row, h.h6, h.n6⟩

set_option maxRecDepth 3000 in
set_option maxHeartbeats 4000000 in
theorem stop_any {k : Nat → Nat} {w : World} {g n cap i : Nat} {wrows : List (List Value)} {x : XWr} {vN vC vV : Value} (h : WrW k w g n cap wrows i x vN vC vV) :
    Calls Tryz.prog 80 #[.pointer (some ⟨g, i * 20, none⟩)] w fun e w' => e = .returned (.tuple #[]) ∧ Evo k k (fun c => c = cXW) w w' ∧ WrW k w' g n cap (wrows.set i (wrRow x.stop (.slice none 0 0) (.slice none 0 0) (.slice none 0 0))) i x.stop (.slice none 0 0) (.slice none 0 0) (.slice none 0 0) := by
  obtain ⟨hk, hl, hc, hf⟩ := h.facts
  have q1 : w.cell? ⟨g, i * 20 + 1, none⟩ = some (.int .i64 x.phase) := hc 1 (by omega)
  have q5 : w.cell? ⟨g, i * 20 + 5, none⟩ = some vN := hc 5 (by omega)
  have q6 : w.cell? ⟨g, i * 20 + 6, none⟩ = some vC := hc 6 (by omega)
  have q7 : w.cell? ⟨g, i * 20 + 7, none⟩ = some vV := hc 7 (by omega)
  have f1 := hf (i * 20 + 1)
  have f5 := hf (i * 20 + 5)
  have f6 := hf (i * 20 + 6)
  have f7 := hf (i * 20 + 7)
  have s1 := h.set (x' := { x with phase := 4 }) 1 (by omega) (.int .i64 4) rfl h.h6 h.n6
  have s2 := s1.set (x' := { x with phase := 4, notes := [] }) (vN' := .slice none 0 0) 5 (by omega) (.slice none 0 0) rfl h.h6 h.n6
  have s3 := s2.set (x' := { x with phase := 4, notes := [], cuts := [] }) (vC' := .slice none 0 0) 6 (by omega) (.slice none 0 0) rfl h.h6 h.n6
  have s4 := s3.set (x' := x.stop) (vV' := .slice none 0 0) 7 (by omega) (.slice none 0 0) rfl h.h6 h.n6
  simp only [List.set_set] at s4
  have ev := ((((Evo.refl k (fun c => c = cXW) w).setCell ⟨g, i * 20 + 1, none⟩ (.int .i64 4) (fun _ => hk)).setCell ⟨g, i * 20 + 5, none⟩ (.slice none 0 0) (fun _ => hk)).setCell ⟨g, i * 20 + 6, none⟩ (.slice none 0 0) (fun _ => hk)).setCell ⟨g, i * 20 + 7, none⟩ (.slice none 0 0) (fun _ => hk)
  have H4 := hide (And.intro ev s4)
  clear hc hf s1 s2 s3 s4 ev h
  go_enter Tryz.func80, Tryz.ntmps80
  go_wp2_with fail
  go_end0
  exact ⟨rfl, H4.out⟩

/-- A writer of the volume, to be written, and back. -/
theorem wr_write {k : Nat → Nat} {w : World} {px : Nat} {x : XVol} (hx : XVolIs k w px x) (i : Nat) (hi : i < x.wrs.length) :
    ∃ g cap wrows vN vC vV, w.cell? ⟨px, 741, none⟩ = some (.slice (some ⟨g, 0, none⟩) x.wrs.length cap) ∧ px < w.heap.size ∧ WrW k w g x.wrs.length cap wrows i x.wrs[i] vN vC vV ∧
      NotesIs k w (cWr i) vN x.wrs[i].notes ∧ CutsIm k w vC x.wrs[i].cuts ∧ Rows k w (cWr i + 1) 3 1 vV (x.wrs[i].values.map intRow) ∧
      ∀ k' w' (C : Nat → Prop) x' vN' vC' vV', Evo k k' C w w' → (∀ c, C c → c = cXW ∨ c = cWr i ∨ c = cWr i + 1) → WrW k' w' g x.wrs.length cap (wrows.set i (wrRow x' vN' vC' vV')) i x' vN' vC' vV' → NotesIs k' w' (cWr i) vN' x'.notes → CutsIm k' w' vC' x'.cuts → Rows k' w' (cWr i + 1) 3 1 vV' (x'.values.map intRow) → XVolIs k' w' px (x.setWr i x') := by
  obtain ⟨vM, vW, sr, wr, hB, hM, hS, hW⟩ := hx.ex
  have l1 := hW.l1
  have l2 := hW.l2
  have hiw : i < wr.length := by omega
  obtain ⟨g, cap, hv, hk, hl, hc, hcell, hf⟩ := hW.own.at (by omega)
  rw [l1] at hv
  subst hv
  have hw := hW.all i hiw hi
  obtain ⟨vN, vC, vV, hr, hN, hC, hV⟩ := hw.ex
  refine ⟨g, cap, wr, vN, vC, vV, by rw [hB.cell, volCells_wr hS], hB.lt, ⟨hW.own, hiw, hr, hw.h6, hw.n6⟩, hN, hC, hV, ?_⟩
  intro k' w' C x' vN' vC' vV' ev hCc hW' hN' hC' hV'
  have hno : ∀ c, c ≠ cXW → c ≠ cWr i → c ≠ cWr i + 1 → ¬ C c := fun c a b d h => by rcases hCc c h with h | h | h <;> contradiction
  have him : ¬ C IM := hno IM (by decide) (by unfold IM cWr; omega) (by unfold IM cWr; omega)
  refine ⟨vM, _, sr, wr.set i (wrRow x' vN' vC' vV'), hB.evo ev (hno cX (by decide) (by unfold cX cWr; omega) (by unfold cX cWr; omega)), hM.evo ev (hno cXM (by decide) (by unfold cXM cWr; omega) (by unfold cXM cWr; omega)) him, hS.evo ev him, ⟨hW'.own, ?_, ?_, ?_⟩⟩
  · simp [XVol.setWr, l1]
  · simpa [XVol.setWr] using l2
  · intro j h1 h2
    simp only [XVol.setWr, List.length_set] at h1 h2
    show WrIs k' w' (cWr j) ((x.wrs.set i x')[j]'(by simpa using h2)) _
    rw [List.getElem_set, List.getElem_set]
    by_cases e : i = j
    · subst e
      rw [if_pos rfl, if_pos rfl]
      exact ⟨⟨vN', vC', vV', rfl, hN', hC', hV'⟩, hW'.h6, hW'.n6⟩
    · rw [if_neg e, if_neg e]
      exact (hW.all j h1 (by omega)).evo ev him (hno _ (by unfold cWr cXW; omega) (by unfold cWr; omega) (by unfold cWr; omega)) (hno _ (by unfold cWr cXW; omega) (by unfold cWr; omega) (by unfold cWr; omega))
end Go.Proofs.YtfpbkghcjaonlaaGreat
