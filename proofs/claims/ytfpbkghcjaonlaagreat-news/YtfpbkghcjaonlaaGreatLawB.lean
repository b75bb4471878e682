/-
  sixfoldlaw: looks.
-/
import Derived.Test.YtfpbkghcjaonlaaGreatLawA
namespace Go.Proofs.YtfpbkghcjaonlaaGreat
open Go.RowKit

theorem cells2 {w : World} {b e : Nat} {c0 c1 : Value} (h : w.heap[b]? = some (.cells #[c0, c1] e (0, 0))) : w.cell? ⟨b, 0, none⟩ = some c0 ∧ w.cell? ⟨b, 1, none⟩ = some c1 := by
  refine ⟨?_, ?_⟩
  all_goals (rw [cell_of_row _ _ _ _ _ _ h]; rfl)

set_option maxHeartbeats 4000000 in
theorem looks_any {k : Nat → Nat} {w : World} {L : Nat → Prop} {b px py nC nR nI : Nat} (h : LawIs k w L b px py nC nR nI) (hC : nC ≤ 4000000000) (hR : nR ≤ 4000000000) (hI : nI ≤ 4000000000) :
    Calls Tryz.prog 11 #[.pointer (some ⟨b, 0, none⟩)] w fun e w' => e = .returned (.bool true) ∧ Below w.heap.size w w' := by
  obtain ⟨vC, vR, vI, hB, oC, oR, oI⟩ := h.ex
  have hbl := hB.lt
  obtain ⟨aC, cC, rfl, hoC⟩ := outs_cells oC
  obtain ⟨aR, cR, rfl, hoR⟩ := outs_cells oR
  obtain ⟨aI, cI, rfl, hoI⟩ := outs_cells oI
  have z2 : w.cell? ⟨b, 2, none⟩ = _ := hB.cell 2
  have z3 : w.cell? ⟨b, 3, none⟩ = _ := hB.cell 3
  have z4 : w.cell? ⟨b, 4, none⟩ = _ := hB.cell 4
  simp only [List.getElem?_cons_zero, List.getElem?_cons_succ] at z2 z3 z4
  clear hB oC oR oI h
  go_enter Tryz.func11, Tryz.ntmps11
  go_wp2
  go_loopw [3] (fun i wr => Below w.heap.size w wr ∧ ∃ j : Nat, j ≤ nC ∧ i = .int .i64 j) (fun i _ => nC - (intOf i).toNat)
  case atStart => exact ⟨Below.refl _ _, 0, Nat.zero_le _, rfl⟩
  case round =>
    obtain ⟨hBw, j, hj, rfl⟩ := hrel
    have hsz := hBw.size
    have y2 := (hBw.cell (p := ⟨b, 2, none⟩) hbl).trans z2
    by_cases hlt : j < nC
    · have hd : decide ((j : Int) < (nC : Int)) = true := by simp; omega
      obtain ⟨g, x, m, len, c2, rfl, p0, p1, hm, hlen, hx⟩ := hoC j hlt
      have hgl := World.block_lt_of_cell? w _ p0
      have q0 := (hBw.cell (p := ⟨g, j * 2, none⟩) hgl).trans p0
      have q1 := (hBw.cell (p := ⟨g, j * 2 + 1, none⟩) hgl).trans p1
      obtain ⟨xa, xc, rfl, hxc⟩ := marks_cells hx
      clear hx p0 p1
      obtain ⟨W1, hW1⟩ : ∃ W1, W1 = wr := ⟨_, rfl⟩
      subst hW1
      go_wp2_with fail
      go_loopw [5] (fun i wz => Below w.heap.size w wz ∧ (∃ n : Nat, n ≤ len ∧ i = .int .i64 n) ∧ Hid (wz.heap[W1.heap.size]? = some (.cells #[.slice xa len xc, .int .i64 m] 51 (0, 0)))) (fun i _ => len - (intOf i).toNat)
      case atStart => exact ⟨hBw.alloc hsz _, ⟨0, Nat.zero_le _, rfl⟩, hide (heap_alloc_new W1 _)⟩
      case round =>
        obtain ⟨hBz, ⟨n, hn, rfl⟩, hO⟩ := hrel
        have hsz2 := hBz.size
        obtain ⟨o0, o1⟩ := cells2 hO.out
        have hol := (Array.getElem?_eq_some_iff.1 hO.out).1
        by_cases hln : n < len
        · obtain ⟨g2, rfl, hcells⟩ := hxc n hln
          have r0 := hcells 0 (by omega)
          have r1 := hcells 1 (by omega)
          have hg2 : g2 < w.heap.size := World.block_lt_of_cell? w _ r0
          have s0 := (hBz.cell (p := ⟨g2, n * 2 + 0, none⟩) hg2).trans r0
          have s1 := (hBz.cell (p := ⟨g2, n * 2 + 1, none⟩) hg2).trans r1
          simp only [cutMk, List.getElem?_cons_zero, List.getElem?_cons_succ, Nat.add_zero] at s0 s1
          clear hcells r0 r1
          have hg3 : g2 < wr.heap.size := by omega
          have HK : Hid (∀ W, Calls Tryz.prog 19 #[.int .i64 m] W fun e w' => e = .returned (.agg #[.int .i64 (-1 - (m : Int)), .int .i64 (-1)]) ∧ Below W.heap.size W w') := hide fun W => cutMark_any W m (by omega)
          go_wp2_with fail
          go_region_held3 (fun w' => w'.cell? ⟨W1.heap.size, 0, none⟩ = some (.slice (some ⟨g2, 0, none⟩) len xc) ∧ w'.cell? ⟨W1.heap.size, 1, none⟩ = some (.int .i64 m) ∧ w'.cell? ⟨g2, n * 2, none⟩ = some (.int .i64 (-1 - (m : Int))) ∧ w'.cell? ⟨g2, n * 2 + 1, none⟩ = some (.int .i64 (-1))) (first | go_keep | (refine ⟨?_, ?_, ?_, ?_⟩ <;> assumption))
            (first | (go_at_call 19; refine (HK.out _).mono ?_; rintro e1 w1 ⟨rfl, hb1⟩; have t0 := (hb1.cell (p := ⟨W1.heap.size, 0, none⟩) hol).trans o0; have t1 := (hb1.cell (p := ⟨W1.heap.size, 1, none⟩) hol).trans o1; have u0 := (hb1.cell (p := ⟨g2, n * 2, none⟩) hg3).trans s0; have u1 := (hb1.cell (p := ⟨g2, n * 2 + 1, none⟩) hg3).trans s1))
          go_wp2_with fail
          go_roundw
          case rel => exact ⟨hBz.drew.trans (hb1.mono hsz2), ⟨n + 1, by omega, by go_num⟩, hide ((hb1.block _ hol).trans hO.out)⟩
          case measure => simp [intOf]; omega
        · go_wp2_with fail
          go_roundw
          case rel => exact ⟨hBz, j + 1, by omega, by go_num⟩
          case measure => simp [intOf]; omega
    · have hd : decide ((j : Int) < (nC : Int)) = false := by simp; omega
      go_wp2_with fail
      go_loopw [6] (fun i wr => Below w.heap.size w wr ∧ ∃ j : Nat, j ≤ nR ∧ i = .int .i64 j) (fun i _ => nR - (intOf i).toNat)
      case atStart => exact ⟨hBw, 0, Nat.zero_le _, rfl⟩
      case round =>
        obtain ⟨hBw, j, hj, rfl⟩ := hrel
        have hsz := hBw.size
        have y2 := (hBw.cell (p := ⟨b, 3, none⟩) hbl).trans z3
        by_cases hlt : j < nR
        · have hd : decide ((j : Int) < (nR : Int)) = true := by simp; omega
          obtain ⟨g, x, m, len, c2, rfl, p0, p1, hm, hlen, hx⟩ := hoR j hlt
          have hgl := World.block_lt_of_cell? w _ p0
          have q0 := (hBw.cell (p := ⟨g, j * 2, none⟩) hgl).trans p0
          have q1 := (hBw.cell (p := ⟨g, j * 2 + 1, none⟩) hgl).trans p1
          obtain ⟨xa, xc, rfl, hxc⟩ := marks_cells hx
          clear hx p0 p1
          obtain ⟨W1, hW1⟩ : ∃ W1, W1 = wr := ⟨_, rfl⟩
          subst hW1
          go_wp2_with fail
          go_loopw [8] (fun i wz => Below w.heap.size w wz ∧ (∃ n : Nat, n ≤ len ∧ i = .int .i64 n) ∧ Hid (wz.heap[W1.heap.size]? = some (.cells #[.slice xa len xc, .int .i64 m] 57 (0, 0)))) (fun i _ => len - (intOf i).toNat)
          case atStart => exact ⟨hBw.alloc hsz _, ⟨0, Nat.zero_le _, rfl⟩, hide (heap_alloc_new W1 _)⟩
          case round =>
            obtain ⟨hBz, ⟨n, hn, rfl⟩, hO⟩ := hrel
            have hsz2 := hBz.size
            obtain ⟨o0, o1⟩ := cells2 hO.out
            have hol := (Array.getElem?_eq_some_iff.1 hO.out).1
            by_cases hln : n < len
            · obtain ⟨g2, rfl, hcells⟩ := hxc n hln
              have r0 := hcells 0 (by omega)
              have r1 := hcells 1 (by omega)
              have r2 := hcells 2 (by omega)
              have hg2 : g2 < w.heap.size := World.block_lt_of_cell? w _ r0
              have s0 := (hBz.cell (p := ⟨g2, n * 3 + 0, none⟩) hg2).trans r0
              have s1 := (hBz.cell (p := ⟨g2, n * 3 + 1, none⟩) hg2).trans r1
              have s2 := (hBz.cell (p := ⟨g2, n * 3 + 2, none⟩) hg2).trans r2
              simp only [recMk, List.getElem?_cons_zero, List.getElem?_cons_succ, Nat.add_zero] at s0 s1 s2
              clear hcells r0 r1 r2
              have hg3 : g2 < wr.heap.size := by omega
              have HK : Hid (∀ W, Calls Tryz.prog 20 #[.int .i64 m] W fun e w' => e = .returned (.agg #[.int .i64 (-1 - (m : Int)), .int .i64 (-1), .int .i64 (-1)]) ∧ Below W.heap.size W w') := hide fun W => recordMark_any W m (by omega)
              go_wp2_with fail
              go_region_held3 (fun w' => w'.cell? ⟨W1.heap.size, 0, none⟩ = some (.slice (some ⟨g2, 0, none⟩) len xc) ∧ w'.cell? ⟨W1.heap.size, 1, none⟩ = some (.int .i64 m) ∧ w'.cell? ⟨g2, n * 3, none⟩ = some (.int .i64 (-1 - (m : Int))) ∧ w'.cell? ⟨g2, n * 3 + 1, none⟩ = some (.int .i64 (-1)) ∧ w'.cell? ⟨g2, n * 3 + 2, none⟩ = some (.int .i64 (-1))) (first | go_keep | (refine ⟨?_, ?_, ?_, ?_, ?_⟩ <;> assumption))
                (first | (go_at_call 20; refine (HK.out _).mono ?_; rintro e1 w1 ⟨rfl, hb1⟩; have t0 := (hb1.cell (p := ⟨W1.heap.size, 0, none⟩) hol).trans o0; have t1 := (hb1.cell (p := ⟨W1.heap.size, 1, none⟩) hol).trans o1; have u0 := (hb1.cell (p := ⟨g2, n * 3, none⟩) hg3).trans s0; have u1 := (hb1.cell (p := ⟨g2, n * 3 + 1, none⟩) hg3).trans s1; have u2 := (hb1.cell (p := ⟨g2, n * 3 + 2, none⟩) hg3).trans s2))
              go_wp2_with fail
              go_roundw
              case rel => exact ⟨hBz.drew.trans (hb1.mono hsz2), ⟨n + 1, by omega, by go_num⟩, hide ((hb1.block _ hol).trans hO.out)⟩
              case measure => simp [intOf]; omega
            · go_wp2_with fail
              go_roundw
              case rel => exact ⟨hBz, j + 1, by omega, by go_num⟩
              case measure => simp [intOf]; omega
        · have hd : decide ((j : Int) < (nR : Int)) = false := by simp; omega
          go_wp2_with fail
          go_loopw [9] (fun i wr => Below w.heap.size w wr ∧ ∃ j : Nat, j ≤ nI ∧ i = .int .i64 j) (fun i _ => nI - (intOf i).toNat)
          case atStart => exact ⟨hBw, 0, Nat.zero_le _, rfl⟩
          case round =>
            obtain ⟨hBw, j, hj, rfl⟩ := hrel
            have hsz := hBw.size
            have y2 := (hBw.cell (p := ⟨b, 4, none⟩) hbl).trans z4
            by_cases hlt : j < nI
            · have hd : decide ((j : Int) < (nI : Int)) = true := by simp; omega
              obtain ⟨g, x, m, len, c2, rfl, p0, p1, hm, hlen, hx⟩ := hoI j hlt
              have hgl := World.block_lt_of_cell? w _ p0
              have q0 := (hBw.cell (p := ⟨g, j * 2, none⟩) hgl).trans p0
              have q1 := (hBw.cell (p := ⟨g, j * 2 + 1, none⟩) hgl).trans p1
              obtain ⟨xa, xc, rfl, hxc⟩ := marks_cells hx
              clear hx p0 p1
              obtain ⟨W1, hW1⟩ : ∃ W1, W1 = wr := ⟨_, rfl⟩
              subst hW1
              go_wp2_with fail
              go_loopw [11] (fun i wz => Below w.heap.size w wz ∧ (∃ n : Nat, n ≤ len ∧ i = .int .i64 n) ∧ Hid (wz.heap[W1.heap.size]? = some (.cells #[.slice xa len xc, .int .i64 m] 63 (0, 0)))) (fun i _ => len - (intOf i).toNat)
              case atStart => exact ⟨hBw.alloc hsz _, ⟨0, Nat.zero_le _, rfl⟩, hide (heap_alloc_new W1 _)⟩
              case round =>
                obtain ⟨hBz, ⟨n, hn, rfl⟩, hO⟩ := hrel
                have hsz2 := hBz.size
                obtain ⟨o0, o1⟩ := cells2 hO.out
                have hol := (Array.getElem?_eq_some_iff.1 hO.out).1
                by_cases hln : n < len
                · obtain ⟨g2, rfl, hcells⟩ := hxc n hln
                  have r0 := hcells 0 (by omega)
                  have hg2 : g2 < w.heap.size := World.block_lt_of_cell? w _ r0
                  have s0 := (hBz.cell (p := ⟨g2, n * 1 + 0, none⟩) hg2).trans r0
                  simp only [intMk, List.getElem?_cons_zero, Nat.mul_one, Nat.add_zero] at s0
                  clear hcells r0
                  have hg3 : g2 < wr.heap.size := by omega
                  go_wp2_with fail
                  go_quiet (fail)
                  go_wp2_with fail
                  go_roundw
                  case rel => exact ⟨below_drewN hBz _, ⟨n + 1, by omega, by go_num⟩, hide hO.out⟩
                  case measure => simp [intOf]; omega
                · go_wp2_with fail
                  go_roundw
                  case rel => exact ⟨hBz, j + 1, by omega, by go_num⟩
                  case measure => simp [intOf]; omega
            · have hd : decide ((j : Int) < (nI : Int)) = false := by simp; omega
              go_wp2_with fail
              go_ret
              exact ⟨rfl, hBw⟩
end Go.Proofs.YtfpbkghcjaonlaaGreat
