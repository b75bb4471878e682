/-
  sixfoldlaw: last.
-/
import Derived.Test.YtfpbkghcjaonlaaGreatLawI
namespace Go.Proofs.YtfpbkghcjaonlaaGreat
open Go.RowKit

/-- Both sides answer alike, whatever is asked. -/
structure Sides (px py : Nat) (w : World) (fl : Nat) : Prop where
  seg : ∀ n : Int, -1 ≤ n → n ≤ 6 → ∃ d : SegD, d.cuts.length ≤ 4000000000 ∧ d.kept.length ≤ 4000000000 ∧ d.buf.length ≤ 4000000000 ∧
    (∀ W, Below w.heap.size w W → Calls Tryz.prog 51 #[.pointer (some ⟨px, 0, none⟩), .int .i64 n] W fun e w' => (∃ v, e = .returned v ∧ XAns W.heap.size w' d v) ∧ Below W.heap.size W w') ∧
    (∀ W, Below w.heap.size w W → Calls Tryz.prog 52 #[.pointer (some ⟨py, 0, none⟩), .int .i64 n] W fun e w' => (∃ v, e = .returned v ∧ YAns w' d v) ∧ Below W.heap.size W w')
  wr : ∀ n : Int, 0 ≤ n → n ≤ 10 → ∃ (s : WSt) (err : Int),
    (Calls Tryz.prog 57 #[.pointer (some ⟨px, 0, none⟩), .int .i64 n] w fun e w' => e = .returned (.tuple #[s.val, .int .i64 err]) ∧ Below w.heap.size w w') ∧
    (∀ W, Below w.heap.size w W → Calls Tryz.prog 58 #[.pointer (some ⟨py, 0, none⟩), .int .i64 n] W fun e w' => e = .returned (.tuple #[s.val, .int .i64 err]) ∧ Below W.heap.size W w')
  msg : ∀ n : Int, -1 ≤ n → n ≤ fl → ∃ (err : Int) (m : Msg), m.cuts.length ≤ 4000000000 ∧ m.marks.length ≤ 4000000000 ∧
    (∀ W, Below w.heap.size w W → Calls Tryz.prog 59 #[.pointer (some ⟨px, 0, none⟩), .int .i64 n] W fun e w' => (∃ v, e = .returned v ∧ XMsg W.heap.size w' err m v) ∧ Below W.heap.size W w') ∧
    (∀ W, Below w.heap.size w W → Calls Tryz.prog 60 #[.pointer (some ⟨py, 0, none⟩), .int .i64 n] W fun e w' => (∃ v, e = .returned v ∧ YMsg w' err m v) ∧ Below W.heap.size W w')
  fx : Calls Tryz.prog 63 #[.pointer (some ⟨px, 0, none⟩)] w fun e w' => e = .returned (.int .i64 fl) ∧ w' = w
  fy : Calls Tryz.prog 23 #[.pointer (some ⟨py, 0, none⟩)] w fun e w' => e = .returned (.int .i64 fl) ∧ w' = w

/-- Where 'last' stands. -/
def LastSt (Q : (Nat → Nat) → World → Prop) (k : Nat → Nat) (w wr : World) (b px py nC nR nI : Nat) : Prop :=
  ∃ k', Evo k k' cLaw w wr ∧ Q k' wr ∧ LawIs k' wr is205 b px py nC nR nI ∧ Clean k' wr

set_option maxHeartbeats 8000000 in
theorem last_any {k : Nat → Nat} {w : World} {b px py nC nR nI fl : Nat} (Q : (Nat → Nat) → World → Prop) (hQ : ∀ k k' w w', Q k w → Evo k k' cLaw w w' → Q k' w') (hS : ∀ k w, Q k w → Sides px py w fl) (hfl : fl ≤ 200)
    (hq : Q k w) (h : LawIs k w is205 b px py nC nR nI) (hcl : Clean k w) (hC : nC ≤ 3800000000) (hR : nR ≤ 3800000000) (hI : nI ≤ 3800000000) :
    Calls Tryz.prog 12 #[.pointer (some ⟨b, 0, none⟩)] w fun e w' => e = .returned (.bool true) ∧ ∃ k', Evo k k' cLaw w w' ∧ Q k' w' := by
  have h0 : Hid (LastSt Q k w w b px py (nC + 4 * 0) (nR + 8 * 0) nI) := hide ⟨k, Evo.refl _ _ _, hq, h, hcl⟩
  have HQ := hide hQ
  have HS := hide hS
  clear hQ hS hq h hcl
  go_enter Tryz.func12, Tryz.ntmps12
  go_wp2
  go_loopw [3] (fun i wr => ∃ j : Nat, j ≤ 8 ∧ i = .int .i64 ((j : Int) - 1) ∧ Hid (LastSt Q k w wr b px py (nC + 4 * j) (nR + 8 * j) nI)) (fun i _ => (7 - intOf i).toNat)
  case atStart => exact ⟨0, by omega, by go_num, h0⟩
  case round =>
    obtain ⟨j, hj, rfl, hst⟩ := hrel
    by_cases hlt : j < 8
    · have hd : decide ((j : Int) - 1 ≤ 6) = true := by simp; omega
      obtain ⟨k', ev, hq, hL, hc⟩ := hst.out
      obtain ⟨d, l1, l2, l3, cx, cy⟩ := (HS.out _ _ hq).seg ((j : Int) - 1) (by omega) (by omega)
      have HK := hide (lawSegment_any ((j : Int) - 1) d hL hc cx cy (by omega) (by omega) l1 l2 l3)
      clear cx cy hst l1 l2 l3
      go_wp2_with fail
      refine HK.out.mono ?_
      rintro e1 w1 ⟨rfl, k1, ev1, hL1, hc1⟩
      go_wp2_with fail
      go_roundw
      case rel => exact ⟨j + 1, by omega, by go_num, hide ⟨k1, ev.trans ev1, HQ.out _ _ _ _ hq ev1, hL1, hc1⟩⟩
      case measure => simp [intOf]; omega
    · have hj8 : j = 8 := by omega
      have hd : decide ((j : Int) - 1 ≤ 6) = false := by simp; omega
      rw [hj8] at hst
      clear hj8 hlt hj
      go_wp2
      go_loopw [5] (fun i wr => ∃ j : Nat, j ≤ 11 ∧ i = .int .i64 j ∧ Hid (LastSt Q k w wr b px py (nC + 4 * 8) (nR + 8 * 8) nI)) (fun i _ => 11 - (intOf i).toNat)
      case atStart => exact ⟨0, by omega, rfl, hst⟩
      case round =>
        obtain ⟨j2, hj2, rfl, hst2⟩ := hrel
        clear hst
        by_cases hlt : j2 < 11
        · have hd2 : decide ((j2 : Int) ≤ 10) = true := by simp; omega
          obtain ⟨k', ev, hq, hL, hc⟩ := hst2.out
          obtain ⟨s, err, cx, cy⟩ := (HS.out _ _ hq).wr (j2 : Int) (by omega) (by omega)
          have HK := hide (lawWriter_any (j2 : Int) s err hL cx cy)
          clear cx cy hst2
          go_wp2_with fail
          refine HK.out.mono ?_
          rintro e1 w1 ⟨rfl, hb1⟩
          go_wp2_with fail
          go_roundw
          case rel =>
            have ev1 : Evo k' k' cLaw wr w1 := Evo.of_below hb1
            have ev1n : Evo k' k' noC wr w1 := Evo.of_below hb1
            have hL1 := hL.evo ev1n (fun c _ => noC_not c) (fun c _ _ => noC_not c)
            exact ⟨j2 + 1, by omega, by go_num, hide ⟨reco wr.heap.size k', ev.trans ev1.recol, HQ.out _ _ _ _ hq ev1.recol, hL1.recol (fun c hc => by unfold is205 at hc; omega) (fun g hg => hc g hg), hc.recol ev1⟩⟩
          case measure => simp [intOf]; omega
        · have hd2 : decide ((j2 : Int) ≤ 10) = false := by simp; omega
          clear hlt hj2
          obtain ⟨k2, ev2, hq2, hL2, hc2⟩ := hst2.out
          obtain ⟨vC, vR, vI, hB, -, -, -⟩ := hL2.ex
          have z1 : wr.cell? ⟨b, 1, none⟩ = some (.pointer (some ⟨py, 0, none⟩)) := hB.cell 1
          have HF := hide (HS.out _ _ hq2).fy
          clear hB
          go_wp2_with fail
          refine HF.out.mono ?_
          rintro e1 w1 ⟨rfl, hw⟩
          subst hw
          clear HF z1
          have h3 : Hid (LastSt Q k w w1 b px py (nC + 4 * 8 + 4 * 0) (nR + 8 * 8) (nI + 4 * 0)) := hide ⟨k2, ev2, hq2, hL2, hc2⟩
          clear hst2 hL2 hc2 hq2 ev2
          go_wp2_with fail
          go_loopw [8] (fun i wr => ∃ j : Nat, j ≤ fl + 2 ∧ i = .int .i64 ((j : Int) - 1) ∧ Hid (LastSt Q k w wr b px py (nC + 4 * 8 + 4 * j) (nR + 8 * 8) (nI + 4 * j))) (fun i _ => (fl + 1 - intOf i).toNat)
          case atStart => exact ⟨0, by omega, by go_num, h3⟩
          case round =>
            obtain ⟨j3, hj3, rfl, hst3⟩ := hrel
            clear h3
            by_cases hlt : j3 < fl + 2
            · have hd3 : decide ((j3 : Int) - 1 ≤ (fl : Int)) = true := by simp; omega
              obtain ⟨k', ev, hq, hL, hc⟩ := hst3.out
              obtain ⟨err, m, l1, l2, cx, cy⟩ := (HS.out _ _ hq).msg ((j3 : Int) - 1) (by omega) (by omega)
              have HK := hide (lawMessage_any ((j3 : Int) - 1) err m hL hc cx cy (by omega) (by omega) l1 l2)
              clear cx cy hst3 l1 l2
              go_wp2_with fail
              refine HK.out.mono ?_
              rintro e1 w1 ⟨rfl, k1, ev1, hL1, hc1⟩
              go_wp2_with fail
              go_roundw
              case rel => exact ⟨j3 + 1, by omega, by go_num, hide ⟨k1, ev.trans ev1, HQ.out _ _ _ _ hq ev1, hL1, hc1⟩⟩
              case measure => simp [intOf]; omega
            · have hj3' : j3 = fl + 2 := by omega
              have hd3 : decide ((j3 : Int) - 1 ≤ (fl : Int)) = false := by simp; omega
              rw [hj3'] at hst3
              clear hj3' hlt hj3
              obtain ⟨k', ev, hq, hL, hc⟩ := hst3.out
              have HK := hide (lawFlight_any (fl : Int) hL (HS.out _ _ hq).fx (HS.out _ _ hq).fy)
              have HLk := hide (looks_any hL (by omega) (by omega) (by omega))
              clear hst3
              go_wp2_with fail
              refine HK.out.mono ?_
              rintro e1 w1 ⟨rfl, hw⟩
              subst hw
              go_wp2_with fail
              refine HLk.out.mono ?_
              rintro e1 w2 ⟨rfl, hb2⟩
              go_wp2_with fail
              go_ret
              have ev1 : Evo k' k' cLaw w1 w2 := Evo.of_below hb2
              exact ⟨rfl, k', ev.trans ev1, HQ.out _ _ _ _ hq ev1⟩
end Go.Proofs.YtfpbkghcjaonlaaGreat
