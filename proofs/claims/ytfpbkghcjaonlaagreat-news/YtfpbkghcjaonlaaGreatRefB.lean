/-
  sixfoldref: send (both ways), Top, Good.
-/
import Derived.Test.YtfpbkghcjaonlaaGreatRefA
namespace Go.Proofs.YtfpbkghcjaonlaaGreat
open Go.RowKit

set_option maxHeartbeats 400000 in
theorem send_no (k : Nat → Nat) (w : World) (q : Nat) (wi fl : Int) (vSegs vPens vNet : Value) (net : List (Msg × Bool)) (rows : List (List Value)) (m : Msg) (vc vm : Value)
    (hY : Blk k w cY q 84 [.int .i64 wi, .int .i64 fl, vNet, vSegs, vPens]) (hN : NetIs k w vNet net rows) (hlen : net.length ≤ 4000000000)
    (hfl : ¬ (flightOf net : Int) < fl) :
    Calls Tryz.prog 67 #[.pointer (some ⟨q, 0, none⟩), .agg #[.int .i64 m.kind, .int .i64 m.frm, .int .i64 m.to_, .int .i64 m.epoch, .int .i64 m.lsn, .int .i64 m.value, .int .i64 m.scl, vc, vm]] w fun e w' => e = .returned (.tuple #[]) ∧
      Below w.heap.size w w' := by
  have y2 : w.cell? ⟨q, 2, none⟩ = some vNet := by rw [hY.cell]; rfl
  have y1 : w.cell? ⟨q, 1, none⟩ = some (.int .i64 fl) := by rw [hY.cell]; rfl
  have hq := hY.lt
  have e1 : Evo k k noC w (w.alloc (Obj.cells #[.int .i64 m.kind, .int .i64 m.frm, .int .i64 m.to_, .int .i64 m.epoch, .int .i64 m.lsn, .int .i64 m.value, .int .i64 m.scl, vc, vm] 109)) := (Evo.refl k noC w).alloc _
  have F1 := flight_any (hY.evo e1 (noC_not _)) (hN.evo e1 (noC_not _) (noC_not _)) hlen
  have HF := hide F1
  clear F1
  go_enter Tryz.func67, Tryz.ntmps67
  go_wp2_with fail
  refine HF.out.mono ?_
  rintro e w1 ⟨rfl, rfl⟩
  go_wp2_with fail
  go_end0
  exact ⟨rfl, (Below.refl _ _).alloc (Nat.le_refl _) _⟩

/-- send: the message comes to the end, if there is room. -/
theorem send_any {k : Nat → Nat} {w : World} {q : Nat} {wi fl : Int} {vSegs vPens : Value} {net : List (Msg × Bool)} (m : Msg) {vc vm : Value}
    (hY : YNet k w q wi fl vSegs vPens net) (hlen : net.length ≤ 4000000000) (hc : CutsIm k w vc m.cuts) (hm : IntsIm k w vm m.marks) :
    Calls Tryz.prog 67 #[.pointer (some ⟨q, 0, none⟩), .agg #[.int .i64 m.kind, .int .i64 m.frm, .int .i64 m.to_, .int .i64 m.epoch, .int .i64 m.lsn, .int .i64 m.value, .int .i64 m.scl, vc, vm]] w fun e w' => e = .returned (.tuple #[]) ∧
      ∃ k', Evo k k' (fun c => c = cY ∨ c = cNet) w w' ∧ YNet k' w' q wi fl vSegs vPens (sendNet fl net m) := by
  obtain ⟨vNet, rows, hB, hN⟩ := hY.ex
  by_cases hfl : (flightOf net : Int) < fl
  · unfold sendNet; rw [if_pos hfl]
    exact send_yes k w q wi fl vSegs vPens vNet net rows m vc vm hB hN hlen hc hm hfl
  · unfold sendNet; rw [if_neg hfl]
    refine (send_no k w q wi fl vSegs vPens vNet net rows m vc vm hB hN hlen hfl).mono ?_
    rintro e w' ⟨rfl, hb⟩
    have ev : Evo k k noC w w' := Evo.of_below hb
    exact ⟨rfl, k, ev.mono (fun _ h => h.elim), hY.evo ev (noC_not _) (noC_not _) (noC_not _)⟩

/-- A list of cuts as the walks ask for it. -/
theorem cuts_cells {k : Nat → Nat} {w : World} {c : Nat} {v : Value} {l : List (Int × Int)} (h : Rows k w c 53 2 v (l.map cutRow)) :
    ∃ a cap, v = .slice a l.length cap ∧ ∀ i, (hi : i < l.length) → ∃ b, a = some ⟨b, 0, none⟩ ∧ w.cell? ⟨b, i * 2, none⟩ = some (.int .i64 l[i].1) ∧ w.cell? ⟨b, i * 2 + 1, none⟩ = some (.int .i64 l[i].2) := by
  obtain ⟨a, cap, rfl, _⟩ := h.form
  refine ⟨a, cap, by simp, fun i hi => ?_⟩
  obtain ⟨b, cap', hv, _, _, _, hc, _⟩ := h.at (by simp; omega)
  simp at hv
  refine ⟨b, hv.1, ?_, ?_⟩
  · have := hc i 0 (by simpa using hi) (by omega)
    simpa [cutRow] using this
  · have := hc i 1 (by simpa using hi) (by omega)
    simpa [cutRow] using this

theorem ints_cells {k : Nat → Nat} {w : World} {c : Nat} {v : Value} {l : List Int} (h : Rows k w c 3 1 v (l.map intRow)) :
    ∃ a cap, v = .slice a l.length cap ∧ ∀ i, (hi : i < l.length) → ∃ b, a = some ⟨b, 0, none⟩ ∧ w.cell? ⟨b, i, none⟩ = some (.int .i64 l[i]) := by
  obtain ⟨a, cap, rfl, _⟩ := h.form
  refine ⟨a, cap, by simp, fun i hi => ?_⟩
  obtain ⟨b, cap', hv, _, _, _, hc, _⟩ := h.at (by simp; omega)
  simp at hv
  refine ⟨b, hv.1, ?_⟩
  have := hc i 0 (by simpa using hi) (by omega)
  simpa [intRow] using this

def topOf (l : List (Int × Int)) : Int := (l.getLast?.map (·.1)).getD 0

theorem topOf_take (l : List (Int × Int)) (j : Nat) (h : j < l.length) : topOf (l.take (j + 1)) = l[j].1 := by
  unfold topOf
  rw [List.take_succ_eq_append_getElem h, List.getLast?_append]
  simp only [List.getLast?_singleton, Option.some_or, Option.map_some, Option.getD_some]

set_option maxHeartbeats 400000 in
theorem top_any {k : Nat → Nat} {w : World} {c : Nat} {v : Value} {l : List (Int × Int)} (h : Rows k w c 53 2 v (l.map cutRow)) (hl : l.length ≤ 4000000000) :
    Calls Tryz.prog 88 #[v] w fun e w' => e = .returned (.int .i64 (topOf l)) ∧ w' = w := by
  obtain ⟨a, cap, rfl, hc⟩ := cuts_cells h
  clear h
  go_enter Tryz.func88, Tryz.ntmps88
  go_wp2
  go_loop [3, 4] (fun t i => ∃ j : Nat, j ≤ l.length ∧ i = .int .i64 j ∧ t = .int .i64 (topOf (l.take j))) (fun _ i => l.length - (intOf i).toNat)
  case atStart => exact ⟨0, Nat.zero_le _, rfl, rfl⟩
  case round =>
    obtain ⟨j, hk, rfl, rfl⟩ := hrel
    by_cases hlt : j < l.length
    · obtain ⟨b, rfl, h1, h2⟩ := hc j hlt
      have HT := hide (topOf_take l j hlt)
      go_wp2
      go_round
      case rel => exact ⟨j + 1, by omega, by go_num, by rw [HT.out]⟩
      case measure => simp [intOf]; omega
    · have HT := hide (List.take_of_length_le (l := l) (i := j) (by omega))
      go_wp2
      go_ret
      exact ⟨by first | rfl | (rw [HT.out]; rfl), rfl⟩

/-- Good by a list of cuts. -/
def good (l : List (Int × Int)) (lsn ep : Int) : Bool := l.any (fun c => c.1 == ep) && l.all (fun c => !(decide (ep < c.1) && decide (c.2 < lsn)))
def goodIn (l : List (Int × Int)) (ep : Int) : Nat := (l.filter (fun c => c.1 == ep)).length
def goodBad (l : List (Int × Int)) (lsn ep : Int) : Nat := (l.filter (fun c => decide (ep < c.1) && decide (c.2 < lsn))).length
theorem goodIn_le (l : List (Int × Int)) (ep : Int) : goodIn l ep ≤ l.length := List.length_filter_le _ _
theorem goodBad_le (l : List (Int × Int)) (lsn ep : Int) : goodBad l lsn ep ≤ l.length := List.length_filter_le _ _
theorem goodIn_take (l : List (Int × Int)) (ep : Int) (j : Nat) (h : j < l.length) : goodIn (l.take (j + 1)) ep = goodIn (l.take j) ep + if l[j].1 == ep then 1 else 0 := by
  unfold goodIn
  rw [List.take_succ_eq_append_getElem h, List.filter_append, List.length_append]
  by_cases hg : (l[j].1 == ep) = true <;> simp [hg]
theorem goodBad_take (l : List (Int × Int)) (lsn ep : Int) (j : Nat) (h : j < l.length) : goodBad (l.take (j + 1)) lsn ep = goodBad (l.take j) lsn ep + if decide (ep < l[j].1) && decide (l[j].2 < lsn) then 1 else 0 := by
  unfold goodBad
  rw [List.take_succ_eq_append_getElem h, List.filter_append, List.length_append]
  by_cases hg : (decide (ep < l[j].1) && decide (l[j].2 < lsn)) = true <;> simp [hg]
theorem good_eq (l : List (Int × Int)) (lsn ep : Int) : good l lsn ep = (decide (0 < goodIn l ep) && decide (goodBad l lsn ep = 0)) := by
  unfold good goodIn goodBad
  congr 1
  · rw [Bool.eq_iff_iff]; simp [List.length_pos_iff, List.filter_eq_nil_iff]
  · rw [Bool.eq_iff_iff]; simp [List.filter_eq_nil_iff]
    refine ⟨fun h a b hm hl => ?_, fun h a b hm => ?_⟩
    · have := h a b hm; omega
    · by_cases hl : ep < a
      · exact .inr (h a b hm hl)
      · exact .inl (by omega)

set_option maxHeartbeats 1000000 in
theorem good_any {k : Nat → Nat} {w : World} {c : Nat} {v : Value} {l : List (Int × Int)} (lsn ep : Int) (h : Rows k w c 53 2 v (l.map cutRow)) (hl : l.length ≤ 4000000000) :
    Calls Tryz.prog 106 #[.int .i64 lsn, .int .i64 ep, v] w fun e w' => e = .returned (.bool (good l lsn ep)) ∧ w' = w := by
  obtain ⟨a, cap, rfl, hc⟩ := cuts_cells h
  clear h
  have HG := hide (good_eq l lsn ep)
  go_enter Tryz.func106, Tryz.ntmps106
  go_wp2
  go_loop [7, 8, 9] (fun n m i => ∃ j : Nat, j ≤ l.length ∧ i = .int .i64 j ∧ n = .int .i64 (goodIn (l.take j) ep) ∧ m = .int .i64 (goodBad (l.take j) lsn ep)) (fun _ _ i => l.length - (intOf i).toNat)
  case atStart => exact ⟨0, Nat.zero_le _, rfl, rfl, rfl⟩
  case round =>
    obtain ⟨j, hk, rfl, rfl, rfl⟩ := hrel
    have b1 : goodIn (l.take j) ep ≤ j := Nat.le_trans (goodIn_le _ _) (by simp; omega)
    have b2 : goodBad (l.take j) lsn ep ≤ j := Nat.le_trans (goodBad_le _ _ _) (by simp; omega)
    by_cases hlt : j < l.length
    · obtain ⟨b, rfl, h1, h2⟩ := hc j hlt
      have hn := goodIn_take l ep j hlt
      have hb := goodBad_take l lsn ep j hlt
      generalize l[j].1 = x at *
      generalize l[j].2 = y at *
      by_cases g1 : x = ep
      · have g1' : (x == ep) = true := by simpa using g1
        have g2 : ¬ ep < x := by omega
        have g2' : decide (ep < x) = false := by simpa using g2
        rw [if_pos g1'] at hn
        rw [if_neg (by simp [g2])] at hb
        have HN := hide hn
        have HB := hide hb
        clear hn hb g1
        go_wp2
        go_round
        case rel => exact ⟨j + 1, by omega, by go_num, by rw [HN.out]; go_num, by rw [HB.out]; rfl⟩
        case measure => simp [intOf]; omega
      · have g1' : (x == ep) = false := by simpa using g1
        rw [if_neg (by simp [g1])] at hn
        have HN := hide hn
        clear hn g1
        by_cases g2 : ep < x
        · by_cases g3 : y < lsn
          · rw [if_pos (by simp [g2, g3])] at hb
            have HB := hide hb
            clear hb
            go_wp2
            go_round
            case rel => exact ⟨j + 1, by omega, by go_num, by rw [HN.out]; rfl, by rw [HB.out]; go_num⟩
            case measure => simp [intOf]; omega
          · rw [if_neg (by simp [g3])] at hb
            have HB := hide hb
            clear hb
            go_wp2
            go_round
            case rel => exact ⟨j + 1, by omega, by go_num, by rw [HN.out]; rfl, by rw [HB.out]; rfl⟩
            case measure => simp [intOf]; omega
        · rw [if_neg (by simp [g2])] at hb
          have g2' : decide (ep < x) = false := by simpa using g2
          have HB := hide hb
          clear hb
          go_wp2
          go_round
          case rel => exact ⟨j + 1, by omega, by go_num, by rw [HN.out]; rfl, by rw [HB.out]; rfl⟩
          case measure => simp [intOf]; omega
    · have hj : j = l.length := by omega
      subst hj
      rw [List.take_length] at *
      generalize goodIn l ep = x at *
      generalize goodBad l lsn ep = y at *
      by_cases g1 : 0 < x
      · by_cases g2 : y = 0
        · have g2' : ((y : Int) == 0) = true := by simp [g2]
          have HG2 := hide (show good l lsn ep = true by rw [HG.out]; simp [g1, g2])
          clear g2 HG
          go_wp2
          go_ret
          exact ⟨by rw [HG2.out]; rfl, rfl⟩
        · have g2' : ((y : Int) == 0) = false := by simp [g2]
          have HG2 := hide (show good l lsn ep = false by rw [HG.out]; simp [g2])
          clear g2 HG
          go_wp2
          go_ret
          exact ⟨by rw [HG2.out]; rfl, rfl⟩
      · have g1' : decide (0 < (x : Int)) = false := by simp; omega
        have HG2 := hide (show good l lsn ep = false by rw [HG.out]; simp [g1])
        clear HG
        go_wp2
        go_ret
        exact ⟨by rw [HG2.out]; rfl, rfl⟩
end Go.Proofs.YtfpbkghcjaonlaaGreat
