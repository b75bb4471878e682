import Derived.Test.YtfpbkghcjaonlaaGreatJ01
/-
  sixfoldref: send (both ways), Top, Good.
-/
namespace Go.Proofs.YtfpbkghcjaonlaaGreat
open Go.RowKit

set_option maxHeartbeats 400000 in
theorem send_no (k : Nat → Nat) (w : World) (q : Nat) (wi fl : Int) (vSegs vPens vNet : Value) (net : List (Msg × Bool)) (rows : List (List Value)) (m : Msg) (vc vm : Value)
    (hY : Blk k w cY q 84 [.int .i64 wi, .int .i64 fl, vNet, vSegs, vPens]) (hN : NetIs k w vNet net rows) (hlen : net.length ≤ 4000000000)
    (hfl : ¬ (flightOf net : Int) < fl) :
    Calls Tryz.prog 67 #[.pointer (some ⟨q, 0, none⟩), .agg #[.int .i64 m.kind, .int .i64 m.frm, .int .i64 m.to_, .int .i64 m.epoch, .int .i64 m.lsn, .int .i64 m.value, .int .i64 m.scl, vc, vm]] w fun e w' => e = .returned (.tuple #[]) ∧
      Below w.heap.size w w' := by
  have y2 : w.cell? ⟨q, 2, none⟩ = some vNet := by rw [hY.cell]; rfl
  have y1 : w.cell? ⟨q, 1, none⟩ = some (.int .i64 fl) := by rw [hY.cell]; rfl
  have hq := hY.lt
  have e1 : Evo k k noC w (w.alloc (Obj.cells #[.int .i64 m.kind, .int .i64 m.frm, .int .i64 m.to_, .int .i64 m.epoch, .int .i64 m.lsn, .int .i64 m.value, .int .i64 m.scl, vc, vm] 109)) := (Evo.refl k noC w).alloc _
  have F1 := flight_any (hY.evo e1 (noC_not _)) (hN.evo e1 (noC_not _) (noC_not _)) hlen
  have HF := hide F1
  clear F1
  go_enter Tryz.func67, Tryz.ntmps67
  go_wp2_with fail
  refine HF.out.mono ?_
  rintro e w1 ⟨rfl, rfl⟩
  go_wp2_with fail
  go_end0
  exact ⟨rfl, (Below.refl _ _).alloc (Nat.le_refl _) _⟩

/-- send: the message comes to the end, if there is room. -/
theorem send_any {k : Nat → Nat} {w : World} {q : Nat} {wi fl : Int} {vSegs vPens : Value} {net : List (Msg × Bool)} (m : Msg) {vc vm : Value}
    (hY : YNet k w q wi fl vSegs vPens net) (hlen : net.length ≤ 4000000000) (hc : CutsIm k w vc m.cuts) (hm : IntsIm k w vm m.marks) :
    Calls Tryz.prog 67 #[.pointer (some ⟨q, 0, none⟩), .agg #[.int .i64 m.kind, .int .i64 m.frm, .int .i64 m.to_, .int .i64 m.epoch, .int .i64 m.lsn, .int .i64 m.value, .int .i64 m.scl, vc, vm]] w fun e w' => e = .returned (.tuple #[]) ∧
      ∃ k', Evo k k' (fun c => c = cY ∨ c = cNet) w w' ∧ YNet k' w' q wi fl vSegs vPens (sendNet fl net m) := by
  obtain ⟨vNet, rows, hB, hN⟩ := hY.ex
  by_cases hfl : (flightOf net : Int) < fl
  · unfold sendNet; rw [if_pos hfl]
    exact send_yes k w q wi fl vSegs vPens vNet net rows m vc vm hB hN hlen hc hm hfl
  · unfold sendNet; rw [if_neg hfl]
    refine (send_no k w q wi fl vSegs vPens vNet net rows m vc vm hB hN hlen hfl).mono ?_
    rintro e w' ⟨rfl, hb⟩
    have ev : Evo k k noC w w' := Evo.of_below hb
    exact ⟨rfl, k, ev.mono (fun _ h => h.elim), hY.evo ev (noC_not _) (noC_not _) (noC_not _)⟩

/-- A list of cuts as the walks ask for it. -/
theorem cuts_cells {k : Nat → Nat} {w : World} {c : Nat} {v : Value} {l : List (Int × Int)} (h : Rows k w c 53 2 v (l.map cutRow)) :
    ∃ a cap, v = .slice a l.length cap ∧ ∀ i, (hi : i < l.length) → ∃ b, a = some ⟨b, 0, none⟩ ∧ w.cell? ⟨b, i * 2, none⟩ = some (.int .i64 l[i].1) ∧ w.cell? ⟨b, i * 2 + 1, none⟩ = some (.int .i64 l[i].2) := by
  obtain ⟨a, cap, rfl, _⟩ := h.form
  refine ⟨a, cap, by simp, fun i hi => ?_⟩
  obtain ⟨b, cap', hv, _, _, _, hc, _⟩ := h.at (by simp; omega)
  simp at hv
  refine ⟨b, hv.1, ?_, ?_⟩
  · have := hc i 0 (by simpa using hi) (by omega)
    simpa [cutRow] using this
  · have := hc i 1 (by simpa using hi) (by omega)
    simpa [cutRow] using this

theorem ints_cells {k : Nat → Nat} {w : World} {c : Nat} {v : Value} {l : List Int} (h : Rows k w c 3 1 v (l.map intRow)) :
    ∃ a cap, v = .slice a l.length cap ∧ ∀ i, (hi : i < l.length) → ∃ b, a = some ⟨b, 0, none⟩ ∧ w.cell? ⟨b, i, none⟩ = some (.int .i64 l[i]) := by
  obtain ⟨a, cap, rfl, _⟩ := h.form
  refine ⟨a, cap, by simp, fun i hi => ?_⟩
  obtain ⟨b, cap', hv, _, _, _, hc, _⟩ := h.at (by simp; omega)
  simp at hv
  refine ⟨b, hv.1, ?_⟩
  have := hc i 0 (by simpa using hi) (by omega)
  simpa [intRow] using this

def topOf (l : List (Int × Int)) : Int := (l.getLast?.map (·.1)).getD 0

theorem topOf_take (l : List (Int × Int)) (j : Nat) (h : j < l.length) : topOf (l.take (j + 1)) = l[j].1 := by
  unfold topOf
  rw [List.take_succ_eq_append_getElem h, List.getLast?_append]
  simp only [List.getLast?_singleton, Option.some_or, Option.map_some, Option.getD_some]

set_option maxHeartbeats 400000 in
theorem top_any {k : Nat → Nat} {w : World} {c : Nat} {v : Value} {l : List (Int × Int)} (h : Rows k w c 53 2 v (l.map cutRow)) (hl : l.length ≤ 4000000000) :
    Calls Tryz.prog 88 #[v] w fun e w' => e = .returned (.int .i64 (topOf l)) ∧ w' = w := by
  obtain ⟨a, cap, rfl, hc⟩ := cuts_cells h
  clear h
  go_enter Tryz.func88, Tryz.ntmps88
  go_wp2
  go_loop [3, 4] (fun t i => ∃ j : Nat, j ≤ l.length ∧ i = .int .i64 j ∧ t = .int .i64 (topOf (l.take j))) (fun _ i => l.length - (intOf i).toNat)
  case atStart => exact ⟨0, Nat.zero_le _, rfl, rfl⟩
  case round =>
    obtain ⟨j, hk, rfl, rfl⟩ := hrel
    by_cases hlt : j < l.length
    · obtain ⟨b, rfl, h1, h2⟩ := hc j hlt
      have HT := hide (topOf_take l j hlt)
      go_wp2
      go_round
      case rel => exact ⟨j + 1, by omega, by go_num, by rw [HT.out]⟩
      case measure => simp [intOf]; omega
    · have HT := hide (List.take_of_length_le (l := l) (i := j) (by omega))
      go_wp2
      go_ret
      exact ⟨by first | rfl | (rw [HT.out]; rfl), rfl⟩

/-- Good by a list of cuts. -/
def good (l : List (Int × Int)) (lsn ep : Int) : Bool := l.any (fun c => c.1 == ep) && l.all (fun c => !(decide (ep < c.1) && decide (c.2 < lsn)))
def goodIn (l : List (Int × Int)) (ep : Int) : Nat := (l.filter (fun c => c.1 == ep)).length
def goodBad (l : List (Int × Int)) (lsn ep : Int) : Nat := (l.filter (fun c => decide (ep < c.1) && decide (c.2 < lsn))).length
theorem goodIn_le (l : List (Int × Int)) (ep : Int) : goodIn l ep ≤ l.length := List.length_filter_le _ _
theorem goodBad_le (l : List (Int × Int)) (lsn ep : Int) : goodBad l lsn ep ≤ l.length := List.length_filter_le _ _
theorem goodIn_take (l : List (Int × Int)) (ep : Int) (j : Nat) (h : j < l.length) : goodIn (l.take (j + 1)) ep = goodIn (l.take j) ep + if l[j].1 == ep then 1 else 0 := by
  unfold goodIn
  rw [List.take_succ_eq_append_getElem h, List.filter_append, List.length_append]
  by_cases hg : (l[j].1 == ep) = true <;> simp [hg]
theorem goodBad_take (l : List (Int × Int)) (lsn ep : Int) (j : Nat) (h : j < l.length) : goodBad (l.take (j + 1)) lsn ep = goodBad (l.take j) lsn ep + if decide (ep < l[j].1) && decide (l[j].2 < lsn) then 1 else 0 := by
  unfold goodBad
  rw [List.take_succ_eq_append_getElem h, List.filter_append, List.length_append]
  by_cases hg : (decide (ep < l[j].1) && decide (l[j].2 < lsn)) = true <;> simp [hg]
theorem good_eq (l : List (Int × Int)) (lsn ep : Int) : good l lsn ep = (decide (0 < goodIn l ep) && decide (goodBad l lsn ep = 0)) := by
  unfold good goodIn goodBad
  congr 1
  · rw [Bool.eq_iff_iff]; simp [List.length_pos_iff, List.filter_eq_nil_iff]
  · rw [Bool.eq_iff_iff]; simp [List.filter_eq_nil_iff]
    refine ⟨fun h a b hm hl => ?_, fun h a b hm => ?_⟩
    · have := h a b hm; omega
    · by_cases hl : ep < a
      · exact .inr (h a b hm hl)
      · exact .inl (by omega)

set_option maxHeartbeats 1000000 in
theorem good_any {k : Nat → Nat} {w : World} {c : Nat} {v : Value} {l : List (Int × Int)} (lsn ep : Int) (h : Rows k w c 53 2 v (l.map cutRow)) (hl : l.length ≤ 4000000000) :
    Calls Tryz.prog 106 #[.int .i64 lsn, .int .i64 ep, v] w fun e w' => e = .returned (.bool (good l lsn ep)) ∧ w' = w := by
  obtain ⟨a, cap, rfl, hc⟩ := cuts_cells h
  clear h
  have HG := hide (good_eq l lsn ep)
  go_enter Tryz.func106, Tryz.ntmps106
  go_wp2
  go_loop [7, 8, 9] (fun n m i => ∃ j : Nat, j ≤ l.length ∧ i = .int .i64 j ∧ n = .int .i64 (goodIn (l.take j) ep) ∧ m = .int .i64 (goodBad (l.take j) lsn ep)) (fun _ _ i => l.length - (intOf i).toNat)
  case atStart => exact ⟨0, Nat.zero_le _, rfl, rfl, rfl⟩
  case round =>
    obtain ⟨j, hk, rfl, rfl, rfl⟩ := hrel
    have b1 : goodIn (l.take j) ep ≤ j := Nat.le_trans (goodIn_le _ _) (by simp; omega)
    have b2 : goodBad (l.take j) lsn ep ≤ j := Nat.le_trans (goodBad_le _ _ _) (by simp; omega)
    by_cases hlt : j < l.length
    · obtain ⟨b, rfl, h1, h2⟩ := hc j hlt
      have hn := goodIn_take l ep j hlt
      have hb := goodBad_take l lsn ep j hlt
      generalize l[j].1 = x at *
      generalize l[j].2 = y at *
      by_cases g1 : x = ep
      · have g1' : (x == ep) = true := by simpa using g1
        have g2 : ¬ ep < x := by omega
        have g2' : decide (ep < x) = false := by simpa using g2
        rw [if_pos g1'] at hn
        rw [if_neg (by simp [g2])] at hb
        have HN := hide hn
        have HB := hide hb
        clear hn hb g1
        go_wp2
        go_round
        case rel => exact ⟨j + 1, by omega, by go_num, by rw [HN.out]; go_num, by rw [HB.out]; rfl⟩
        case measure => simp [intOf]; omega
      · have g1' : (x == ep) = false := by simpa using g1
        rw [if_neg (by simp [g1])] at hn
        have HN := hide hn
        clear hn g1
        by_cases g2 : ep < x
        · by_cases g3 : y < lsn
          · rw [if_pos (by simp [g2, g3])] at hb
            have HB := hide hb
            clear hb
            go_wp2
            go_round
            case rel => exact ⟨j + 1, by omega, by go_num, by rw [HN.out]; rfl, by rw [HB.out]; go_num⟩
            case measure => simp [intOf]; omega
          · rw [if_neg (by simp [g3])] at hb
            have HB := hide hb
            clear hb
            go_wp2
            go_round
            case rel => exact ⟨j + 1, by omega, by go_num, by rw [HN.out]; rfl, by rw [HB.out]; rfl⟩
            case measure => simp [intOf]; omega
        · rw [if_neg (by simp [g2])] at hb
          have g2' : decide (ep < x) = false := by simpa using g2
          have HB := hide hb
          clear hb
          go_wp2
          go_round
          case rel => exact ⟨j + 1, by omega, by go_num, by rw [HN.out]; rfl, by rw [HB.out]; rfl⟩
          case measure => simp [intOf]; omega
    · have hj : j = l.length := by omega
      subst hj
      rw [List.take_length] at *
      generalize goodIn l ep = x at *
      generalize goodBad l lsn ep = y at *
      by_cases g1 : 0 < x
      · by_cases g2 : y = 0
        · have g2' : ((y : Int) == 0) = true := by simp [g2]
          have HG2 := hide (show good l lsn ep = true by rw [HG.out]; simp [g1, g2])
          clear g2 HG
          go_wp2
          go_ret
          exact ⟨by rw [HG2.out]; rfl, rfl⟩
        · have g2' : ((y : Int) == 0) = false := by simp [g2]
          have HG2 := hide (show good l lsn ep = false by rw [HG.out]; simp [g2])
          clear g2 HG
          go_wp2
          go_ret
          exact ⟨by rw [HG2.out]; rfl, rfl⟩
      · have g1' : decide (0 < (x : Int)) = false := by simp; omega
        have HG2 := hide (show good l lsn ep = false by rw [HG.out]; simp [g1])
        clear HG
        go_wp2
        go_ret
        exact ⟨by rw [HG2.out]; rfl, rfl⟩
end Go.Proofs.YtfpbkghcjaonlaaGreat

/-
  sixfoldref: entry, kept, Scl, epoch, list.
-/
namespace Go.Proofs.YtfpbkghcjaonlaaGreat
open Go.RowKit

structure Ent where
  lsn : Int
  epoch : Int
  value : Int
  kept : Bool
  gone : Bool

def entRow (e : Ent) : List Value := [.int .i64 e.lsn, .int .i64 e.epoch, .int .i64 e.value, .bool e.kept, .bool e.gone]

theorem ents_cells {k : Nat → Nat} {w : World} {c : Nat} {v : Value} {l : List Ent} (h : Rows k w c 141 5 v (l.map entRow)) :
    ∃ a cap, v = .slice a l.length cap ∧ ∀ i, (hi : i < l.length) → ∃ b, a = some ⟨b, 0, none⟩ ∧ k b = c ∧ w.cell? ⟨b, i * 5, none⟩ = some (.int .i64 l[i].lsn) ∧ w.cell? ⟨b, i * 5 + 1, none⟩ = some (.int .i64 l[i].epoch) ∧
      w.cell? ⟨b, i * 5 + 2, none⟩ = some (.int .i64 l[i].value) ∧ w.cell? ⟨b, i * 5 + 3, none⟩ = some (.bool l[i].kept) ∧ w.cell? ⟨b, i * 5 + 4, none⟩ = some (.bool l[i].gone) ∧ ∀ j, w.frozen? ⟨b, j, none⟩ = false := by
  obtain ⟨a, cap, rfl, _⟩ := h.form
  refine ⟨a, cap, by simp, fun i hi => ?_⟩
  obtain ⟨b, cap', hv, hk, _, _, hc, hf⟩ := h.at (by simp; omega)
  simp at hv
  have f := fun j hj => hc i j (by simpa using hi) hj
  refine ⟨b, hv.1, hk, ?_, ?_, ?_, ?_, ?_, hf⟩
  · simpa [entRow] using f 0 (by omega)
  · simpa [entRow] using f 1 (by omega)
  · simpa [entRow] using f 2 (by omega)
  · simpa [entRow] using f 3 (by omega)
  · simpa [entRow] using f 4 (by omega)

def entHit (lsn : Int) (e : Ent) : Bool := !e.gone && e.lsn == lsn
def entIdx (l : List Ent) (lsn : Int) : Option Nat := l.findIdx? (entHit lsn)
def entI (l : List Ent) (lsn : Int) : Int := ((entIdx l lsn).map (fun i => (i : Int))).getD (-1)

theorem entI_hit (l : List Ent) (lsn : Int) (j : Nat) (h : j < l.length) (hno : ∀ i, (hi : i < j) → entHit lsn (l[i]'(by omega)) = false) (hy : entHit lsn l[j] = true) : entI l lsn = j := by
  unfold entI entIdx
  have : l.findIdx? (entHit lsn) = some j := by
    rw [List.findIdx?_eq_some_iff_getElem]
    exact ⟨h, hy, fun i hi => by simp [hno i hi]⟩
  rw [this]; rfl
theorem entI_none (l : List Ent) (lsn : Int) (hno : ∀ i, (hi : i < l.length) → entHit lsn l[i] = false) : entI l lsn = -1 := by
  unfold entI entIdx
  have : l.findIdx? (entHit lsn) = none := by
    rw [List.findIdx?_eq_none_iff]
    intro x hx
    obtain ⟨i, hi, rfl⟩ := List.mem_iff_getElem.1 hx
    simpa using hno i hi
  rw [this]; rfl

set_option maxHeartbeats 1000000 in
theorem entry_any {k : Nat → Nat} {w : World} {c b : Nat} {v : Value} {l : List Ent} (lsn : Int) (hb : w.cell? ⟨b, 3, none⟩ = some v) (h : Rows k w c 141 5 v (l.map entRow)) (hl : l.length ≤ 4000000000) :
    Calls Tryz.prog 109 #[.pointer (some ⟨b, 0, none⟩), .int .i64 lsn] w fun e w' => e = .returned (.int .i64 (entI l lsn)) ∧ w' = w := by
  obtain ⟨a, cap, rfl, hc⟩ := ents_cells h
  clear h
  go_enter Tryz.func109, Tryz.ntmps109
  go_wp2
  go_loop [5] (fun i => ∃ j : Nat, j ≤ l.length ∧ i = .int .i64 j ∧ Hid (∀ x, (hx : x < j) → (hx2 : x < l.length) → entHit lsn l[x] = false)) (fun i => l.length - (intOf i).toNat)
  case atStart => exact ⟨0, Nat.zero_le _, rfl, hide (fun x hx => absurd hx (Nat.not_lt_zero _))⟩
  case round =>
    obtain ⟨j, hk, rfl, hno⟩ := hrel
    by_cases hlt : j < l.length
    · obtain ⟨g, rfl, _, h0, _, _, _, h4, _⟩ := hc j hlt
      have hit : entHit lsn l[j] = (!l[j].gone && l[j].lsn == lsn) := rfl
      have HH := hide hit
      clear hit
      have HN : Hid (entHit lsn l[j] = false → ∀ x, (hx : x < j + 1) → (hx2 : x < l.length) → entHit lsn l[x] = false) := hide (fun hf x hx hx2 => by
        rcases Nat.lt_succ_iff_lt_or_eq.1 hx with h | h
        · exact hno.out x h hx2
        · subst h; exact hf)
      have HY : Hid (entHit lsn l[j] = true → entI l lsn = j) := hide (fun hy => entI_hit l lsn j hlt (fun i hi => hno.out i hi (by omega)) hy)
      clear hno
      cases hg : l[j].gone
      · rw [hg] at h4
        by_cases he : l[j].lsn = lsn
        · have he' : (l[j].lsn == lsn) = true := by simpa using he
          have HE := hide (HY.out (by rw [HH.out, hg, he']; rfl))
          clear he hg HH HN HY
          go_wp2
          go_ret
          exact ⟨by rw [HE.out]; rfl, rfl⟩
        · have he' : (l[j].lsn == lsn) = false := by simpa using he
          have HE := hide (HN.out (by rw [HH.out, hg, he']; rfl))
          clear he hg HH HN HY
          go_wp2
          go_round
          case rel => exact ⟨j + 1, by omega, by go_num, HE⟩
          case measure => simp [intOf]; omega
      · rw [hg] at h4
        have HE := hide (HN.out (by rw [HH.out, hg]; rfl))
        clear hg HH HN HY
        go_wp2
        go_round
        case rel => exact ⟨j + 1, by omega, by go_num, HE⟩
        case measure => simp [intOf]; omega
    · have HE := hide (entI_none l lsn (fun i hi => hno.out i (by omega) hi))
      clear hno
      go_wp2
      go_ret
      exact ⟨by rw [HE.out]; rfl, rfl⟩

/-- The record of a number, if it is kept: the zero one else. -/
def keptAt (l : List Ent) (lsn : Int) : Option Ent := (entIdx l lsn).bind fun i => l[i]?.bind fun e => if e.kept then some e else none
theorem entI_cases (l : List Ent) (lsn : Int) : (entI l lsn = -1 ∧ entIdx l lsn = none) ∨ ∃ i, (hi : i < l.length) → entI l lsn = (i : Int) ∧ entIdx l lsn = some i ∧ entHit lsn l[i] = true := by
  unfold entI
  cases h : entIdx l lsn with
  | none => exact .inl ⟨rfl, rfl⟩
  | some i => exact .inr ⟨i, fun hi => ⟨rfl, rfl, by
      have := (List.findIdx?_eq_some_iff_getElem.1 h).2.1; exact this⟩⟩
theorem entIdx_lt {l : List Ent} {lsn : Int} {i : Nat} (h : entIdx l lsn = some i) : i < l.length := (List.findIdx?_eq_some_iff_getElem.1 h).1

/-- What kept hands back. -/
def recVal (o : Option Ent) : Value := match o with | some e => .agg #[.int .i64 e.lsn, .int .i64 e.epoch, .int .i64 e.value] | none => .agg #[.int .i64 0, .int .i64 0, .int .i64 0]

set_option maxHeartbeats 1000000 in
theorem kept_none (w : World) (b : Nat) (lsn : Int)
    (hcall : ∀ W, Below w.heap.size w W → Calls Tryz.prog 109 #[.pointer (some ⟨b, 0, none⟩), .int .i64 lsn] W fun e w' => e = .returned (.int .i64 (-1)) ∧ w' = W) :
    Calls Tryz.prog 84 #[.pointer (some ⟨b, 0, none⟩), .int .i64 lsn] w fun e w' => e = .returned (.tuple #[.agg #[.int .i64 0, .int .i64 0, .int .i64 0], .bool false]) ∧ Below w.heap.size w w' := by
  have HC := hide hcall
  clear hcall
  go_enter Tryz.func84, Tryz.ntmps84
  go_wp2_with fail
  refine (HC.out _ ((Below.refl _ _).alloc (Nat.le_refl _) _)).mono ?_
  rintro e w1 ⟨rfl, rfl⟩
  go_wp2_with fail
  exact bodyPost_ret (v := .tuple #[.agg #[.int .i64 0, .int .i64 0, .int .i64 0], .bool false]) (by simp [results, Tryz.results84, go_sem]) rfl ⟨rfl, (Below.refl _ _).alloc (Nat.le_refl _) _⟩

set_option maxHeartbeats 1000000 in
theorem kept_some (w : World) (b g n cap i : Nat) (lsn : Int) (e0 : Ent) (hin : i < n) (hb : w.cell? ⟨b, 3, none⟩ = some (.slice (some ⟨g, 0, none⟩) n cap)) (hbl : b < w.heap.size) (hgl : g < w.heap.size)
    (h0 : w.cell? ⟨g, i * 5, none⟩ = some (.int .i64 e0.lsn)) (h1 : w.cell? ⟨g, i * 5 + 1, none⟩ = some (.int .i64 e0.epoch)) (h2 : w.cell? ⟨g, i * 5 + 2, none⟩ = some (.int .i64 e0.value)) (h3 : w.cell? ⟨g, i * 5 + 3, none⟩ = some (.bool e0.kept))
    (hcall : ∀ W, Below w.heap.size w W → Calls Tryz.prog 109 #[.pointer (some ⟨b, 0, none⟩), .int .i64 lsn] W fun e w' => e = .returned (.int .i64 i) ∧ w' = W) :
    Calls Tryz.prog 84 #[.pointer (some ⟨b, 0, none⟩), .int .i64 lsn] w fun e w' => e = .returned (.tuple #[recVal (if e0.kept then some e0 else none), .bool e0.kept]) ∧ Below w.heap.size w w' := by
  have HC := hide hcall
  clear hcall
  cases hk : e0.kept
  · rw [hk] at h3
    go_enter Tryz.func84, Tryz.ntmps84
    go_wp2_with fail
    refine (HC.out _ ((Below.refl _ _).alloc (Nat.le_refl _) _)).mono ?_
    rintro e w1 ⟨rfl, rfl⟩
    go_wp2_with fail
    exact bodyPost_ret (v := .tuple #[.agg #[.int .i64 0, .int .i64 0, .int .i64 0], .bool false]) (by simp [results, Tryz.results84, go_sem]) rfl ⟨rfl, (Below.refl _ _).alloc (Nat.le_refl _) _⟩
  · rw [hk] at h3
    go_enter Tryz.func84, Tryz.ntmps84
    go_wp2_with fail
    refine (HC.out _ ((Below.refl _ _).alloc (Nat.le_refl _) _)).mono ?_
    rintro e w1 ⟨rfl, rfl⟩
    go_wp2_with fail
    exact bodyPost_ret (v := .tuple #[.agg #[.int .i64 e0.lsn, .int .i64 e0.epoch, .int .i64 e0.value], .bool true]) (by simp [results, Tryz.results84, go_sem]) rfl ⟨rfl, (Below.refl _ _).alloc (Nat.le_refl _) _⟩

theorem kept_any {k : Nat → Nat} {w : World} {c b : Nat} {v : Value} {l : List Ent} (lsn : Int) (hb : w.cell? ⟨b, 3, none⟩ = some v) (h : Rows k w c 141 5 v (l.map entRow)) (hl : l.length ≤ 4000000000) :
    Calls Tryz.prog 84 #[.pointer (some ⟨b, 0, none⟩), .int .i64 lsn] w fun e w' => e = .returned (.tuple #[recVal (keptAt l lsn), .bool (keptAt l lsn).isSome]) ∧ Below w.heap.size w w' := by
  have hbl := World.block_lt_of_cell? w _ hb
  have hcall : ∀ W, Below w.heap.size w W → Calls Tryz.prog 109 #[.pointer (some ⟨b, 0, none⟩), .int .i64 lsn] W fun e w' => e = .returned (.int .i64 (entI l lsn)) ∧ w' = W := fun W hW =>
    entry_any lsn ((hW.cell hbl).trans hb) (h.evo (Evo.of_below (C := noC) hW) (noC_not _)) hl
  cases hi : entIdx l lsn with
  | none =>
    have e1 : entI l lsn = -1 := by unfold entI; rw [hi]; rfl
    rw [e1] at hcall
    have e2 : keptAt l lsn = none := by unfold keptAt; rw [hi]; rfl
    rw [e2]
    exact kept_none w b lsn hcall
  | some i =>
    have hlt := entIdx_lt hi
    have e1 : entI l lsn = i := by unfold entI; rw [hi]; rfl
    rw [e1] at hcall
    have e2 : keptAt l lsn = if l[i].kept then some l[i] else none := by unfold keptAt; rw [hi]; simp [hlt]
    rw [e2]
    obtain ⟨a, cap, rfl, hc⟩ := ents_cells h
    obtain ⟨g, rfl, _, h0, h1, h2, h3, _⟩ := hc i hlt
    have := kept_some w b g l.length cap i lsn l[i] hlt hb hbl (World.block_lt_of_cell? w _ h0) h0 h1 h2 h3 hcall
    cases hk : l[i].kept <;> simpa [hk] using this
end Go.Proofs.YtfpbkghcjaonlaaGreat

/-
  sixfoldref: Scl, epoch, list.
-/
namespace Go.Proofs.YtfpbkghcjaonlaaGreat
open Go.RowKit

def sclUp (l : List Ent) : Nat → Nat → Nat
  | 0, n => n
  | f + 1, n => if (keptAt l ((n : Int) + 1)).isSome then sclUp l f (n + 1) else n
def sclOf (l : List Ent) : Nat := sclUp l l.length 0

theorem pigeon (n : Nat) : ∀ l : List Int, (∀ i : Nat, 1 ≤ i → i ≤ n → (i : Int) ∈ l) → n ≤ l.length := by
  induction n with
  | zero => intro l _; omega
  | succ n ih =>
    intro l h
    have hm := h (n + 1) (by omega) (by omega)
    have := ih (l.erase ((n + 1 : Nat) : Int)) (fun i h1 h2 => (List.mem_erase_of_ne (by omega)).2 (h i h1 (by omega)))
    rw [List.length_erase_of_mem hm] at this
    have := List.length_pos_of_mem hm
    omega

theorem keptAt_mem {l : List Ent} {n : Int} (h : (keptAt l n).isSome = true) : n ∈ l.map Ent.lsn := by
  unfold keptAt at h
  cases hi : entIdx l n with
  | none => rw [hi] at h; simp at h
  | some i =>
    have h1 := (List.findIdx?_eq_some_iff_getElem.1 hi)
    obtain ⟨hlt, hh, _⟩ := h1
    unfold entHit at hh
    simp at hh
    exact List.mem_map.2 ⟨l[i], List.getElem_mem hlt, hh.2⟩

theorem kept_bound {l : List Ent} {n : Nat} (h : ∀ i : Nat, 1 ≤ i → i ≤ n → (keptAt l (i : Int)).isSome = true) : n ≤ l.length := by
  have := pigeon n (l.map Ent.lsn) (fun i h1 h2 => keptAt_mem (h i h1 h2))
  simpa using this

theorem sclUp_spec (l : List Ent) (m : Nat) (hno : (keptAt l ((m : Int) + 1)).isSome = false) : ∀ f n, n ≤ m → m ≤ n + f → (∀ i : Nat, n < i → i ≤ m → (keptAt l (i : Int)).isSome = true) → sclUp l f n = m := by
  intro f
  induction f with
  | zero => intro n h1 h2 _; simp only [sclUp]; omega
  | succ f ih =>
    intro n h1 h2 h
    simp only [sclUp]
    by_cases hn : n = m
    · subst hn; rw [hno]; simp
    · have := h (n + 1) (by omega) (by omega)
      rw [if_pos (by simpa using this)]
      exact ih (n + 1) (by omega) (by omega) (fun i a b => h i (by omega) b)

theorem sclOf_spec {l : List Ent} {m : Nat} (h : ∀ i : Nat, 1 ≤ i → i ≤ m → (keptAt l (i : Int)).isSome = true) (hno : (keptAt l ((m : Int) + 1)).isSome = false) : sclOf l = m :=
  sclUp_spec l m hno l.length 0 (by omega) (by have := kept_bound h; omega) (fun i a b => h i (by omega) b)

theorem recVal_form (o : Option Ent) : ∃ a b c : Int, recVal o = .agg #[.int .i64 a, .int .i64 b, .int .i64 c] := by
  cases o with
  | none => exact ⟨_, _, _, rfl⟩
  | some e => exact ⟨_, _, _, rfl⟩

set_option maxHeartbeats 1000000 in
theorem scl_any {k : Nat → Nat} {w : World} {c b : Nat} {v : Value} {l : List Ent} (hb : w.cell? ⟨b, 3, none⟩ = some v) (h : Rows k w c 141 5 v (l.map entRow)) (hl : l.length ≤ 4000000000) :
    Calls Tryz.prog 92 #[.pointer (some ⟨b, 0, none⟩)] w fun e w' => e = .returned (.int .i64 (sclOf l)) ∧ Below w.heap.size w w' := by
  have hbl := World.block_lt_of_cell? w _ hb
  have HC : Hid (∀ (n : Int) W, Below w.heap.size w W → Calls Tryz.prog 84 #[.pointer (some ⟨b, 0, none⟩), .int .i64 n] W fun e w' => e = .returned (.tuple #[recVal (keptAt l n), .bool (keptAt l n).isSome]) ∧ Below W.heap.size W w') := hide fun n W hW =>
    kept_any n ((hW.cell hbl).trans hb) (h.evo (Evo.of_below (C := noC) hW) (noC_not _)) hl
  clear hb h
  go_enter Tryz.func92, Tryz.ntmps92
  go_wp2
  go_loopw [3] (fun i wr => Below w.heap.size w wr ∧ (∃ j : Nat, i = .int .i64 ((j : Int) + 1) ∧ j ≤ l.length ∧ Hid (∀ i : Nat, 1 ≤ i → i ≤ j → (keptAt l (i : Int)).isSome = true))) (fun i _ => l.length + 1 - (intOf i).toNat)
  case atStart => exact ⟨Below.refl _ _, ⟨0, rfl, by omega, hide (fun i h1 h2 => by omega)⟩⟩
  case round =>
    obtain ⟨hB, ⟨j, rfl, hj, hall⟩⟩ := hrel
    obtain ⟨x0, x1, x2, hrec⟩ := recVal_form (keptAt l ((j : Int) + 1))
    have HK := hide (HC.out ((j : Int) + 1) _ hB)
    have hsz := hB.size
    cases hkk : (keptAt l ((j : Int) + 1)).isSome
    · have HE := hide (sclOf_spec hall.out hkk)
      clear hall
      go_wp2_with fail
      refine HK.out.mono ?_
      rintro e w1 ⟨rfl, hb1⟩
      rw [hrec, hkk]
      clear hrec hkk
      go_wp2_with fail
      go_ret
      exact ⟨by rw [HE.out]; rfl, ((hB.trans (hb1.mono hsz)).alloc (by have := hb1.size; omega) _)⟩
    · have hall2 : ∀ i : Nat, 1 ≤ i → i ≤ j + 1 → (keptAt l (i : Int)).isSome = true := fun i h1 h2 => by
        rcases Nat.lt_succ_iff_lt_or_eq.1 (Nat.lt_succ_of_le h2) with h | h
        · exact hall.out i h1 (by omega)
        · subst h; simpa using hkk
      have hjb := kept_bound hall2
      have HA := hide hall2
      clear hall hall2
      go_wp2_with fail
      refine HK.out.mono ?_
      rintro e w1 ⟨rfl, hb1⟩
      rw [hrec, hkk]
      clear hrec hkk
      go_wp2_with fail
      go_roundw
      case rel => exact ⟨((hB.trans (hb1.mono hsz)).alloc (by have := hb1.size; omega) _), j + 1, by go_num, hjb, HA⟩
      case measure => simp [intOf]; omega

set_option maxHeartbeats 400000 in
theorem epoch_any {k : Nat → Nat} {w : World} {c b : Nat} {v : Value} {es : List Int} (hb : w.cell? ⟨b, 1, none⟩ = some v) (h : Rows k w c 3 1 v (es.map intRow)) (hne : 0 < es.length) (hl : es.length ≤ 4000000000) :
    Calls Tryz.prog 82 #[.pointer (some ⟨b, 0, none⟩)] w fun e w' => e = .returned (.int .i64 (es.getLastD 0)) ∧ Below w.heap.size w w' := by
  obtain ⟨a, cap, rfl, hc⟩ := ints_cells h
  obtain ⟨g, rfl, hcell⟩ := hc (es.length - 1) (by omega)
  have hlast : es.getLastD 0 = es[es.length - 1] := by
    rw [List.getLastD_eq_getLast?, List.getLast?_eq_getElem?, List.getElem?_eq_getElem (by omega)]; rfl
  have HL := hide hlast
  clear hlast hc h
  obtain ⟨n, hn⟩ : ∃ n, n = es.length - 1 := ⟨_, rfl⟩
  have hx : es[es.length - 1] = es[n]'(by omega) := by simp [hn]
  rw [hx] at hcell HL
  rw [← hn] at hcell
  have hlen : es.length = n + 1 := by omega
  generalize es[n]'(by omega) = z at *
  clear hx hn
  rw [hlen] at hb
  have hnl : n ≤ 4000000000 := by omega
  clear hlen hne hl
  go_enter Tryz.func82, Tryz.ntmps82
  go_wp2
  go_quiet (fail)
  go_wp2
  go_ret
  exact ⟨by rw [HL.out]; rfl, below_drewN (Below.refl _ _) _⟩

/-- A list of lists of cuts. -/
def ListsIs (k : Nat → Nat) (w : World) (c : Nat) (v : Value) (ls : List (List (Int × Int))) : Prop :=
  ∃ rows, Rows k w c 49 1 v rows ∧ All2 (fun l r => ∃ x, r = [x] ∧ CutsIm k w x l) ls rows

theorem ListsIs.evo {k k' : Nat → Nat} {w w' : World} {c : Nat} {v : Value} {ls : List (List (Int × Int))} {C : Nat → Prop} (h : ListsIs k w c v ls) (g : Evo k k' C w w') (hc : ¬ C c) (hi : ¬ C IM) : ListsIs k' w' c v ls := by
  obtain ⟨rows, h1, h2⟩ := h
  exact ⟨rows, h1.evo g hc, h2.imp fun l r ⟨x, hr, hx⟩ => ⟨x, hr, hx.evo g hi⟩⟩

theorem list_core (w : World) (b g n cap : Nat) (za : Option Addr) (zn zc : Nat) (hb : w.cell? ⟨b, 2, none⟩ = some (.slice (some ⟨g, 0, none⟩) (n + 1) cap)) (hcell : w.cell? ⟨g, n, none⟩ = some (.slice za zn zc)) (hnl : n ≤ 4000000000) :
    Calls Tryz.prog 89 #[.pointer (some ⟨b, 0, none⟩)] w fun e w' => e = .returned (.slice za zn zc) ∧ Below w.heap.size w w' := by
  go_enter Tryz.func89, Tryz.ntmps89
  go_wp2
  go_quiet (fail)
  go_wp2
  go_ret
  exact ⟨rfl, below_drewN (Below.refl _ _) _⟩

theorem list_in {k : Nat → Nat} {w W : World} {c b : Nat} {v : Value} {ls : List (List (Int × Int))} (hW : Below w.heap.size w W) (hb : w.cell? ⟨b, 2, none⟩ = some v) (h : ListsIs k w c v ls) (hne : 0 < ls.length) (hl : ls.length ≤ 4000000000) :
    Calls Tryz.prog 89 #[.pointer (some ⟨b, 0, none⟩)] W fun e w' => (∃ z, e = .returned z ∧ CutsIm k w z (ls.getLastD [])) ∧ Below W.heap.size W w' := by
  obtain ⟨rows, h1, h2⟩ := h
  have hlen := h2.1
  obtain ⟨g, cap, rfl, _, _, _, hc, _⟩ := h1.at (by omega)
  have hi : ls.length - 1 < ls.length := by omega
  obtain ⟨x, hr, hx⟩ := h2.2 (ls.length - 1) hi (by omega)
  have hcell := hc (ls.length - 1) 0 (by omega) (by omega)
  rw [hr] at hcell
  obtain ⟨za, zn, zc, rfl⟩ := Rows.shape hx
  have hlast : ls.getLastD [] = ls[ls.length - 1] := by
    rw [List.getLastD_eq_getLast?, List.getLast?_eq_getElem?, List.getElem?_eq_getElem hi]; rfl
  rw [hlast]
  have e1 : rows.length = (ls.length - 1) + 1 := by omega
  rw [e1] at hb
  have hcell2 : w.cell? ⟨g, ls.length - 1, none⟩ = some (.slice za zn zc) := by simpa using hcell
  refine (list_core W b g (ls.length - 1) cap za zn zc ((hW.cell (World.block_lt_of_cell? w _ hb)).trans hb) ((hW.cell (World.block_lt_of_cell? w _ hcell2)).trans hcell2) (by omega)).mono ?_
  rintro e w' ⟨rfl, hb'⟩
  exact ⟨⟨_, rfl, hx⟩, hb'⟩

theorem list_any {k : Nat → Nat} {w : World} {c b : Nat} {v : Value} {ls : List (List (Int × Int))} (hb : w.cell? ⟨b, 2, none⟩ = some v) (h : ListsIs k w c v ls) (hne : 0 < ls.length) (hl : ls.length ≤ 4000000000) :
    Calls Tryz.prog 89 #[.pointer (some ⟨b, 0, none⟩)] w fun e w' => (∃ z, e = .returned z ∧ CutsIm k w z (ls.getLastD [])) ∧ Below w.heap.size w w' :=
  list_in (Below.refl _ _) hb h hne hl
end Go.Proofs.YtfpbkghcjaonlaaGreat

/-
  sixfoldref: records, marks, come, sift.
-/
namespace Go.Proofs.YtfpbkghcjaonlaaGreat
open Go.RowKit

theorem Tryz.infoRecord : (Tryz.prog.info? 59).map (fun i => (i.zero, i.size, i.bytes)) = some (some (.agg #[.int .i64 0, .int .i64 0, .int .i64 0]), 3, 24) := by kernel_rfl
theorem Tryz.infoInt : (Tryz.prog.info? 3).map (fun i => (i.zero, i.size, i.bytes)) = some (some (.int .i64 0), 1, 8) := by kernel_rfl
theorem Tryz.infoCut : (Tryz.prog.info? 53).map (fun i => (i.zero, i.size, i.bytes)) = some (some (.agg #[.int .i64 0, .int .i64 0]), 2, 16) := by kernel_rfl
theorem Tryz.infoEntry : (Tryz.prog.info? 141).map (fun i => (i.zero, i.size, i.bytes)) = some (some (.agg #[.int .i64 0, .int .i64 0, .int .i64 0, .bool false, .bool false]), 5, 32) := by kernel_rfl

/-- The records of one kind with the numbers 1 to n. -/
def recsUp (l : List Ent) (kept : Bool) (n : Nat) : List Ent := (List.range n).filterMap fun (i : Nat) => (entIdx l ((i : Int) + 1)).bind fun j => l[j]?.bind fun e => if e.kept == kept then some e else none
def recRow (e : Ent) : List Value := [.int .i64 e.lsn, .int .i64 e.epoch, .int .i64 e.value]
theorem recsUp_succ (l : List Ent) (kept : Bool) (n : Nat) : recsUp l kept (n + 1) = recsUp l kept n ++ ((entIdx l ((n : Int) + 1)).bind fun j => l[j]?.bind fun e => if e.kept == kept then some e else none).toList := by
  unfold recsUp
  rw [List.range_succ, List.filterMap_append]
  congr 1
theorem recsUp_len (l : List Ent) (kept : Bool) (n : Nat) : (recsUp l kept n).length ≤ n := by
  unfold recsUp
  exact Nat.le_trans (List.length_filterMap_le _ _) (by simp)

set_option maxHeartbeats 1000000 in
theorem records_any {k : Nat → Nat} {w : World} {c b : Nat} {v : Value} {l : List Ent} (kept : Bool) (hb : w.cell? ⟨b, 3, none⟩ = some v) (h : Rows k w c 141 5 v (l.map entRow)) (hl : l.length ≤ 4000000000) :
    Calls Tryz.prog 101 #[.pointer (some ⟨b, 0, none⟩), .bool kept] w fun e w' => (∃ z, e = .returned z ∧ Made w' w.heap.size 59 3 z ((recsUp l kept 40).map recRow)) ∧ Below w.heap.size w w' := by
  have hbl := World.block_lt_of_cell? w _ hb
  have HC : Hid (∀ (n : Int) W, Below w.heap.size w W → Calls Tryz.prog 109 #[.pointer (some ⟨b, 0, none⟩), .int .i64 n] W fun e w' => e = .returned (.int .i64 (entI l n)) ∧ w' = W) := hide fun n W hW =>
    entry_any n ((hW.cell hbl).trans hb) (h.evo (Evo.of_below (C := noC) hW) (noC_not _)) hl
  obtain ⟨a, cap, rfl, hc⟩ := ents_cells h
  clear h
  go_enter Tryz.func101, Tryz.ntmps101
  go_wp2
  go_loopw [5, 6] (fun o i wr => Below w.heap.size w wr ∧ ∃ j : Nat, i = .int .i64 ((j : Int) + 1) ∧ j ≤ 40 ∧ Made wr w.heap.size 59 3 o ((recsUp l kept j).map recRow)) (fun _ i _ => 41 - (intOf i).toNat)
  case atStart => exact ⟨Below.refl _ _, 0, rfl, by omega, Made.nil _ _ _ _⟩
  case round =>
    obtain ⟨hB, j, rfl, hj, hM⟩ := hrel
    have hsz := hB.size
    have hs := recsUp_succ l kept j
    have hrl := recsUp_len l kept j
    by_cases hlt : j < 40
    · have HK := hide (HC.out ((j : Int) + 1) _ hB)
      cases hi : entIdx l ((j : Int) + 1) with
      | none =>
        have e1 : entI l ((j : Int) + 1) = -1 := by unfold entI; rw [hi]; rfl
        rw [hi] at hs
        have HS := hide hs
        clear hs hi
        go_wp2_with fail
        refine HK.out.mono ?_
        rintro e w1 ⟨rfl, rfl⟩
        rw [e1]
        clear e1
        go_wp2_with fail
        go_roundw
        case rel => exact ⟨hB, j + 1, by go_num, by omega, by rw [HS.out]; simpa using hM⟩
        case measure => simp [intOf]; omega
      | some x =>
        have hx := entIdx_lt hi
        have e1 : entI l ((j : Int) + 1) = x := by unfold entI; rw [hi]; rfl
        rw [hi] at hs
        simp only [Option.bind_some, List.getElem?_eq_getElem hx] at hs
        obtain ⟨g, rfl, _, h0, h1, h2, h3, _⟩ := hc x hx
        have hgl := World.block_lt_of_cell? w _ h0
        have q0 := (hB.cell (p := ⟨g, x * 5, none⟩) hgl).trans h0
        have q1 := (hB.cell (p := ⟨g, x * 5 + 1, none⟩) hgl).trans h1
        have q2 := (hB.cell (p := ⟨g, x * 5 + 2, none⟩) hgl).trans h2
        have q3 := (hB.cell (p := ⟨g, x * 5 + 3, none⟩) hgl).trans h3
        have qb := (hB.cell (p := ⟨b, 3, none⟩) hbl).trans hb
        have hb2 := Nat.lt_of_lt_of_le hbl hsz
        have hgl2 := Nat.lt_of_lt_of_le hgl hsz
        cases hkk : (l[x].kept == kept)
        · rw [if_neg (by simp [hkk])] at hs
          have HS := hide hs
          clear hs hi h0 h1 h2 h3 hc
          go_wp2_with fail
          refine HK.out.mono ?_
          rintro e w1 ⟨rfl, rfl⟩
          rw [e1]
          clear e1
          go_wp2_with fail
          go_roundw
          case rel => exact ⟨hB, j + 1, by go_num, by omega, by rw [HS.out]; simpa using hM⟩
          case measure => simp [intOf]; omega
        · rw [if_pos hkk] at hs
          have HS := hide hs
          clear hs hi h0 h1 h2 h3 hc
          have hM2 := hM.kept ((Below.refl _ _).alloc (Nat.le_refl _) (Obj.cells #[.int .i64 l[x].lsn, .int .i64 l[x].epoch, .int .i64 l[x].value] 59))
          go_wp2_with fail
          refine HK.out.mono ?_
          rintro e w1 ⟨rfl, rfl⟩
          rw [e1]
          clear e1
          go_wp2_with (at_builtin; go_must (refine wpList_append_made (.tmp 29) (.tmp 38) 55 59 _ 3 24 _ ((recsUp l kept j).map recRow) (recsUp l kept j).length (recRow l[x]) w.heap.size ⟨w1.heap.size, 0, none⟩ 1 (by simp) rfl rfl Tryz.underlying55 Tryz.infoRecord rfl (by decide) rfl rfl hM2 rfl (cell_one_new' _ _ _) (by simp [recRow, Value.oneCell']) (by simp only [maxLen]; omega) (by omega) (by simp; omega) ?_; intro ao cap2 w2 hM3 hB3))
          go_roundw
          case rel => exact ⟨((hB.alloc (by omega) _).trans hB3), j + 1, by go_num, by omega, by rw [HS.out]; simpa using hM3⟩
          case measure => simp [intOf]; omega
    · go_wp2
      have h40 : j = 40 := by omega
      subst h40
      go_ret
      exact ⟨⟨_, rfl, hM⟩, hB⟩
end Go.Proofs.YtfpbkghcjaonlaaGreat
