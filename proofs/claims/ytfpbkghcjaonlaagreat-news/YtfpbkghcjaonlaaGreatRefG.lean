/-
  sixfoldref: heardOf, noted, four.
-/
import Derived.Test.YtfpbkghcjaonlaaGreatRefF
namespace Go.Proofs.YtfpbkghcjaonlaaGreat
open Go.RowKit

/-- A slice of messages. -/
def MsgsIs (k : Nat → Nat) (w : World) (c : Nat) (v : Value) (ms : List Msg) : Prop := ∃ rows, Rows k w c 109 9 v rows ∧ All2 (MsgIs k w) ms rows

theorem MsgsIs.evo {k k' : Nat → Nat} {w w' : World} {c : Nat} {v : Value} {ms : List Msg} {C : Nat → Prop} (h : MsgsIs k w c v ms) (g : Evo k k' C w w') (hc : ¬ C c) (hi : ¬ C IM) : MsgsIs k' w' c v ms := by
  obtain ⟨rows, h1, h2⟩ := h
  exact ⟨rows, h1.evo g hc, h2.imp fun l r x => x.evo g hi⟩

theorem msgs_cells {k : Nat → Nat} {w : World} {c : Nat} {v : Value} {ms : List Msg} (h : MsgsIs k w c v ms) :
    ∃ a cap, v = .slice a ms.length cap ∧ ∀ i, (hi : i < ms.length) → ∃ b vc vm, a = some ⟨b, 0, none⟩ ∧ w.cell? ⟨b, i * 9, none⟩ = some (.int .i64 ms[i].kind) ∧ w.cell? ⟨b, i * 9 + 1, none⟩ = some (.int .i64 ms[i].frm) ∧
      w.cell? ⟨b, i * 9 + 2, none⟩ = some (.int .i64 ms[i].to_) ∧ w.cell? ⟨b, i * 9 + 3, none⟩ = some (.int .i64 ms[i].epoch) ∧ w.cell? ⟨b, i * 9 + 4, none⟩ = some (.int .i64 ms[i].lsn) ∧
      w.cell? ⟨b, i * 9 + 5, none⟩ = some (.int .i64 ms[i].value) ∧ w.cell? ⟨b, i * 9 + 6, none⟩ = some (.int .i64 ms[i].scl) ∧ w.cell? ⟨b, i * 9 + 7, none⟩ = some vc ∧ w.cell? ⟨b, i * 9 + 8, none⟩ = some vm ∧
      CutsIm k w vc ms[i].cuts ∧ IntsIm k w vm ms[i].marks := by
  obtain ⟨rows, h1, h2⟩ := h
  have hlen := h2.1
  obtain ⟨a, cap, rfl, _⟩ := h1.form
  refine ⟨a, cap, by rw [hlen], fun i hi => ?_⟩
  obtain ⟨b, cap', hv, _, _, _, hc, _⟩ := h1.at (by omega)
  simp at hv
  obtain ⟨vc, vm, hr, hcc, hmm⟩ := h2.2 i hi (by omega)
  have f : ∀ j, j < 9 → w.cell? ⟨b, i * 9 + j, none⟩ = (msgCells ms[i] vc vm)[j]? := fun j hj => by rw [hc i j (by omega) hj, hr]; rfl
  exact ⟨b, vc, vm, hv.1, f 0 (by omega), f 1 (by omega), f 2 (by omega), f 3 (by omega), f 4 (by omega), f 5 (by omega), f 6 (by omega), f 7 (by omega), f 8 (by omega), hcc, hmm⟩

def heardIn (ms : List Msg) (s : Int) : Bool := ms.any (fun m => m.frm == s)
theorem heardIn_take (ms : List Msg) (s : Int) (j : Nat) (h : j < ms.length) : heardIn (ms.take (j + 1)) s = (heardIn (ms.take j) s || (ms[j].frm == s)) := by
  unfold heardIn; rw [List.take_succ_eq_append_getElem h, List.any_append]; simp
theorem heardIn_hit (ms : List Msg) (s : Int) (j : Nat) (h : j < ms.length) (he : (ms[j].frm == s) = true) : heardIn ms s = true := by
  unfold heardIn; rw [List.any_eq_true]; exact ⟨ms[j], List.getElem_mem h, he⟩

set_option maxHeartbeats 1000000 in
theorem heardOf_any {k : Nat → Nat} {w : World} {c b : Nat} {v : Value} {ms : List Msg} (s : Int) (hb : w.cell? ⟨b, 0, none⟩ = some v) (h : MsgsIs k w c v ms) (hl : ms.length ≤ 4000000000) :
    Calls Tryz.prog 71 #[.pointer (some ⟨b, 0, none⟩), .int .i64 s] w fun e w' => e = .returned (.bool (heardIn ms s)) ∧ w' = w := by
  obtain ⟨a, cap, rfl, hc⟩ := msgs_cells h
  clear h
  go_enter Tryz.func71, Tryz.ntmps71
  go_wp2
  go_loop [5] (fun i => ∃ j : Nat, j ≤ ms.length ∧ i = .int .i64 j ∧ Hid (heardIn (ms.take j) s = false)) (fun i => ms.length - (intOf i).toNat)
  case atStart => exact ⟨0, Nat.zero_le _, rfl, hide rfl⟩
  case round =>
    obtain ⟨j, hk, rfl, hno⟩ := hrel
    by_cases hlt : j < ms.length
    · obtain ⟨g, vc, vm, rfl, _, h1, _⟩ := hc j hlt
      have ht := heardIn_take ms s j hlt
      cases he : (ms[j].frm == s)
      · rw [he, hno.out] at ht
        have HT := hide ht
        clear ht
        go_wp2
        go_round
        case rel => exact ⟨j + 1, by omega, by go_num, HT⟩
        case measure => simp [intOf]; omega
      · have HE := hide (heardIn_hit ms s j hlt he)
        clear ht
        go_wp2
        go_ret
        exact ⟨by rw [HE.out]; rfl, rfl⟩
    · have HE : Hid (heardIn ms s = false) := hide (by have := hno.out; rw [List.take_of_length_le (by omega)] at this; exact this)
      go_wp2
      go_ret
      exact ⟨by rw [HE.out]; rfl, rfl⟩

/-- What is noted of a segment. -/
def noteStep (s : Int) (n : Int) (m : Msg) : Int := if m.frm == s then (if n < m.scl then m.scl else n) else n
def notedN (ms : List Msg) (s : Int) : Int := ms.foldl (noteStep s) 0
theorem notedN_take (ms : List Msg) (s : Int) (j : Nat) (h : j < ms.length) : notedN (ms.take (j + 1)) s = noteStep s (notedN (ms.take j) s) ms[j] := by
  unfold notedN; rw [List.take_succ_eq_append_getElem h, List.foldl_append]; rfl

set_option maxHeartbeats 1000000 in
theorem noted_any {k : Nat → Nat} {w : World} {c b : Nat} {v : Value} {ms : List Msg} (s : Int) (hb : w.cell? ⟨b, 1, none⟩ = some v) (h : MsgsIs k w c v ms) (hl : ms.length ≤ 4000000000) :
    Calls Tryz.prog 72 #[.pointer (some ⟨b, 0, none⟩), .int .i64 s] w fun e w' => e = .returned (.tuple #[.int .i64 (notedN ms s), .bool (heardIn ms s)]) ∧ w' = w := by
  obtain ⟨a, cap, rfl, hc⟩ := msgs_cells h
  clear h
  go_enter Tryz.func72, Tryz.ntmps72
  go_wp2
  go_loop [6, 7, 8] (fun n y i => ∃ j : Nat, j ≤ ms.length ∧ i = .int .i64 j ∧ n = .int .i64 (notedN (ms.take j) s) ∧ y = .bool (heardIn (ms.take j) s)) (fun _ _ i => ms.length - (intOf i).toNat)
  case atStart => exact ⟨0, Nat.zero_le _, rfl, rfl, rfl⟩
  case round =>
    obtain ⟨j, hk, rfl, rfl, rfl⟩ := hrel
    by_cases hlt : j < ms.length
    · obtain ⟨g, vc, vm, rfl, _, h1, _, _, _, _, h6, _⟩ := hc j hlt
      have ht := heardIn_take ms s j hlt
      have hn := notedN_take ms s j hlt
      unfold noteStep at hn
      generalize notedN (ms.take j) s = x at *
      generalize heardIn (ms.take j) s = y at *
      cases he : (ms[j].frm == s)
      · rw [he] at ht hn
        rw [if_neg (by simp)] at hn
        have HT := hide ht
        have HN := hide hn
        clear ht hn
        go_wp2
        go_round
        case rel => exact ⟨j + 1, by omega, by go_num, by rw [HN.out], by rw [HT.out]; simp⟩
        case measure => simp [intOf]; omega
      · rw [he] at ht hn
        rw [if_pos (by simp)] at hn
        by_cases hx : x < ms[j].scl
        · rw [if_pos hx] at hn
          have HT := hide ht
          have HN := hide hn
          clear ht hn
          go_wp2
          go_round
          case rel => exact ⟨j + 1, by omega, by go_num, by rw [HN.out], by rw [HT.out]; simp⟩
          case measure => simp [intOf]; omega
        · rw [if_neg hx] at hn
          have HT := hide ht
          have HN := hide hn
          clear ht hn
          go_wp2
          go_round
          case rel => exact ⟨j + 1, by omega, by go_num, by rw [HN.out], by rw [HT.out]; simp⟩
          case measure => simp [intOf]; omega
    · have HE := hide (List.take_of_length_le (l := ms) (i := j) (by omega))
      go_wp2
      go_ret2
      exact ⟨by first | rfl | (rw [HE.out]; rfl), rfl⟩

/-- Do four segments that were heard reach n? -/
def reach (ms : List Msg) (n s : Int) : Bool := heardIn ms s && decide (n ≤ notedN ms s)
def reachUp (ms : List Msg) (n : Int) (j : Nat) : Nat := ((List.range j).filter fun (s : Nat) => reach ms n s).length
def fourOf (ms : List Msg) (n : Int) : Bool := decide (4 ≤ reachUp ms n 6)
theorem reachUp_succ (ms : List Msg) (n : Int) (j : Nat) : reachUp ms n (j + 1) = reachUp ms n j + if reach ms n j then 1 else 0 := by
  unfold reachUp; rw [List.range_succ, List.filter_append, List.length_append]
  cases h : reach ms n j <;> simp [h]
theorem reachUp_le (ms : List Msg) (n : Int) (j : Nat) : reachUp ms n j ≤ j := by
  unfold reachUp; exact Nat.le_trans (List.length_filter_le _ _) (by simp)

set_option maxHeartbeats 1000000 in
theorem four_any {k : Nat → Nat} {w : World} {c b : Nat} {v : Value} {ms : List Msg} (n : Int) (hb : w.cell? ⟨b, 1, none⟩ = some v) (h : MsgsIs k w c v ms) (hl : ms.length ≤ 4000000000) :
    Calls Tryz.prog 120 #[.pointer (some ⟨b, 0, none⟩), .int .i64 n] w fun e w' => e = .returned (.bool (fourOf ms n)) ∧ w' = w := by
  have HC : Hid (∀ s : Int, Calls Tryz.prog 72 #[.pointer (some ⟨b, 0, none⟩), .int .i64 s] w fun e w' => e = .returned (.tuple #[.int .i64 (notedN ms s), .bool (heardIn ms s)]) ∧ w' = w) := hide fun s => noted_any s hb h hl
  clear hb h
  go_enter Tryz.func120, Tryz.ntmps120
  go_wp2
  go_loopw [5, 6] (fun y i wr => wr = w ∧ ∃ j : Nat, j ≤ 6 ∧ i = .int .i64 j ∧ y = .int .i64 (reachUp ms n j)) (fun _ i _ => 6 - (intOf i).toNat)
  case atStart => exact ⟨rfl, 0, Nat.zero_le _, rfl, rfl⟩
  case round =>
    obtain ⟨rfl, j, hj, rfl, rfl⟩ := hrel
    have hle := reachUp_le ms n j
    by_cases hlt : j < 6
    · have HK := hide (HC.out (j : Int))
      have hs := reachUp_succ ms n j
      unfold reach at hs
      generalize reachUp ms n j = x at *
      cases hh : heardIn ms (j : Int)
      · rw [hh] at hs
        rw [if_neg (by simp)] at hs
        have HS := hide hs
        clear hs
        go_wp2_with fail
        refine HK.out.mono ?_
        rintro e w1 ⟨rfl, rfl⟩
        rw [hh]
        clear hh
        go_wp2_with fail
        go_roundw
        case rel => exact ⟨by trivial, j + 1, by omega, by go_num, by rw [HS.out]; rfl⟩
        case measure => simp [intOf]; omega
      · rw [hh] at hs
        by_cases hr : n ≤ notedN ms (j : Int)
        · rw [if_pos (by simp [hr])] at hs
          have HS := hide hs
          clear hs
          generalize notedN ms (j : Int) = z at *
          go_wp2_with fail
          refine HK.out.mono ?_
          rintro e w1 ⟨rfl, rfl⟩
          rw [hh]
          clear hh
          go_wp2_with fail
          go_roundw
          case rel => exact ⟨by trivial, j + 1, by omega, by go_num, by rw [HS.out]; go_num⟩
          case measure => simp [intOf]; omega
        · rw [if_neg (by simp; omega)] at hs
          have HS := hide hs
          clear hs
          generalize notedN ms (j : Int) = z at *
          go_wp2_with fail
          refine HK.out.mono ?_
          rintro e w1 ⟨rfl, rfl⟩
          rw [hh]
          clear hh
          go_wp2_with fail
          go_roundw
          case rel => exact ⟨by trivial, j + 1, by omega, by go_num, by rw [HS.out]; rfl⟩
          case measure => simp [intOf]; omega
    · have h6 : j = 6 := by omega
      subst h6
      have HF : Hid (fourOf ms n = decide ((4 : Int) ≤ (reachUp ms n 6 : Int))) := hide (by unfold fourOf; simp; omega)
      go_wp2
      go_ret
      exact ⟨by rw [HF.out]; rfl, rfl⟩
end Go.Proofs.YtfpbkghcjaonlaaGreat
