/-
  sixfoldref: records, marks, come, sift.
-/
import Derived.Test.YtfpbkghcjaonlaaGreatRefD
namespace Go.Proofs.YtfpbkghcjaonlaaGreat
open Go.RowKit

theorem Tryz.infoRecord : (Tryz.prog.info? 59).map (fun i => (i.zero, i.size, i.bytes)) = some (some (.agg #[.int .i64 0, .int .i64 0, .int .i64 0]), 3, 24) := by kernel_rfl
theorem Tryz.infoInt : (Tryz.prog.info? 3).map (fun i => (i.zero, i.size, i.bytes)) = some (some (.int .i64 0), 1, 8) := by kernel_rfl
theorem Tryz.infoCut : (Tryz.prog.info? 53).map (fun i => (i.zero, i.size, i.bytes)) = some (some (.agg #[.int .i64 0, .int .i64 0]), 2, 16) := by kernel_rfl
theorem Tryz.infoEntry : (Tryz.prog.info? 141).map (fun i => (i.zero, i.size, i.bytes)) = some (some (.agg #[.int .i64 0, .int .i64 0, .int .i64 0, .bool false, .bool false]), 5, 32) := by kernel_rfl

/-- The records of one kind with the numbers 1 to n. -/
def recsUp (l : List Ent) (kept : Bool) (n : Nat) : List Ent := (List.range n).filterMap fun (i : Nat) => (entIdx l ((i : Int) + 1)).bind fun j => l[j]?.bind fun e => if e.kept == kept then some e else none
def recRow (e : Ent) : List Value := [.int .i64 e.lsn, .int .i64 e.epoch, .int .i64 e.value]
theorem recsUp_succ (l : List Ent) (kept : Bool) (n : Nat) : recsUp l kept (n + 1) = recsUp l kept n ++ ((entIdx l ((n : Int) + 1)).bind fun j => l[j]?.bind fun e => if e.kept == kept then some e else none).toList := by
  unfold recsUp
  rw [List.range_succ, List.filterMap_append]
  congr 1
theorem recsUp_len (l : List Ent) (kept : Bool) (n : Nat) : (recsUp l kept n).length ≤ n := by
  unfold recsUp
  exact Nat.le_trans (List.length_filterMap_le _ _) (by simp)

set_option maxHeartbeats 1000000 in
theorem records_any {k : Nat → Nat} {w : World} {c b : Nat} {v : Value} {l : List Ent} (kept : Bool) (hb : w.cell? ⟨b, 3, none⟩ = some v) (h : Rows k w c 141 5 v (l.map entRow)) (hl : l.length ≤ 4000000000) :
    Calls Tryz.prog 101 #[.pointer (some ⟨b, 0, none⟩), .bool kept] w fun e w' => (∃ z, e = .returned z ∧ Made w' w.heap.size 59 3 z ((recsUp l kept 40).map recRow)) ∧ Below w.heap.size w w' := by
  have hbl := World.block_lt_of_cell? w _ hb
  have HC : Hid (∀ (n : Int) W, Below w.heap.size w W → Calls Tryz.prog 109 #[.pointer (some ⟨b, 0, none⟩), .int .i64 n] W fun e w' => e = .returned (.int .i64 (entI l n)) ∧ w' = W) := hide fun n W hW =>
    entry_any n ((hW.cell hbl).trans hb) (h.evo (Evo.of_below (C := noC) hW) (noC_not _)) hl
  obtain ⟨a, cap, rfl, hc⟩ := ents_cells h
  clear h
  go_enter Tryz.func101, Tryz.ntmps101
  go_wp2
  go_loopw [5, 6] (fun o i wr => Below w.heap.size w wr ∧ ∃ j : Nat, i = .int .i64 ((j : Int) + 1) ∧ j ≤ 40 ∧ Made wr w.heap.size 59 3 o ((recsUp l kept j).map recRow)) (fun _ i _ => 41 - (intOf i).toNat)
  case atStart => exact ⟨Below.refl _ _, 0, rfl, by omega, Made.nil _ _ _ _⟩
  case round =>
    obtain ⟨hB, j, rfl, hj, hM⟩ := hrel
    have hsz := hB.size
    have hs := recsUp_succ l kept j
    have hrl := recsUp_len l kept j
    by_cases hlt : j < 40
    · have HK := hide (HC.out ((j : Int) + 1) _ hB)
      cases hi : entIdx l ((j : Int) + 1) with
      | none =>
        have e1 : entI l ((j : Int) + 1) = -1 := by unfold entI; rw [hi]; rfl
        rw [hi] at hs
        have HS := hide hs
        clear hs hi
        go_wp2_with fail
        refine HK.out.mono ?_
        rintro e w1 ⟨rfl, rfl⟩
        rw [e1]
        clear e1
        go_wp2_with fail
        go_roundw
        case rel => exact ⟨hB, j + 1, by go_num, by omega, by rw [HS.out]; simpa using hM⟩
        case measure => simp [intOf]; omega
      | some x =>
        have hx := entIdx_lt hi
        have e1 : entI l ((j : Int) + 1) = x := by unfold entI; rw [hi]; rfl
        rw [hi] at hs
        simp only [Option.bind_some, List.getElem?_eq_getElem hx] at hs
        obtain ⟨g, rfl, _, h0, h1, h2, h3, _⟩ := hc x hx
        have hgl := World.block_lt_of_cell? w _ h0
        have q0 := (hB.cell (p := ⟨g, x * 5, none⟩) hgl).trans h0
        have q1 := (hB.cell (p := ⟨g, x * 5 + 1, none⟩) hgl).trans h1
        have q2 := (hB.cell (p := ⟨g, x * 5 + 2, none⟩) hgl).trans h2
        have q3 := (hB.cell (p := ⟨g, x * 5 + 3, none⟩) hgl).trans h3
        have qb := (hB.cell (p := ⟨b, 3, none⟩) hbl).trans hb
        have hb2 := Nat.lt_of_lt_of_le hbl hsz
        have hgl2 := Nat.lt_of_lt_of_le hgl hsz
        cases hkk : (l[x].kept == kept)
        · rw [if_neg (by simp [hkk])] at hs
          have HS := hide hs
          clear hs hi h0 h1 h2 h3 hc
          go_wp2_with fail
          refine HK.out.mono ?_
          rintro e w1 ⟨rfl, rfl⟩
          rw [e1]
          clear e1
          go_wp2_with fail
          go_roundw
          case rel => exact ⟨hB, j + 1, by go_num, by omega, by rw [HS.out]; simpa using hM⟩
          case measure => simp [intOf]; omega
        · rw [if_pos hkk] at hs
          have HS := hide hs
          clear hs hi h0 h1 h2 h3 hc
          have hM2 := hM.kept ((Below.refl _ _).alloc (Nat.le_refl _) (Obj.cells #[.int .i64 l[x].lsn, .int .i64 l[x].epoch, .int .i64 l[x].value] 59))
          go_wp2_with fail
          refine HK.out.mono ?_
          rintro e w1 ⟨rfl, rfl⟩
          rw [e1]
          clear e1
          go_wp2_with (at_builtin; go_must (refine wpList_append_made (.tmp 29) (.tmp 38) 55 59 _ 3 24 _ ((recsUp l kept j).map recRow) (recsUp l kept j).length (recRow l[x]) w.heap.size ⟨w1.heap.size, 0, none⟩ 1 (by simp) rfl rfl Tryz.underlying55 Tryz.infoRecord rfl (by decide) rfl rfl hM2 rfl (cell_one_new' _ _ _) (by simp [recRow, Value.oneCell']) (by simp only [maxLen]; omega) (by omega) (by simp; omega) ?_; intro ao cap2 w2 hM3 hB3))
          go_roundw
          case rel => exact ⟨((hB.alloc (by omega) _).trans hB3), j + 1, by go_num, by omega, by rw [HS.out]; simpa using hM3⟩
          case measure => simp [intOf]; omega
    · go_wp2
      have h40 : j = 40 := by omega
      subst h40
      go_ret
      exact ⟨⟨_, rfl, hM⟩, hB⟩
end Go.Proofs.YtfpbkghcjaonlaaGreat
