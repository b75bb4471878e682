/-
  sixfoldref: marks, come, sift.
-/
import Derived.Test.YtfpbkghcjaonlaaGreatRefE
import Derived.Deep.RegionLaw
namespace Go.Proofs.YtfpbkghcjaonlaaGreat
open Go.RowKit

def epochAt (l : List Ent) (n : Int) : Int := ((keptAt l n).map (·.epoch)).getD 0
def marksUp (l : List Ent) (n : Nat) : List Int := (List.range n).map fun (i : Nat) => epochAt l ((i : Int) + 1)
def marksOf (l : List Ent) : List Int := marksUp l (sclOf l)
theorem marksUp_succ (l : List Ent) (n : Nat) : marksUp l (n + 1) = marksUp l n ++ [epochAt l ((n : Int) + 1)] := by
  unfold marksUp; rw [List.range_succ, List.map_append]; rfl
theorem marksUp_len (l : List Ent) (n : Nat) : (marksUp l n).length = n := by simp [marksUp]
theorem sclUp_le (l : List Ent) : ∀ f n, sclUp l f n ≤ n + f := by
  intro f
  induction f with
  | zero => intro n; simp [sclUp]
  | succ f ih =>
    intro n
    simp only [sclUp]
    split
    · have := ih (n + 1); omega
    · omega
theorem sclOf_le (l : List Ent) : sclOf l ≤ l.length := by have := sclUp_le l l.length 0; unfold sclOf; omega
theorem recVal_epoch (l : List Ent) (n : Int) : ∃ a c : Int, recVal (keptAt l n) = .agg #[.int .i64 a, .int .i64 (epochAt l n), .int .i64 c] := by
  unfold epochAt
  cases keptAt l n with
  | none => exact ⟨_, _, rfl⟩
  | some e => exact ⟨_, _, rfl⟩

set_option maxHeartbeats 1000000 in
theorem marks_any {k : Nat → Nat} {w : World} {c b : Nat} {v : Value} {l : List Ent} (hb : w.cell? ⟨b, 3, none⟩ = some v) (h : Rows k w c 141 5 v (l.map entRow)) (hl : l.length ≤ 4000000000) :
    Calls Tryz.prog 126 #[.pointer (some ⟨b, 0, none⟩)] w fun e w' => (∃ z, e = .returned z ∧ Made w' w.heap.size 3 1 z ((marksOf l).map intRow)) ∧ Below w.heap.size w w' := by
  have hbl := World.block_lt_of_cell? w _ hb
  have HS := hide (scl_any hb h hl)
  have HC : Hid (∀ (n : Int) W, Below w.heap.size w W → Calls Tryz.prog 84 #[.pointer (some ⟨b, 0, none⟩), .int .i64 n] W fun e w' => e = .returned (.tuple #[recVal (keptAt l n), .bool (keptAt l n).isSome]) ∧ Below W.heap.size W w') := hide fun n W hW =>
    kept_any n ((hW.cell hbl).trans hb) (h.evo (Evo.of_below (C := noC) hW) (noC_not _)) hl
  have hsl := sclOf_le l
  clear hb h
  go_enter Tryz.func126, Tryz.ntmps126
  go_wp2_with fail
  refine HS.out.mono ?_
  rintro e w0 ⟨rfl, hb0⟩
  clear HS
  go_wp2_with fail
  go_loopw [3, 5] (fun o i wr => Below w.heap.size w wr ∧ ∃ j : Nat, i = .int .i64 ((j : Int) + 1) ∧ j ≤ sclOf l ∧ Made wr w.heap.size 3 1 o ((marksUp l j).map intRow)) (fun _ i _ => sclOf l + 1 - (intOf i).toNat)
  case atStart => exact ⟨hb0, 0, rfl, by omega, Made.nil _ _ _ _⟩
  case round =>
    obtain ⟨hB, j, rfl, hj, hM⟩ := hrel
    have hsz := hB.size
    have HU := hide (marksUp_succ l j)
    have hul := marksUp_len l j
    by_cases hlt : j < sclOf l
    · have HK := hide (HC.out ((j : Int) + 1) _ hB)
      obtain ⟨x0, x2, hrec⟩ := recVal_epoch l ((j : Int) + 1)
      generalize epochAt l ((j : Int) + 1) = x1 at *
      go_wp2_with fail
      refine HK.out.mono ?_
      rintro e w1 ⟨rfl, hb1⟩
      rw [hrec]
      clear hrec
      generalize (keptAt l ((j : Int) + 1)).isSome = kk at *
      have hb2 : Below wr.heap.size wr ((w1.alloc (Obj.cells #[.int .i64 x0, .int .i64 x1, .int .i64 x2] 59)).alloc (Obj.cells #[.int .i64 x1] 3)) := (hb1.alloc hb1.size _).alloc (by have := hb1.size; simp; omega) _
      have hM2 := hM.kept hb2
      have hs1 := hb1.size
      go_wp2_with (at_builtin; go_must (refine wpList_append_made (.tmp 21) (.tmp 24) 61 3 _ 1 8 _ ((marksUp l j).map intRow) j (intRow x1) w.heap.size ⟨w1.heap.size + 1, 0, none⟩ 1 (by simp [hul]) rfl rfl Tryz.underlying61 Tryz.infoInt rfl (by decide) rfl rfl hM2 rfl (cell_two_new' _ _ _ _) (by simp [intRow, Value.oneCell']) (by simp only [maxLen]; omega) (by omega) (by simp; omega) ?_; intro ao cap2 w2 hM3 hB3))
      · go_roundw
        case rel => exact ⟨((hB.trans (hb2.mono hsz)).trans hB3), j + 1, by go_num, by omega, by rw [HU.out]; simpa using hM3⟩
        case measure => simp [intOf]; omega
    · have hje : j = sclOf l := by omega
      go_wp2
      go_ret
      exact ⟨⟨_, rfl, by unfold marksOf; rw [← hje]; exact hM⟩, hB⟩

/-- What comes to a segment. -/
def comeTo (l : List Ent) (r : Int × Int × Int) : List Ent := if entIdx l r.1 = none then l ++ [⟨r.1, r.2.1, r.2.2, false, false⟩] else l

set_option maxHeartbeats 1000000 in
theorem come_no (w : World) (b : Nat) (x0 x1 x2 : Int) (i : Nat)
    (hcall : ∀ W, Below w.heap.size w W → Calls Tryz.prog 109 #[.pointer (some ⟨b, 0, none⟩), .int .i64 x0] W fun e w' => e = .returned (.int .i64 i) ∧ w' = W) :
    Calls Tryz.prog 125 #[.pointer (some ⟨b, 0, none⟩), .agg #[.int .i64 x0, .int .i64 x1, .int .i64 x2]] w fun e w' => e = .returned (.tuple #[]) ∧ Below w.heap.size w w' := by
  have HC := hide hcall
  clear hcall
  go_enter Tryz.func125, Tryz.ntmps125
  go_wp2_with fail
  refine (HC.out _ ((Below.refl _ _).alloc (Nat.le_refl _) _)).mono ?_
  rintro e w1 ⟨rfl, rfl⟩
  go_wp2_with fail
  go_end0
  exact ⟨rfl, (Below.refl _ _).alloc (Nat.le_refl _) _⟩

set_option maxHeartbeats 1000000 in
theorem come_yes {k : Nat → Nat} {w : World} {cB cN b : Nat} {vU vE vL vN : Value} {l : List Ent} (x0 x1 x2 : Int) (hne : cB ≠ cN) (hB : Blk k w cB b 89 [vU, vE, vL, vN]) (h : Rows k w cN 141 5 vN (l.map entRow)) (hl : l.length ≤ 4000000000)
    (hcall : ∀ W, Below w.heap.size w W → Calls Tryz.prog 109 #[.pointer (some ⟨b, 0, none⟩), .int .i64 x0] W fun e w' => e = .returned (.int .i64 (-1)) ∧ w' = W) :
    Calls Tryz.prog 125 #[.pointer (some ⟨b, 0, none⟩), .agg #[.int .i64 x0, .int .i64 x1, .int .i64 x2]] w fun e w' => e = .returned (.tuple #[]) ∧
      ∃ k' vN', Evo k k' (fun c => c = cB ∨ c = cN) w w' ∧ Blk k' w' cB b 89 [vU, vE, vL, vN'] ∧ Rows k' w' cN 141 5 vN' ((l ++ [Ent.mk x0 x1 x2 false false]).map entRow) := by
  have HC := hide hcall
  clear hcall
  have y3 : w.cell? ⟨b, 3, none⟩ = some vN := by rw [hB.cell]; rfl
  have hbl := hB.lt
  have e2 : Evo k k noC w ((w.alloc (Obj.cells #[.int .i64 x0, .int .i64 x1, .int .i64 x2] 59)).alloc (Obj.cells #[.int .i64 x0, .int .i64 x1, .int .i64 x2, .bool false, .bool false] 141)).drew := (((Evo.refl k noC w).alloc _).alloc _).drew
  have hR := h.evo e2 (noC_not _)
  have hB1 := hB.evo e2 (noC_not _)
  go_enter Tryz.func125, Tryz.ntmps125
  go_wp2_with fail
  refine (HC.out _ ((Below.refl _ _).alloc (Nat.le_refl _) _)).mono ?_
  rintro e w1 ⟨rfl, rfl⟩
  go_wp2_with fail
  go_region_law
    (refine step_append_rows k cN (.tmp 15) (.tmp 18) 87 141 _ 5 32 vN (l.map entRow) [entRow ⟨x0, x1, x2, false, false⟩] l.length ⟨w.heap.size + 1, 0, none⟩ 1 1 (by simp) rfl rfl Tryz.underlying87 Tryz.infoEntry rfl (by decide) rfl rfl hR rfl (by simp [entRow]) (cell_two_new' w _ (entRow ⟨x0, x1, x2, false, false⟩) _) (by simp [entRow, Value.oneCell']) (by simp only [maxLen]; omega) (by omega) ?_; intro ao1 cap1 w1 k1 hR1 hE1; have y2' : w1.cell? ⟨b, 3, none⟩ = some vN := (hB1.evo hE1 hne).cell 3; have yf' : w1.frozen? ⟨b, 3, none⟩ = false := (hB1.evo hE1 hne).free 3)
  all_goals go_end0
  all_goals
    obtain ⟨f1, f2, f3⟩ := push_fin e2 hB1 hne hR1 hE1 3
    exact ⟨rfl, k1, _, f1, f2, by rw [List.map_append]; exact f3⟩

theorem come_any {k : Nat → Nat} {w : World} {cB cN b : Nat} {vU vE vL vN : Value} {l : List Ent} (x0 x1 x2 : Int) (hne : cB ≠ cN) (hB : Blk k w cB b 89 [vU, vE, vL, vN]) (h : Rows k w cN 141 5 vN (l.map entRow)) (hl : l.length ≤ 4000000000) :
    Calls Tryz.prog 125 #[.pointer (some ⟨b, 0, none⟩), .agg #[.int .i64 x0, .int .i64 x1, .int .i64 x2]] w fun e w' => e = .returned (.tuple #[]) ∧
      ∃ k' vN', Evo k k' (fun c => c = cB ∨ c = cN) w w' ∧ Blk k' w' cB b 89 [vU, vE, vL, vN'] ∧ Rows k' w' cN 141 5 vN' ((comeTo l (x0, x1, x2)).map entRow) := by
  have y3 : w.cell? ⟨b, 3, none⟩ = some vN := by rw [hB.cell]; rfl
  have hcall : ∀ W, Below w.heap.size w W → Calls Tryz.prog 109 #[.pointer (some ⟨b, 0, none⟩), .int .i64 x0] W fun e w' => e = .returned (.int .i64 (entI l x0)) ∧ w' = W := fun W hW =>
    entry_any x0 ((hW.cell hB.lt).trans y3) (h.evo (Evo.of_below (C := noC) hW) (noC_not _)) hl
  unfold comeTo
  cases hi : entIdx l x0 with
  | none =>
    have e1 : entI l x0 = -1 := by unfold entI; rw [hi]; rfl
    rw [e1] at hcall
    simpa using come_yes x0 x1 x2 hne hB h hl hcall
  | some i =>
    have e1 : entI l x0 = i := by unfold entI; rw [hi]; rfl
    rw [e1] at hcall
    refine (come_no w b x0 x1 x2 i hcall).mono ?_
    rintro e w' ⟨rfl, hb⟩
    have ev : Evo k k noC w w' := Evo.of_below hb
    exact ⟨rfl, k, vN, ev.mono (fun _ h => h.elim), hB.evo ev (noC_not _), by simpa using h.evo ev (noC_not _)⟩

/-- What is not good by a list is gone. -/
def siftBy (cs : List (Int × Int)) (e : Ent) : Ent := if good cs e.lsn e.epoch then e else { e with gone := true }
def siftUp (cs : List (Int × Int)) (l : List Ent) (n : Nat) : List Ent := (l.take n).map (siftBy cs) ++ l.drop n

theorem siftUp_at (cs : List (Int × Int)) (l : List Ent) (j : Nat) (h : j < l.length) : (siftUp cs l j)[j]'(by simp [siftUp]; omega) = l[j] := by
  unfold siftUp
  rw [List.getElem_append_right (by simp; omega)]
  simp [show min j l.length = j from by omega]
theorem siftUp_succ (cs : List (Int × Int)) (l : List Ent) (j : Nat) (h : j < l.length) : siftUp cs l (j + 1) = (siftUp cs l j).set j (siftBy cs l[j]) := by
  unfold siftUp
  rw [List.set_append_right _ _ (by simp; omega)]
  simp only [List.length_map, List.length_take]
  rw [show j - min j l.length = 0 from by omega, List.drop_eq_getElem_cons h, List.set_cons_zero, List.take_succ_eq_append_getElem h, List.map_append]
  simp
theorem siftBy_same {cs : List (Int × Int)} {l : List Ent} {j : Nat} (h : j < l.length) (hg : good cs l[j].lsn l[j].epoch = true) : siftUp cs l (j + 1) = siftUp cs l j := by
  rw [siftUp_succ cs l j h]
  have e : siftBy cs l[j] = (siftUp cs l j)[j]'(by simp [siftUp]; omega) := by rw [siftUp_at cs l j h]; unfold siftBy; rw [if_pos hg]
  rw [e, List.set_getElem_self]

set_option maxHeartbeats 1000000 in
theorem sift_any {k : Nat → Nat} {w : World} {cB cN b : Nat} {vU vE vL vN vc : Value} {l : List Ent} {cs : List (Int × Int)} (hne : cB ≠ cN) (hni : cN ≠ IM) (hB : Blk k w cB b 89 [vU, vE, vL, vN]) (h : Rows k w cN 141 5 vN (l.map entRow)) (hl : l.length ≤ 4000000000)
    (hc : CutsIm k w vc cs) (hcl : cs.length ≤ 4000000000) :
    Calls Tryz.prog 127 #[.pointer (some ⟨b, 0, none⟩), vc] w fun e w' => e = .returned (.tuple #[]) ∧
      Evo k k (fun c => c = cN) w w' ∧ Rows k w' cN 141 5 vN ((l.map (siftBy cs)).map entRow) := by
  obtain ⟨va, vn, vcap, hvc⟩ := Rows.shape hc
  subst hvc
  go_enter Tryz.func127, Tryz.ntmps127
  go_wp2
  go_loopw [4] (fun i wr => Evo k k (fun c => c = cN) w wr ∧ ∃ j : Nat, i = .int .i64 j ∧ j ≤ l.length ∧ Rows k wr cN 141 5 vN ((siftUp cs l j).map entRow)) (fun i _ => l.length - (intOf i).toNat)
  case atStart => exact ⟨Evo.refl _ _ _, 0, rfl, by omega, by simpa [siftUp] using h⟩
  case round =>
    obtain ⟨hE, j, rfl, hj, hR⟩ := hrel
    have hB2 := hB.evo hE hne
    have y3 : wr.cell? ⟨b, 3, none⟩ = some vN := hB2.cell 3
    have hul : (siftUp cs l j).length = l.length := by simp [siftUp]; omega
    obtain ⟨a, cap, hv, hcells⟩ := ents_cells hR
    rw [hul] at hv
    subst hv
    by_cases hlt : j < l.length
    · obtain ⟨g, rfl, hcol, h0, h1, h2, h3, h4, hf⟩ := hcells j (by omega)
      have hu := siftUp_at cs l j hlt
      rw [hu] at h0 h1 h2 h3 h4
      have HG : Hid (∀ nq, Calls Tryz.prog 106 #[.int .i64 l[j].lsn, .int .i64 l[j].epoch, .slice va vn vcap] (wr.drewN nq) fun e w' => e = .returned (.bool (good cs l[j].lsn l[j].epoch)) ∧ w' = wr.drewN nq) := hide fun nq => good_any l[j].lsn l[j].epoch (Rows.of_heap (w := wr) rfl (hc.evo hE (fun e => hni e.symm))) hcl
      have hf4 := hf (j * 5 + 4)
      have HU := hide (siftUp_succ cs l j hlt)
      clear hf hcells hu
      cases hgood : good cs l[j].lsn l[j].epoch
      · go_wp2_with fail
        go_quiet ((go_at_call 106; exact Calls.quiet_of_same (HG.out _)))
        rw [hgood]
        go_wp2
        go_roundw
        case rel =>
          refine ⟨(hE.drewN nq).setCell _ _ (fun _ => hcol), j + 1, by go_num, by omega, ?_⟩
          have hR2 := Rows.of_heap (w := wr) (w' := wr.drewN nq) rfl hR
          have hs := hR2.set j 4 (by simp; omega) (by omega) (.bool true)
          rw [HU.out]
          have e2 : (siftUp cs l j).set j (siftBy cs l[j]) = (siftUp cs l j).set j { (siftUp cs l j)[j]'(by omega) with gone := true } := by
            rw [siftUp_at cs l j hlt]; unfold siftBy; rw [hgood]; rfl
          rw [e2, List.map_set]
          simpa [entRow] using hs
        case measure => simp [intOf]; omega
      · have HS := hide (siftBy_same hlt hgood)
        go_wp2_with fail
        go_quiet ((go_at_call 106; exact Calls.quiet_of_same (HG.out _)))
        rw [hgood]
        go_wp2
        go_roundw
        case rel => exact ⟨hE.drewN nq, j + 1, by go_num, by omega, by rw [HS.out]; exact Rows.of_heap (w := wr) rfl hR⟩
        case measure => simp [intOf]; omega
    · have hje : j = l.length := by omega
      go_wp2
      go_end0
      subst hje
      exact ⟨rfl, hE, by simpa [siftUp] using hR⟩
end Go.Proofs.YtfpbkghcjaonlaaGreat
