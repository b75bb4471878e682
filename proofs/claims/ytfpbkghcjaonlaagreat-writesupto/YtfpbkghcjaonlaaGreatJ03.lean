import Derived.Test.YtfpbkghcjaonlaaGreatJ02
import Derived.Deep.RegionLaw
/-
  sixfoldref: marks, come, sift.
-/
namespace Go.Proofs.YtfpbkghcjaonlaaGreat
open Go.RowKit

def epochAt (l : List Ent) (n : Int) : Int := ((keptAt l n).map (·.epoch)).getD 0
def marksUp (l : List Ent) (n : Nat) : List Int := (List.range n).map fun (i : Nat) => epochAt l ((i : Int) + 1)
def marksOf (l : List Ent) : List Int := marksUp l (sclOf l)
theorem marksUp_succ (l : List Ent) (n : Nat) : marksUp l (n + 1) = marksUp l n ++ [epochAt l ((n : Int) + 1)] := by
  unfold marksUp; rw [List.range_succ, List.map_append]; rfl
theorem marksUp_len (l : List Ent) (n : Nat) : (marksUp l n).length = n := by simp [marksUp]
theorem sclUp_le (l : List Ent) : ∀ f n, sclUp l f n ≤ n + f := by
  intro f
  induction f with
  | zero => intro n; simp [sclUp]
  | succ f ih =>
    intro n
    simp only [sclUp]
    split
    · have := ih (n + 1); omega
    · omega
theorem sclOf_le (l : List Ent) : sclOf l ≤ l.length := by have := sclUp_le l l.length 0; unfold sclOf; omega
theorem recVal_epoch (l : List Ent) (n : Int) : ∃ a c : Int, recVal (keptAt l n) = .agg #[.int .i64 a, .int .i64 (epochAt l n), .int .i64 c] := by
  unfold epochAt
  cases keptAt l n with
  | none => exact ⟨_, _, rfl⟩
  | some e => exact ⟨_, _, rfl⟩

set_option maxHeartbeats 1000000 in
theorem marks_any {k : Nat → Nat} {w : World} {c b : Nat} {v : Value} {l : List Ent} (hb : w.cell? ⟨b, 3, none⟩ = some v) (h : Rows k w c 141 5 v (l.map entRow)) (hl : l.length ≤ 4000000000) :
    Calls Tryz.prog 126 #[.pointer (some ⟨b, 0, none⟩)] w fun e w' => (∃ z, e = .returned z ∧ Made w' w.heap.size 3 1 z ((marksOf l).map intRow)) ∧ Below w.heap.size w w' := by
  have hbl := World.block_lt_of_cell? w _ hb
  have HS := hide (scl_any hb h hl)
  have HC : Hid (∀ (n : Int) W, Below w.heap.size w W → Calls Tryz.prog 84 #[.pointer (some ⟨b, 0, none⟩), .int .i64 n] W fun e w' => e = .returned (.tuple #[recVal (keptAt l n), .bool (keptAt l n).isSome]) ∧ Below W.heap.size W w') := hide fun n W hW =>
    kept_any n ((hW.cell hbl).trans hb) (h.evo (Evo.of_below (C := noC) hW) (noC_not _)) hl
  have hsl := sclOf_le l
  clear hb h
  go_enter Tryz.func126, Tryz.ntmps126
  go_wp2_with fail
  refine HS.out.mono ?_
  rintro e w0 ⟨rfl, hb0⟩
  clear HS
  go_wp2_with fail
  go_loopw [3, 5] (fun o i wr => Below w.heap.size w wr ∧ ∃ j : Nat, i = .int .i64 ((j : Int) + 1) ∧ j ≤ sclOf l ∧ Made wr w.heap.size 3 1 o ((marksUp l j).map intRow)) (fun _ i _ => sclOf l + 1 - (intOf i).toNat)
  case atStart => exact ⟨hb0, 0, rfl, by omega, Made.nil _ _ _ _⟩
  case round =>
    obtain ⟨hB, j, rfl, hj, hM⟩ := hrel
    have hsz := hB.size
    have HU := hide (marksUp_succ l j)
    have hul := marksUp_len l j
    by_cases hlt : j < sclOf l
    · have HK := hide (HC.out ((j : Int) + 1) _ hB)
      obtain ⟨x0, x2, hrec⟩ := recVal_epoch l ((j : Int) + 1)
      generalize epochAt l ((j : Int) + 1) = x1 at *
      go_wp2_with fail
      refine HK.out.mono ?_
      rintro e w1 ⟨rfl, hb1⟩
      rw [hrec]
      clear hrec
      generalize (keptAt l ((j : Int) + 1)).isSome = kk at *
      have hb2 : Below wr.heap.size wr ((w1.alloc (Obj.cells #[.int .i64 x0, .int .i64 x1, .int .i64 x2] 59)).alloc (Obj.cells #[.int .i64 x1] 3)) := (hb1.alloc hb1.size _).alloc (by have := hb1.size; simp; omega) _
      have hM2 := hM.kept hb2
      have hs1 := hb1.size
      go_wp2_with (at_builtin; go_must (refine wpList_append_made (.tmp 21) (.tmp 24) 61 3 _ 1 8 _ ((marksUp l j).map intRow) j (intRow x1) w.heap.size ⟨w1.heap.size + 1, 0, none⟩ 1 (by simp [hul]) rfl rfl Tryz.underlying61 Tryz.infoInt rfl (by decide) rfl rfl hM2 rfl (cell_two_new' _ _ _ _) (by simp [intRow, Value.oneCell']) (by simp only [maxLen]; omega) (by omega) (by simp; omega) ?_; intro ao cap2 w2 hM3 hB3))
      · go_roundw
        case rel => exact ⟨((hB.trans (hb2.mono hsz)).trans hB3), j + 1, by go_num, by omega, by rw [HU.out]; simpa using hM3⟩
        case measure => simp [intOf]; omega
    · have hje : j = sclOf l := by omega
      go_wp2
      go_ret
      exact ⟨⟨_, rfl, by unfold marksOf; rw [← hje]; exact hM⟩, hB⟩

/-- What comes to a segment. -/
def comeTo (l : List Ent) (r : Int × Int × Int) : List Ent := if entIdx l r.1 = none then l ++ [⟨r.1, r.2.1, r.2.2, false, false⟩] else l

set_option maxHeartbeats 1000000 in
theorem come_no (w : World) (b : Nat) (x0 x1 x2 : Int) (i : Nat)
    (hcall : ∀ W, Below w.heap.size w W → Calls Tryz.prog 109 #[.pointer (some ⟨b, 0, none⟩), .int .i64 x0] W fun e w' => e = .returned (.int .i64 i) ∧ w' = W) :
    Calls Tryz.prog 125 #[.pointer (some ⟨b, 0, none⟩), .agg #[.int .i64 x0, .int .i64 x1, .int .i64 x2]] w fun e w' => e = .returned (.tuple #[]) ∧ Below w.heap.size w w' := by
  have HC := hide hcall
  clear hcall
  go_enter Tryz.func125, Tryz.ntmps125
  go_wp2_with fail
  refine (HC.out _ ((Below.refl _ _).alloc (Nat.le_refl _) _)).mono ?_
  rintro e w1 ⟨rfl, rfl⟩
  go_wp2_with fail
  go_end0
  exact ⟨rfl, (Below.refl _ _).alloc (Nat.le_refl _) _⟩

set_option maxHeartbeats 1000000 in
theorem come_yes {k : Nat → Nat} {w : World} {cB cN b : Nat} {vU vE vL vN : Value} {l : List Ent} (x0 x1 x2 : Int) (hne : cB ≠ cN) (hB : Blk k w cB b 89 [vU, vE, vL, vN]) (h : Rows k w cN 141 5 vN (l.map entRow)) (hl : l.length ≤ 4000000000)
    (hcall : ∀ W, Below w.heap.size w W → Calls Tryz.prog 109 #[.pointer (some ⟨b, 0, none⟩), .int .i64 x0] W fun e w' => e = .returned (.int .i64 (-1)) ∧ w' = W) :
    Calls Tryz.prog 125 #[.pointer (some ⟨b, 0, none⟩), .agg #[.int .i64 x0, .int .i64 x1, .int .i64 x2]] w fun e w' => e = .returned (.tuple #[]) ∧
      ∃ k' vN', Evo k k' (fun c => c = cB ∨ c = cN) w w' ∧ Blk k' w' cB b 89 [vU, vE, vL, vN'] ∧ Rows k' w' cN 141 5 vN' ((l ++ [Ent.mk x0 x1 x2 false false]).map entRow) := by
  have HC := hide hcall
  clear hcall
  have y3 : w.cell? ⟨b, 3, none⟩ = some vN := by rw [hB.cell]; rfl
  have hbl := hB.lt
  have e2 : Evo k k noC w ((w.alloc (Obj.cells #[.int .i64 x0, .int .i64 x1, .int .i64 x2] 59)).alloc (Obj.cells #[.int .i64 x0, .int .i64 x1, .int .i64 x2, .bool false, .bool false] 141)).drew := (((Evo.refl k noC w).alloc _).alloc _).drew
  have hR := h.evo e2 (noC_not _)
  have hB1 := hB.evo e2 (noC_not _)
  go_enter Tryz.func125, Tryz.ntmps125
  go_wp2_with fail
  refine (HC.out _ ((Below.refl _ _).alloc (Nat.le_refl _) _)).mono ?_
  rintro e w1 ⟨rfl, rfl⟩
  go_wp2_with fail
  go_region_law
    (refine step_append_rows k cN (.tmp 15) (.tmp 18) 87 141 _ 5 32 vN (l.map entRow) [entRow ⟨x0, x1, x2, false, false⟩] l.length ⟨w.heap.size + 1, 0, none⟩ 1 1 (by simp) rfl rfl Tryz.underlying87 Tryz.infoEntry rfl (by decide) rfl rfl hR rfl (by simp [entRow]) (cell_two_new' w _ (entRow ⟨x0, x1, x2, false, false⟩) _) (by simp [entRow, Value.oneCell']) (by simp only [maxLen]; omega) (by omega) ?_; intro ao1 cap1 w1 k1 hR1 hE1; have y2' : w1.cell? ⟨b, 3, none⟩ = some vN := (hB1.evo hE1 hne).cell 3; have yf' : w1.frozen? ⟨b, 3, none⟩ = false := (hB1.evo hE1 hne).free 3)
  all_goals go_end0
  all_goals
    obtain ⟨f1, f2, f3⟩ := push_fin e2 hB1 hne hR1 hE1 3
    exact ⟨rfl, k1, _, f1, f2, by rw [List.map_append]; exact f3⟩

theorem come_any {k : Nat → Nat} {w : World} {cB cN b : Nat} {vU vE vL vN : Value} {l : List Ent} (x0 x1 x2 : Int) (hne : cB ≠ cN) (hB : Blk k w cB b 89 [vU, vE, vL, vN]) (h : Rows k w cN 141 5 vN (l.map entRow)) (hl : l.length ≤ 4000000000) :
    Calls Tryz.prog 125 #[.pointer (some ⟨b, 0, none⟩), .agg #[.int .i64 x0, .int .i64 x1, .int .i64 x2]] w fun e w' => e = .returned (.tuple #[]) ∧
      ∃ k' vN', Evo k k' (fun c => c = cB ∨ c = cN) w w' ∧ Blk k' w' cB b 89 [vU, vE, vL, vN'] ∧ Rows k' w' cN 141 5 vN' ((comeTo l (x0, x1, x2)).map entRow) := by
  have y3 : w.cell? ⟨b, 3, none⟩ = some vN := by rw [hB.cell]; rfl
  have hcall : ∀ W, Below w.heap.size w W → Calls Tryz.prog 109 #[.pointer (some ⟨b, 0, none⟩), .int .i64 x0] W fun e w' => e = .returned (.int .i64 (entI l x0)) ∧ w' = W := fun W hW =>
    entry_any x0 ((hW.cell hB.lt).trans y3) (h.evo (Evo.of_below (C := noC) hW) (noC_not _)) hl
  unfold comeTo
  cases hi : entIdx l x0 with
  | none =>
    have e1 : entI l x0 = -1 := by unfold entI; rw [hi]; rfl
    rw [e1] at hcall
    simpa using come_yes x0 x1 x2 hne hB h hl hcall
  | some i =>
    have e1 : entI l x0 = i := by unfold entI; rw [hi]; rfl
    rw [e1] at hcall
    refine (come_no w b x0 x1 x2 i hcall).mono ?_
    rintro e w' ⟨rfl, hb⟩
    have ev : Evo k k noC w w' := Evo.of_below hb
    exact ⟨rfl, k, vN, ev.mono (fun _ h => h.elim), hB.evo ev (noC_not _), by simpa using h.evo ev (noC_not _)⟩

/-- What is not good by a list is gone. -/
def siftBy (cs : List (Int × Int)) (e : Ent) : Ent := if good cs e.lsn e.epoch then e else { e with gone := true }
def siftUp (cs : List (Int × Int)) (l : List Ent) (n : Nat) : List Ent := (l.take n).map (siftBy cs) ++ l.drop n

theorem siftUp_at (cs : List (Int × Int)) (l : List Ent) (j : Nat) (h : j < l.length) : (siftUp cs l j)[j]'(by simp [siftUp]; omega) = l[j] := by
  unfold siftUp
  rw [List.getElem_append_right (by simp; omega)]
  simp [show min j l.length = j from by omega]
theorem siftUp_succ (cs : List (Int × Int)) (l : List Ent) (j : Nat) (h : j < l.length) : siftUp cs l (j + 1) = (siftUp cs l j).set j (siftBy cs l[j]) := by
  unfold siftUp
  rw [List.set_append_right _ _ (by simp; omega)]
  simp only [List.length_map, List.length_take]
  rw [show j - min j l.length = 0 from by omega, List.drop_eq_getElem_cons h, List.set_cons_zero, List.take_succ_eq_append_getElem h, List.map_append]
  simp
theorem siftBy_same {cs : List (Int × Int)} {l : List Ent} {j : Nat} (h : j < l.length) (hg : good cs l[j].lsn l[j].epoch = true) : siftUp cs l (j + 1) = siftUp cs l j := by
  rw [siftUp_succ cs l j h]
  have e : siftBy cs l[j] = (siftUp cs l j)[j]'(by simp [siftUp]; omega) := by rw [siftUp_at cs l j h]; unfold siftBy; rw [if_pos hg]
  rw [e, List.set_getElem_self]

set_option maxHeartbeats 1000000 in
theorem sift_any {k : Nat → Nat} {w : World} {cB cN b : Nat} {vU vE vL vN vc : Value} {l : List Ent} {cs : List (Int × Int)} (hne : cB ≠ cN) (hni : cN ≠ IM) (hB : Blk k w cB b 89 [vU, vE, vL, vN]) (h : Rows k w cN 141 5 vN (l.map entRow)) (hl : l.length ≤ 4000000000)
    (hc : CutsIm k w vc cs) (hcl : cs.length ≤ 4000000000) :
    Calls Tryz.prog 127 #[.pointer (some ⟨b, 0, none⟩), vc] w fun e w' => e = .returned (.tuple #[]) ∧
      Evo k k (fun c => c = cN) w w' ∧ Rows k w' cN 141 5 vN ((l.map (siftBy cs)).map entRow) := by
  obtain ⟨va, vn, vcap, hvc⟩ := Rows.shape hc
  subst hvc
  go_enter Tryz.func127, Tryz.ntmps127
  go_wp2
  go_loopw [4] (fun i wr => Evo k k (fun c => c = cN) w wr ∧ ∃ j : Nat, i = .int .i64 j ∧ j ≤ l.length ∧ Rows k wr cN 141 5 vN ((siftUp cs l j).map entRow)) (fun i _ => l.length - (intOf i).toNat)
  case atStart => exact ⟨Evo.refl _ _ _, 0, rfl, by omega, by simpa [siftUp] using h⟩
  case round =>
    obtain ⟨hE, j, rfl, hj, hR⟩ := hrel
    have hB2 := hB.evo hE hne
    have y3 : wr.cell? ⟨b, 3, none⟩ = some vN := hB2.cell 3
    have hul : (siftUp cs l j).length = l.length := by simp [siftUp]; omega
    obtain ⟨a, cap, hv, hcells⟩ := ents_cells hR
    rw [hul] at hv
    subst hv
    by_cases hlt : j < l.length
    · obtain ⟨g, rfl, hcol, h0, h1, h2, h3, h4, hf⟩ := hcells j (by omega)
      have hu := siftUp_at cs l j hlt
      rw [hu] at h0 h1 h2 h3 h4
      have HG : Hid (∀ nq, Calls Tryz.prog 106 #[.int .i64 l[j].lsn, .int .i64 l[j].epoch, .slice va vn vcap] (wr.drewN nq) fun e w' => e = .returned (.bool (good cs l[j].lsn l[j].epoch)) ∧ w' = wr.drewN nq) := hide fun nq => good_any l[j].lsn l[j].epoch (Rows.of_heap (w := wr) rfl (hc.evo hE (fun e => hni e.symm))) hcl
      have hf4 := hf (j * 5 + 4)
      have HU := hide (siftUp_succ cs l j hlt)
      clear hf hcells hu
      cases hgood : good cs l[j].lsn l[j].epoch
      · go_wp2_with fail
        go_quiet ((go_at_call 106; exact Calls.quiet_of_same (HG.out _)))
        rw [hgood]
        go_wp2
        go_roundw
        case rel =>
          refine ⟨(hE.drewN nq).setCell _ _ (fun _ => hcol), j + 1, by go_num, by omega, ?_⟩
          have hR2 := Rows.of_heap (w := wr) (w' := wr.drewN nq) rfl hR
          have hs := hR2.set j 4 (by simp; omega) (by omega) (.bool true)
          rw [HU.out]
          have e2 : (siftUp cs l j).set j (siftBy cs l[j]) = (siftUp cs l j).set j { (siftUp cs l j)[j]'(by omega) with gone := true } := by
            rw [siftUp_at cs l j hlt]; unfold siftBy; rw [hgood]; rfl
          rw [e2, List.map_set]
          simpa [entRow] using hs
        case measure => simp [intOf]; omega
      · have HS := hide (siftBy_same hlt hgood)
        go_wp2_with fail
        go_quiet ((go_at_call 106; exact Calls.quiet_of_same (HG.out _)))
        rw [hgood]
        go_wp2
        go_roundw
        case rel => exact ⟨hE.drewN nq, j + 1, by go_num, by omega, by rw [HS.out]; exact Rows.of_heap (w := wr) rfl hR⟩
        case measure => simp [intOf]; omega
    · have hje : j = l.length := by omega
      go_wp2
      go_end0
      subst hje
      exact ⟨rfl, hE, by simpa [siftUp] using hR⟩
end Go.Proofs.YtfpbkghcjaonlaaGreat

/-
  sixfoldref: heardOf, noted, four.
-/
namespace Go.Proofs.YtfpbkghcjaonlaaGreat
open Go.RowKit

/-- A slice of messages. -/
def MsgsIs (k : Nat → Nat) (w : World) (c : Nat) (v : Value) (ms : List Msg) : Prop := ∃ rows, Rows k w c 109 9 v rows ∧ All2 (MsgIs k w) ms rows

theorem MsgsIs.evo {k k' : Nat → Nat} {w w' : World} {c : Nat} {v : Value} {ms : List Msg} {C : Nat → Prop} (h : MsgsIs k w c v ms) (g : Evo k k' C w w') (hc : ¬ C c) (hi : ¬ C IM) : MsgsIs k' w' c v ms := by
  obtain ⟨rows, h1, h2⟩ := h
  exact ⟨rows, h1.evo g hc, h2.imp fun l r x => x.evo g hi⟩

theorem msgs_cells {k : Nat → Nat} {w : World} {c : Nat} {v : Value} {ms : List Msg} (h : MsgsIs k w c v ms) :
    ∃ a cap, v = .slice a ms.length cap ∧ ∀ i, (hi : i < ms.length) → ∃ b vc vm, a = some ⟨b, 0, none⟩ ∧ w.cell? ⟨b, i * 9, none⟩ = some (.int .i64 ms[i].kind) ∧ w.cell? ⟨b, i * 9 + 1, none⟩ = some (.int .i64 ms[i].frm) ∧
      w.cell? ⟨b, i * 9 + 2, none⟩ = some (.int .i64 ms[i].to_) ∧ w.cell? ⟨b, i * 9 + 3, none⟩ = some (.int .i64 ms[i].epoch) ∧ w.cell? ⟨b, i * 9 + 4, none⟩ = some (.int .i64 ms[i].lsn) ∧
      w.cell? ⟨b, i * 9 + 5, none⟩ = some (.int .i64 ms[i].value) ∧ w.cell? ⟨b, i * 9 + 6, none⟩ = some (.int .i64 ms[i].scl) ∧ w.cell? ⟨b, i * 9 + 7, none⟩ = some vc ∧ w.cell? ⟨b, i * 9 + 8, none⟩ = some vm ∧
      CutsIm k w vc ms[i].cuts ∧ IntsIm k w vm ms[i].marks := by
  obtain ⟨rows, h1, h2⟩ := h
  have hlen := h2.1
  obtain ⟨a, cap, rfl, _⟩ := h1.form
  refine ⟨a, cap, by rw [hlen], fun i hi => ?_⟩
  obtain ⟨b, cap', hv, _, _, _, hc, _⟩ := h1.at (by omega)
  simp at hv
  obtain ⟨vc, vm, hr, hcc, hmm⟩ := h2.2 i hi (by omega)
  have f : ∀ j, j < 9 → w.cell? ⟨b, i * 9 + j, none⟩ = (msgCells ms[i] vc vm)[j]? := fun j hj => by rw [hc i j (by omega) hj, hr]; rfl
  exact ⟨b, vc, vm, hv.1, f 0 (by omega), f 1 (by omega), f 2 (by omega), f 3 (by omega), f 4 (by omega), f 5 (by omega), f 6 (by omega), f 7 (by omega), f 8 (by omega), hcc, hmm⟩

def heardIn (ms : List Msg) (s : Int) : Bool := ms.any (fun m => m.frm == s)
theorem heardIn_take (ms : List Msg) (s : Int) (j : Nat) (h : j < ms.length) : heardIn (ms.take (j + 1)) s = (heardIn (ms.take j) s || (ms[j].frm == s)) := by
  unfold heardIn; rw [List.take_succ_eq_append_getElem h, List.any_append]; simp
theorem heardIn_hit (ms : List Msg) (s : Int) (j : Nat) (h : j < ms.length) (he : (ms[j].frm == s) = true) : heardIn ms s = true := by
  unfold heardIn; rw [List.any_eq_true]; exact ⟨ms[j], List.getElem_mem h, he⟩

set_option maxHeartbeats 1000000 in
theorem heardOf_any {k : Nat → Nat} {w : World} {c b : Nat} {v : Value} {ms : List Msg} (s : Int) (hb : w.cell? ⟨b, 0, none⟩ = some v) (h : MsgsIs k w c v ms) (hl : ms.length ≤ 4000000000) :
    Calls Tryz.prog 71 #[.pointer (some ⟨b, 0, none⟩), .int .i64 s] w fun e w' => e = .returned (.bool (heardIn ms s)) ∧ w' = w := by
  obtain ⟨a, cap, rfl, hc⟩ := msgs_cells h
  clear h
  go_enter Tryz.func71, Tryz.ntmps71
  go_wp2
  go_loop [5] (fun i => ∃ j : Nat, j ≤ ms.length ∧ i = .int .i64 j ∧ Hid (heardIn (ms.take j) s = false)) (fun i => ms.length - (intOf i).toNat)
  case atStart => exact ⟨0, Nat.zero_le _, rfl, hide rfl⟩
  case round =>
    obtain ⟨j, hk, rfl, hno⟩ := hrel
    by_cases hlt : j < ms.length
    · obtain ⟨g, vc, vm, rfl, _, h1, _⟩ := hc j hlt
      have ht := heardIn_take ms s j hlt
      cases he : (ms[j].frm == s)
      · rw [he, hno.out] at ht
        have HT := hide ht
        clear ht
        go_wp2
        go_round
        case rel => exact ⟨j + 1, by omega, by go_num, HT⟩
        case measure => simp [intOf]; omega
      · have HE := hide (heardIn_hit ms s j hlt he)
        clear ht
        go_wp2
        go_ret
        exact ⟨by rw [HE.out]; rfl, rfl⟩
    · have HE : Hid (heardIn ms s = false) := hide (by have := hno.out; rw [List.take_of_length_le (by omega)] at this; exact this)
      go_wp2
      go_ret
      exact ⟨by rw [HE.out]; rfl, rfl⟩

/-- What is noted of a segment. -/
def noteStep (s : Int) (n : Int) (m : Msg) : Int := if m.frm == s then (if n < m.scl then m.scl else n) else n
def notedN (ms : List Msg) (s : Int) : Int := ms.foldl (noteStep s) 0
theorem notedN_take (ms : List Msg) (s : Int) (j : Nat) (h : j < ms.length) : notedN (ms.take (j + 1)) s = noteStep s (notedN (ms.take j) s) ms[j] := by
  unfold notedN; rw [List.take_succ_eq_append_getElem h, List.foldl_append]; rfl

set_option maxHeartbeats 1000000 in
theorem noted_any {k : Nat → Nat} {w : World} {c b : Nat} {v : Value} {ms : List Msg} (s : Int) (hb : w.cell? ⟨b, 1, none⟩ = some v) (h : MsgsIs k w c v ms) (hl : ms.length ≤ 4000000000) :
    Calls Tryz.prog 72 #[.pointer (some ⟨b, 0, none⟩), .int .i64 s] w fun e w' => e = .returned (.tuple #[.int .i64 (notedN ms s), .bool (heardIn ms s)]) ∧ w' = w := by
  obtain ⟨a, cap, rfl, hc⟩ := msgs_cells h
  clear h
  go_enter Tryz.func72, Tryz.ntmps72
  go_wp2
  go_loop [6, 7, 8] (fun n y i => ∃ j : Nat, j ≤ ms.length ∧ i = .int .i64 j ∧ n = .int .i64 (notedN (ms.take j) s) ∧ y = .bool (heardIn (ms.take j) s)) (fun _ _ i => ms.length - (intOf i).toNat)
  case atStart => exact ⟨0, Nat.zero_le _, rfl, rfl, rfl⟩
  case round =>
    obtain ⟨j, hk, rfl, rfl, rfl⟩ := hrel
    by_cases hlt : j < ms.length
    · obtain ⟨g, vc, vm, rfl, _, h1, _, _, _, _, h6, _⟩ := hc j hlt
      have ht := heardIn_take ms s j hlt
      have hn := notedN_take ms s j hlt
      unfold noteStep at hn
      generalize notedN (ms.take j) s = x at *
      generalize heardIn (ms.take j) s = y at *
      cases he : (ms[j].frm == s)
      · rw [he] at ht hn
        rw [if_neg (by simp)] at hn
        have HT := hide ht
        have HN := hide hn
        clear ht hn
        go_wp2
        go_round
        case rel => exact ⟨j + 1, by omega, by go_num, by rw [HN.out], by rw [HT.out]; simp⟩
        case measure => simp [intOf]; omega
      · rw [he] at ht hn
        rw [if_pos (by simp)] at hn
        by_cases hx : x < ms[j].scl
        · rw [if_pos hx] at hn
          have HT := hide ht
          have HN := hide hn
          clear ht hn
          go_wp2
          go_round
          case rel => exact ⟨j + 1, by omega, by go_num, by rw [HN.out], by rw [HT.out]; simp⟩
          case measure => simp [intOf]; omega
        · rw [if_neg hx] at hn
          have HT := hide ht
          have HN := hide hn
          clear ht hn
          go_wp2
          go_round
          case rel => exact ⟨j + 1, by omega, by go_num, by rw [HN.out], by rw [HT.out]; simp⟩
          case measure => simp [intOf]; omega
    · have HE := hide (List.take_of_length_le (l := ms) (i := j) (by omega))
      go_wp2
      go_ret2
      exact ⟨by first | rfl | (rw [HE.out]; rfl), rfl⟩

/-- Do four segments that were heard reach n? -/
def reach (ms : List Msg) (n s : Int) : Bool := heardIn ms s && decide (n ≤ notedN ms s)
def reachUp (ms : List Msg) (n : Int) (j : Nat) : Nat := ((List.range j).filter fun (s : Nat) => reach ms n s).length
def fourOf (ms : List Msg) (n : Int) : Bool := decide (4 ≤ reachUp ms n 6)
theorem reachUp_succ (ms : List Msg) (n : Int) (j : Nat) : reachUp ms n (j + 1) = reachUp ms n j + if reach ms n j then 1 else 0 := by
  unfold reachUp; rw [List.range_succ, List.filter_append, List.length_append]
  cases h : reach ms n j <;> simp [h]
theorem reachUp_le (ms : List Msg) (n : Int) (j : Nat) : reachUp ms n j ≤ j := by
  unfold reachUp; exact Nat.le_trans (List.length_filter_le _ _) (by simp)

set_option maxHeartbeats 1000000 in
theorem four_any {k : Nat → Nat} {w : World} {c b : Nat} {v : Value} {ms : List Msg} (n : Int) (hb : w.cell? ⟨b, 1, none⟩ = some v) (h : MsgsIs k w c v ms) (hl : ms.length ≤ 4000000000) :
    Calls Tryz.prog 120 #[.pointer (some ⟨b, 0, none⟩), .int .i64 n] w fun e w' => e = .returned (.bool (fourOf ms n)) ∧ w' = w := by
  have HC : Hid (∀ s : Int, Calls Tryz.prog 72 #[.pointer (some ⟨b, 0, none⟩), .int .i64 s] w fun e w' => e = .returned (.tuple #[.int .i64 (notedN ms s), .bool (heardIn ms s)]) ∧ w' = w) := hide fun s => noted_any s hb h hl
  clear hb h
  go_enter Tryz.func120, Tryz.ntmps120
  go_wp2
  go_loopw [5, 6] (fun y i wr => wr = w ∧ ∃ j : Nat, j ≤ 6 ∧ i = .int .i64 j ∧ y = .int .i64 (reachUp ms n j)) (fun _ i _ => 6 - (intOf i).toNat)
  case atStart => exact ⟨rfl, 0, Nat.zero_le _, rfl, rfl⟩
  case round =>
    obtain ⟨rfl, j, hj, rfl, rfl⟩ := hrel
    have hle := reachUp_le ms n j
    by_cases hlt : j < 6
    · have HK := hide (HC.out (j : Int))
      have hs := reachUp_succ ms n j
      unfold reach at hs
      generalize reachUp ms n j = x at *
      cases hh : heardIn ms (j : Int)
      · rw [hh] at hs
        rw [if_neg (by simp)] at hs
        have HS := hide hs
        clear hs
        go_wp2_with fail
        refine HK.out.mono ?_
        rintro e w1 ⟨rfl, rfl⟩
        rw [hh]
        clear hh
        go_wp2_with fail
        go_roundw
        case rel => exact ⟨by trivial, j + 1, by omega, by go_num, by rw [HS.out]; rfl⟩
        case measure => simp [intOf]; omega
      · rw [hh] at hs
        by_cases hr : n ≤ notedN ms (j : Int)
        · rw [if_pos (by simp [hr])] at hs
          have HS := hide hs
          clear hs
          generalize notedN ms (j : Int) = z at *
          go_wp2_with fail
          refine HK.out.mono ?_
          rintro e w1 ⟨rfl, rfl⟩
          rw [hh]
          clear hh
          go_wp2_with fail
          go_roundw
          case rel => exact ⟨by trivial, j + 1, by omega, by go_num, by rw [HS.out]; go_num⟩
          case measure => simp [intOf]; omega
        · rw [if_neg (by simp; omega)] at hs
          have HS := hide hs
          clear hs
          generalize notedN ms (j : Int) = z at *
          go_wp2_with fail
          refine HK.out.mono ?_
          rintro e w1 ⟨rfl, rfl⟩
          rw [hh]
          clear hh
          go_wp2_with fail
          go_roundw
          case rel => exact ⟨by trivial, j + 1, by omega, by go_num, by rw [HS.out]; rfl⟩
          case measure => simp [intOf]; omega
    · have h6 : j = 6 := by omega
      subst h6
      have HF : Hid (fourOf ms n = decide ((4 : Int) ≤ (reachUp ms n 6 : Int))) := hide (by unfold fourOf; simp; omega)
      go_wp2
      go_ret
      exact ⟨by rw [HF.out]; rfl, rfl⟩
end Go.Proofs.YtfpbkghcjaonlaaGreat

/-
  sixfoldref: decided.
-/
namespace Go.Proofs.YtfpbkghcjaonlaaGreat
open Go.RowKit

def MsgOk (m : Msg) : Prop := m.cuts.length ≤ 1000 ∧ m.marks.length ≤ 4000000000

def bestStep (b : List (Int × Int)) (m : Msg) : List (Int × Int) := if topOf b ≤ topOf m.cuts then m.cuts else b
def bestUp (f : List Msg) (j : Nat) : List (Int × Int) := (f.take j).foldl bestStep []
theorem bestUp_succ (f : List Msg) (j : Nat) (h : j < f.length) : bestUp f (j + 1) = bestStep (bestUp f j) f[j] := by
  unfold bestUp; rw [List.take_succ_eq_append_getElem h, List.foldl_append]; rfl
theorem bestUp_len (f : List Msg) (hf : ∀ m ∈ f, MsgOk m) (j : Nat) : (bestUp f j).length ≤ 1000 := by
  induction j with
  | zero => simp [bestUp]
  | succ j ih =>
    by_cases h : j < f.length
    · rw [bestUp_succ f j h]; unfold bestStep; split
      · exact (hf _ (List.getElem_mem h)).1
      · exact ih
    · unfold bestUp at *; rw [List.take_of_length_le (by omega)] at *; exact ih

def okUp (l : List (Int × Int)) (marks : List Int) (n : Nat) : Bool := (List.range n).all fun (i : Nat) => good l ((i : Int) + 1) (marks.getD i 0)
theorem okUp_succ (l : List (Int × Int)) (marks : List Int) (n : Nat) : okUp l marks (n + 1) = (okUp l marks n && good l ((n : Int) + 1) (marks.getD n 0)) := by
  unfold okUp; rw [List.range_succ, List.all_append]; simp
def baseUp (l : List (Int × Int)) (marks : List Int) (b0 : Nat) : Nat → Nat
  | 0 => b0
  | n + 1 => if okUp l marks (n + 1) && decide (baseUp l marks b0 n < n + 1) then n + 1 else baseUp l marks b0 n
theorem baseUp_le (l : List (Int × Int)) (marks : List Int) (b0 n : Nat) : baseUp l marks b0 n ≤ max b0 n := by
  induction n with
  | zero => simp [baseUp]
  | succ n ih => simp only [baseUp]; split <;> omega
def baseAll (l : List (Int × Int)) (f : List Msg) : Nat → Nat
  | 0 => 0
  | j + 1 => match f[j]? with | some m => baseUp l m.marks (baseAll l f j) m.marks.length | none => baseAll l f j
theorem baseAll_succ (l : List (Int × Int)) (f : List Msg) (j : Nat) (h : j < f.length) : baseAll l f (j + 1) = baseUp l f[j].marks (baseAll l f j) f[j].marks.length := by
  simp only [baseAll]; rw [List.getElem?_eq_getElem h]
theorem baseAll_le (l : List (Int × Int)) (f : List Msg) (hf : ∀ m ∈ f, MsgOk m) (j : Nat) : baseAll l f j ≤ 4000000000 := by
  induction j with
  | zero => simp [baseAll]
  | succ j ih =>
    by_cases h : j < f.length
    · rw [baseAll_succ l f j h]
      have h1 := baseUp_le l f[j].marks (baseAll l f j) f[j].marks.length
      have h2 := (hf _ (List.getElem_mem h)).2
      omega
    · simp only [baseAll]; rw [List.getElem?_eq_none (by omega)]; exact ih

def baseOf (f : List Msg) : Nat := baseAll (bestUp f 4) f 4
def decCuts (f : List Msg) (e : Int) : List (Int × Int) := bestUp f 4 ++ [(e, (baseOf f : Int))]

theorem cutRow_take (l : List (Int × Int)) (j : Nat) (h : j < l.length) : (l.take (j + 1)).map cutRow = (l.take j).map cutRow ++ [cutRow l[j]] := by
  rw [List.take_succ_eq_append_getElem h, List.map_append]; rfl

set_option maxHeartbeats 4000000 in
theorem decided_any {k : Nat → Nat} {w : World} {c b : Nat} {v : Value} {f : List Msg} (e : Int) (hb : w.cell? ⟨b, 0, none⟩ = some v) (h : MsgsIs k w c v f) (h4 : 4 ≤ f.length) (hl : f.length ≤ 4000000000) (hf : ∀ m ∈ f, MsgOk m) :
    Calls Tryz.prog 73 #[.pointer (some ⟨b, 0, none⟩), .int .i64 e] w fun en w' => (∃ z, en = .returned (.tuple #[z, .int .i64 (baseOf f)]) ∧ Made w' w.heap.size 53 2 z ((decCuts f e).map cutRow)) ∧ Below w.heap.size w w' := by
  obtain ⟨a, cap, rfl, hc⟩ := msgs_cells h
  clear h
  go_enter Tryz.func73, Tryz.ntmps73
  go_wp2
  go_loopw [6, 7] (fun v i wr => wr = w ∧ ∃ j : Nat, j ≤ 4 ∧ i = .int .i64 j ∧ CutsIm k w v (bestUp f j)) (fun _ i _ => 4 - (intOf i).toNat)
  case atStart => exact ⟨rfl, 0, Nat.zero_le _, rfl, Rows.nil _ _ _ _ _⟩
  case round =>
    obtain ⟨rfl, j, hj, rfl, hV⟩ := hrel
    by_cases hlt : j < 4
    · obtain ⟨g, vc, vm, rfl, _, _, _, _, _, _, _, h7, _, hcc, _⟩ := hc j (by omega)
      obtain ⟨z0, z1, z2, hz⟩ := Rows.shape hcc
      subst hz
      obtain ⟨y0, y1, y2, hy⟩ := Rows.shape hV
      subst hy
      have hmk := hf f[j] (List.getElem_mem (by omega))
      have HT1 := hide (top_any hcc (by have := hmk.1; omega))
      have HT2 := hide (top_any hV (by have := bestUp_len f hf j; omega))
      have hs := bestUp_succ f j (by omega)
      unfold bestStep at hs
      have hj2 : j < f.length := by omega
      by_cases hx : topOf (bestUp f j) ≤ topOf f[j].cuts
      · rw [if_pos hx] at hs
        have HS := hide hs
        clear hs
        go_wp2_with fail
        refine HT1.out.mono ?_
        rintro e1 w1 ⟨rfl, hw1⟩
        subst hw1
        go_wp2_with fail
        refine HT2.out.mono ?_
        rintro e1 w2 ⟨rfl, hw1⟩
        subst hw1
        go_wp2_with fail
        go_roundw
        case rel => exact ⟨by trivial, j + 1, by omega, by go_num, by rw [HS.out]; exact hcc⟩
        case measure => simp [intOf]; omega
      · rw [if_neg hx] at hs
        have HS := hide hs
        clear hs
        go_wp2_with fail
        refine HT1.out.mono ?_
        rintro e1 w1 ⟨rfl, hw1⟩
        subst hw1
        go_wp2_with fail
        refine HT2.out.mono ?_
        rintro e1 w2 ⟨rfl, hw1⟩
        subst hw1
        go_wp2_with fail
        go_roundw
        case rel => exact ⟨by trivial, j + 1, by omega, by go_num, by rw [HS.out]; exact hV⟩
        case measure => simp [intOf]; omega
    · have hj4 : j = 4 := by omega
      rw [hj4] at hV
      have hd4 : decide ((j : Int) < 4) = false := by simp; omega
      clear hj4 hlt hj
      obtain ⟨y0, y1, y2, hy⟩ := Rows.shape hV
      subst hy
      have hbl4 := bestUp_len f hf 4
      generalize hbest : bestUp f 4 = best at *
      have HBst := hide hbest
      clear hbest
      go_wp2
      go_loopw [8, 9] (fun y i wx => wx = wr ∧ ∃ j : Nat, j ≤ 4 ∧ i = .int .i64 j ∧ y = .int .i64 (baseAll best f j)) (fun _ i _ => 4 - (intOf i).toNat)
      case atStart => exact ⟨rfl, 0, Nat.zero_le _, rfl, rfl⟩
      case round =>
        obtain ⟨rfl, j, hj, rfl, rfl⟩ := hrel
        have hbb := baseAll_le best f hf j
        by_cases hlt : j < 4
        · have hj2 : j < f.length := by omega
          obtain ⟨g, vc, vm, rfl, _, _, _, _, _, _, _, _, h8, _, hmm⟩ := hc j hj2
          obtain ⟨ma, mc, rfl, hmcells⟩ := ints_cells hmm
          have HBS := hide (baseAll_succ best f j hj2)
          have hml := (hf f[j] (List.getElem_mem hj2)).2
          generalize baseAll best f j = b0 at *
          have HG : Hid (∀ n x : Int, Calls Tryz.prog 106 #[.int .i64 n, .int .i64 x, .slice y0 y1 y2] wr fun e w' => e = .returned (.bool (good best n x)) ∧ w' = wr) := hide fun n x => good_any n x hV (by omega)
          clear hmm
          have hd : decide ((j : Int) < 4) = true := by simp; omega
          go_wp2_with fail
          go_loopw [8, 11, 12] (fun y o i wz => wz = wr ∧ ∃ n : Nat, n ≤ f[j].marks.length ∧ i = .int .i64 ((n : Int) + 1) ∧ y = .int .i64 (baseUp best f[j].marks b0 n) ∧ o = .bool (okUp best f[j].marks n)) (fun _ _ i _ => f[j].marks.length + 1 - (intOf i).toNat)
          case atStart => exact ⟨rfl, 0, Nat.zero_le _, rfl, rfl, rfl⟩
          case round =>
            obtain ⟨rfl, n, hn, rfl, rfl, rfl⟩ := hrel
            have hbu := baseUp_le best f[j].marks b0 n
            by_cases hln : n < f[j].marks.length
            · obtain ⟨mg, rfl, hm0⟩ := hmcells n hln
              have HK := hide (HG.out ((n : Int) + 1) f[j].marks[n])
              have ho := okUp_succ best f[j].marks n
              have hgd : f[j].marks.getD n 0 = f[j].marks[n] := by simp [hln]
              rw [hgd] at ho
              have hbs : baseUp best f[j].marks b0 (n + 1) = if okUp best f[j].marks (n + 1) && decide (baseUp best f[j].marks b0 n < n + 1) then n + 1 else baseUp best f[j].marks b0 n := rfl
              rw [ho] at hbs
              generalize baseUp best f[j].marks b0 n = y at *
              generalize okUp best f[j].marks n = o at *
              generalize good best ((n : Int) + 1) f[j].marks[n] = gd at *
              have HO := hide ho
              have HBU := hide hbs
              clear ho hbs hgd
              cases o
              · go_wp2_with fail
                refine HK.out.mono ?_
                rintro e1 w2 ⟨rfl, hw1⟩
                subst hw1
                go_wp2_with fail
                go_roundw
                case rel => (exact ⟨by trivial, n + 1, by omega, by go_num, by rw [HBU.out]; simp, by rw [HO.out]; rfl⟩)
                case measure => simp [intOf]; omega
              · cases gd
                · go_wp2_with fail
                  refine HK.out.mono ?_
                  rintro e1 w2 ⟨rfl, hw1⟩
                  subst hw1
                  go_wp2_with fail
                  go_roundw
                  case rel => (exact ⟨by trivial, n + 1, by omega, by go_num, by rw [HBU.out]; simp, by rw [HO.out]; rfl⟩)
                  case measure => simp [intOf]; omega
                · by_cases hy : y < n + 1
                  · rw [if_pos (by simp [hy])] at HBU
                    go_wp2_with fail
                    refine HK.out.mono ?_
                    rintro e1 w2 ⟨rfl, hw1⟩
                    subst hw1
                    go_wp2_with fail
                    go_roundw
                    case rel => (exact ⟨by trivial, n + 1, by omega, by go_num, by rw [HBU.out]; go_num, by rw [HO.out]; rfl⟩)
                    case measure => simp [intOf]; omega
                  · rw [if_neg (by simp [hy])] at HBU
                    go_wp2_with fail
                    refine HK.out.mono ?_
                    rintro e1 w2 ⟨rfl, hw1⟩
                    subst hw1
                    go_wp2_with fail
                    go_roundw
                    case rel => (exact ⟨by trivial, n + 1, by omega, by go_num, by (rw [HBU.out]; try rfl), by rw [HO.out]; rfl⟩)
                    case measure => simp [intOf]; omega
            · have hne : n = f[j].marks.length := by omega
              have HBS2 : Hid (baseAll best f (j + 1) = baseUp best f[j].marks b0 n) := hide (by rw [HBS.out, hne])
              clear hne
              go_wp2_with fail
              go_roundw
              case rel => exact ⟨by trivial, j + 1, by omega, by go_num, by rw [HBS2.out]⟩
              case measure => simp [intOf]; omega
        · have hj4 : j = 4 := by omega
          have hd5 : decide ((j : Int) < 4) = false := by simp; omega
          have HB4 : Hid (baseAll best f j = baseOf f) := hide (by unfold baseOf; rw [HBst.out, hj4])
          clear hj4 hlt hj
          generalize baseAll best f j = base at *
          have HDC : Hid (decCuts f e = best ++ [(e, (base : Int))]) := hide (by unfold decCuts; rw [← HB4.out, HBst.out])
          obtain ⟨ya, yc, hyy, hbcells⟩ := cuts_cells hV
          simp only [Value.slice.injEq] at hyy
          obtain ⟨rfl, rfl, rfl⟩ := hyy
          obtain ⟨W0, hW0⟩ : ∃ W0, W0 = wr := ⟨_, rfl⟩
          subst hW0
          go_wp2
          go_loopw [14, 15] (fun o i wz => Below W0.heap.size W0 wz ∧ ∃ n : Nat, n ≤ best.length ∧ i = .int .i64 n ∧ Made wz W0.heap.size 53 2 o ((best.take n).map cutRow)) (fun _ i _ => best.length - (intOf i).toNat)
          case atStart => exact ⟨Below.refl _ _, 0, Nat.zero_le _, rfl, Made.nil _ _ _ _⟩
          case round =>
            obtain ⟨hB, n, hn, rfl, hM⟩ := hrel
            have hsz := hB.size
            by_cases hln : n < best.length
            · obtain ⟨bg, rfl, q0, q1⟩ := hbcells n hln
              have hbgl := World.block_lt_of_cell? W0 _ q0
              have p0 := (hB.cell (p := ⟨bg, n * 2, none⟩) hbgl).trans q0
              have p1 := (hB.cell (p := ⟨bg, n * 2 + 1, none⟩) hbgl).trans q1
              have hbgl2 := Nat.lt_of_lt_of_le hbgl hsz
              have HR := hide (cutRow_take best n hln)
              generalize hcn : best[n] = cn at *
              clear hcn q0 q1
              have hM2 := hM.kept ((Below.refl _ _).alloc (Nat.le_refl _) (Obj.cells #[.int .i64 cn.1, .int .i64 cn.2] 53))
              go_wp2_with (at_builtin; go_must (refine wpList_append_made (.tmp 83) (.tmp 88) 49 53 _ 2 16 _ ((best.take n).map cutRow) n (cutRow cn) W0.heap.size ⟨wr.heap.size, 0, none⟩ 1 (by simp; omega) rfl rfl Tryz.underlying49 Tryz.infoCut rfl (by decide) rfl rfl hM2 rfl (cell_one_new' _ _ _) (by simp [cutRow, Value.oneCell']) (by simp only [maxLen]; omega) (by omega) (by simp; omega) ?_; intro ao cap2 w2 hM3 hB3))
              go_roundw
              case rel => exact ⟨((hB.alloc (by omega) _).trans hB3), n + 1, by omega, by go_num, by rw [HR.out]; simpa using hM3⟩
              case measure => simp [intOf]; omega
            · have hne : n = best.length := by omega
              rw [hne, List.take_length] at hM
              clear hne
              have hM2 := hM.kept ((Below.refl _ _).alloc (Nat.le_refl _) (Obj.cells #[.int .i64 e, .int .i64 base] 53))
              go_wp2_with (at_builtin; go_must (refine wpList_append_made (.tmp 90) (.tmp 94) 49 53 _ 2 16 _ (best.map cutRow) best.length (cutRow (e, (base : Int))) W0.heap.size ⟨wr.heap.size, 0, none⟩ 1 (by simp) rfl rfl Tryz.underlying49 Tryz.infoCut rfl (by decide) rfl rfl hM2 rfl (cell_one_new' _ _ _) (by simp [cutRow, Value.oneCell']) (by simp only [maxLen]; omega) (by omega) (by simp; omega) ?_; intro ao cap2 w2 hM3 hB3))
              go_ret2
              refine ⟨⟨_, by rw [← HB4.out]; rfl, ?_⟩, (hB.alloc (by omega) _).trans hB3⟩
              rw [HDC.out, List.map_append]
              simpa using hM3
end Go.Proofs.YtfpbkghcjaonlaaGreat
