/-
  sixfoldref: New.
-/
import Derived.Test.YtfpbkghcjaonlaaGreatRefK
namespace Go.Proofs.YtfpbkghcjaonlaaGreat
open Go.RowKit

def cRef : Nat → Prop := fun c => 10 ≤ c ∧ c < 100

theorem Rows.lit {k : Nat → Nat} {w : World} {c e size b : Nat} {row : List Value} (h : w.heap[b]? = some (.cells row.toArray e (0, 0))) (hk : k b = c) (hl : row.length = size) : Rows k w c e size (.slice (some ⟨b, 0, none⟩) 1 1) [row] := by
  refine ⟨by simp [hl], ⟨by simp [hl], .inr ⟨b, 1, row.toArray, rfl, Nat.zero_le _, h, by simp, by simp [maxLen], by simp [hl], by simp [← hl]⟩⟩, fun g hg => ?_⟩
  simp [Value.ownBlock] at hg
  subst hg; exact hk

theorem Tryz.infoStorePtr : (Tryz.prog.info? 85).map (fun i => (i.zero, i.size, i.bytes)) = some (some (.pointer none), 1, 8) := by kernel_rfl

def seg0 : RSeg := ⟨true, [0], [[]], []⟩

/-- Colours for the four blocks of a new store. -/
def colourStore (n j : Nat) (k : Nat → Nat) (g : Nat) : Nat := if g < n then k g else if g = n then cS j + 1 else if g = n + 1 then cS j + 2 else if g = n + 2 then cS j else 0

set_option maxHeartbeats 1000000 in
theorem refNew_bad (w : World) (a b : Int) (h : a < 1 ∨ 8 < a ∨ b < 1 ∨ 200 < b) :
    Calls Tryz.prog 15 #[.agg #[.int .i64 a, .int .i64 b]] w fun e w' => e = .returned (.tuple #[.pointer none, .int .i64 1]) ∧ Below w.heap.size w w' := by
  by_cases h1 : a < 1
  · have d1 : decide (a < 1) = true := by simpa using h1
    go_enter Tryz.func15, Tryz.ntmps15
    go_wp2
    go_ret2
    exact ⟨rfl, (Below.refl _ _).alloc (Nat.le_refl _) _⟩
  · have d1 : decide (a < 1) = false := by simpa using h1
    by_cases h3 : b < 1
    · have d3 : decide (b < 1) = true := by simpa using h3
      go_enter Tryz.func15, Tryz.ntmps15
      go_wp2
      go_ret2
      exact ⟨rfl, (Below.refl _ _).alloc (Nat.le_refl _) _⟩
    · have d3 : decide (b < 1) = false := by simpa using h3
      by_cases h2 : 8 < a
      · have d2 : decide (8 < a) = true := by simpa using h2
        go_enter Tryz.func15, Tryz.ntmps15
        go_wp2
        go_ret2
        exact ⟨rfl, (Below.refl _ _).alloc (Nat.le_refl _) _⟩
      · have d2 : decide (8 < a) = false := by simpa using h2
        have h4 : 200 < b := by omega
        have d4 : decide (200 < b) = true := by simpa using h4
        clear h
        go_enter Tryz.func15, Tryz.ntmps15
        go_wp2
        go_ret2
        exact ⟨rfl, (Below.refl _ _).alloc (Nat.le_refl _) _⟩

theorem lists0 (k : Nat → Nat) (w : World) : All2 (fun l r => ∃ x, r = [x] ∧ CutsIm k w x l) seg0.lists [[.slice none 0 0]] := by
  refine ⟨rfl, fun i a b => ?_⟩
  match i, b with
  | 0, _ => exact ⟨_, rfl, Rows.nil _ _ _ _ _⟩

def NewSt (k : Nat → Nat) (w wr : World) (q : Nat) (a b : Int) (j : Nat) : Prop :=
  ∃ (k' : Nat → Nat) (bs : List Nat) (vSegs : Value), Evo k k' cRef w wr ∧ Blk k' wr cY q 84 [.int .i64 a, .int .i64 b, .slice none 0 0, vSegs, .slice none 0 0] ∧ Rows k' wr cSegs 85 1 vSegs (bs.map ptrRow) ∧ bs.length = j ∧
    ∀ i (h : i < bs.length), StoreIs k' wr (cS i) bs[i] seg0

set_option maxHeartbeats 4000000 in
theorem refNew_good (k : Nat → Nat) (w : World) (a b : Int) (h1 : ¬ a < 1) (h2 : ¬ 8 < a) (h3 : ¬ b < 1) (h4 : ¬ 200 < b) :
    Calls Tryz.prog 15 #[.agg #[.int .i64 a, .int .i64 b]] w fun e w' => ∃ q k', e = .returned (.tuple #[.pointer (some ⟨q, 0, none⟩), .int .i64 0]) ∧ Evo k k' cRef w w' ∧
      YVol k' w' q ⟨a, b, [], List.replicate 6 seg0, []⟩ := by
  have d1 : decide (a < 1) = false := by simpa using h1
  have d2 : decide (8 < a) = false := by simpa using h2
  have d3 : decide (b < 1) = false := by simpa using h3
  have d4 : decide (200 < b) = false := by simpa using h4
  go_enter Tryz.func15, Tryz.ntmps15
  go_wp2
  have hst0 : Hid (NewSt k w ((w.alloc (Obj.cells #[.int .i64 a, .int .i64 b] 23)).alloc (Obj.cells #[.int .i64 a, .int .i64 b, .slice none 0 0, .slice none 0 0, .slice none 0 0] 84)) (w.heap.size + 1) a b 0) := hide (by
    refine ⟨fun g => if g < w.heap.size then k g else if g = w.heap.size + 1 then cY else 0, [], .slice none 0 0, ?_, ⟨heap_alloc2_new w _ _, ?_⟩, Rows.nil _ _ _ _ _, rfl, fun i h => by simp at h⟩
    · exact (((Evo.refl k cRef w).alloc _).alloc _).recolour _ (fun i hi => if_pos hi)
    · show (if w.heap.size + 1 < w.heap.size then _ else _) = _
      rw [if_neg (by omega), if_pos rfl])
  go_loopw [5] (fun i wr => ∃ j : Nat, j ≤ 6 ∧ i = .int .i64 j ∧ Hid (NewSt k w wr (w.heap.size + 1) a b j)) (fun i _ => 6 - (intOf i).toNat)
  case atStart => exact ⟨0, by omega, rfl, hst0⟩
  case round =>
    obtain ⟨j, hj, rfl, hst⟩ := hrel
    clear hst0
    by_cases hlt : j < 6
    · have hd : decide ((j : Int) < 6) = true := by simp; omega
      obtain ⟨k', bs, vSegs, ev, hB, hR, hbl, hS⟩ := hst.out
      clear hst
      have y3 : wr.cell? ⟨w.heap.size + 1, 3, none⟩ = some vSegs := hB.cell 3
      have hql := hB.lt
      obtain ⟨sa, scap, hsf, _⟩ := hR.form
      simp only [List.length_map, hbl] at hsf
      subst hsf
      obtain ⟨W4, hW4⟩ : ∃ W4, W4 = ((((wr.alloc (Obj.cells #[.int .i64 0] 3)).alloc (Obj.cells #[.slice none 0 0] 49)).alloc (Obj.cells #[.bool true, .slice (some ⟨wr.heap.size, 0, none⟩) 1 1, .slice (some ⟨wr.heap.size + 1, 0, none⟩) 1 1, .slice none 0 0] 89)).alloc (Obj.cells #[.pointer (some ⟨wr.heap.size + 1 + 1, 0, none⟩)] 85)) := ⟨_, rfl⟩
      have e4 : Evo k' (colourStore wr.heap.size j k') noC wr W4 := by rw [hW4]; exact (((((Evo.refl k' noC wr).alloc _).alloc _).alloc _).alloc _).recolour _ (fun i hi => if_pos hi)
      obtain ⟨q0, q1, q2, q3⟩ : W4.heap[wr.heap.size]? = some (.cells #[.int .i64 0] 3 (0, 0)) ∧ W4.heap[wr.heap.size + 1]? = some (.cells #[.slice none 0 0] 49 (0, 0)) ∧
          W4.heap[wr.heap.size + 2]? = some (.cells #[.bool true, .slice (some ⟨wr.heap.size, 0, none⟩) 1 1, .slice (some ⟨wr.heap.size + 1, 0, none⟩) 1 1, .slice none 0 0] 89 (0, 0)) ∧ W4.heap[wr.heap.size + 3]? = some (.cells #[.pointer (some ⟨wr.heap.size + 2, 0, none⟩)] 85 (0, 0)) := by
        rw [hW4]
        refine ⟨?_, ?_, ?_, ?_⟩
        · rw [Below.heap_alloc _ _ _ (by simp <;> omega), Below.heap_alloc _ _ _ (by simp <;> omega), Below.heap_alloc _ _ _ (by simp)]; exact heap_alloc_new wr _
        · rw [Below.heap_alloc _ _ _ (by simp <;> omega), Below.heap_alloc _ _ _ (by simp)]; exact heap_alloc2_new wr _ _
        · rw [Below.heap_alloc _ _ _ (by simp)]
          have := heap_alloc2_new (wr.alloc (Obj.cells #[.int .i64 0] 3)) (Obj.cells #[.slice none 0 0] 49) (Obj.cells #[.bool true, .slice (some ⟨wr.heap.size, 0, none⟩) 1 1, .slice (some ⟨wr.heap.size + 1, 0, none⟩) 1 1, .slice none 0 0] 89)
          simpa using this
        · have := heap_alloc2_new ((wr.alloc (Obj.cells #[.int .i64 0] 3)).alloc (Obj.cells #[.slice none 0 0] 49)) (Obj.cells #[.bool true, .slice (some ⟨wr.heap.size, 0, none⟩) 1 1, .slice (some ⟨wr.heap.size + 1, 0, none⟩) 1 1, .slice none 0 0] 89) (Obj.cells #[.pointer (some ⟨wr.heap.size + 2, 0, none⟩)] 85)
          simpa using this
      have hnews : ∀ x u, ([ptrRow (wr.heap.size + 2)] : List (List Value)).flatten[x]? = some u → ((((wr.alloc (Obj.cells #[.int .i64 0] 3)).alloc (Obj.cells #[.slice none 0 0] 49)).alloc (Obj.cells #[.bool true, .slice (some ⟨wr.heap.size, 0, none⟩) 1 1, .slice (some ⟨wr.heap.size + 1, 0, none⟩) 1 1, .slice none 0 0] 89)).alloc (Obj.cells #[.pointer (some ⟨wr.heap.size + 1 + 1, 0, none⟩)] 85)).cell? ((⟨wr.heap.size + 1 + 1 + 1, 0, none⟩ : Addr).add x) = some u := fun x u hx => by
        rw [← hW4, Addr.add_lit, Nat.zero_add]
        show W4.cell? ⟨wr.heap.size + 3, x, none⟩ = some u
        rw [cell_of_row _ _ x _ _ _ q3]
        simpa [ptrRow] using hx
      have hS4 : StoreIs (colourStore wr.heap.size j k') W4 (cS j) (wr.heap.size + 2) seg0 := by
        refine ⟨_, _, _, ⟨q2, ?_⟩, Rows.lit (row := [.int .i64 0]) q0 ?_ rfl, ⟨[[.slice none 0 0]], Rows.lit (row := [.slice none 0 0]) q1 ?_ rfl, lists0 _ _⟩, Rows.nil _ _ _ _ _⟩
        · unfold colourStore; rw [if_neg (by omega), if_neg (by omega), if_neg (by omega), if_pos rfl]
        · unfold colourStore; rw [if_neg (by omega), if_pos rfl]
        · unfold colourStore; rw [if_neg (by omega), if_neg (by omega), if_pos rfl]
      have hR4 := hR.evo e4 (noC_not _)
      have hB4 := hB.evo e4 (noC_not _)
      have hS4' : ∀ i (h : i < bs.length), StoreIs (colourStore wr.heap.size j k') W4 (cS i) bs[i] seg0 := fun i h => (hS i h).evo e4 (noC_not _) (noC_not _) (noC_not _) (noC_not _) (noC_not _)
      rw [hW4] at hR4 hB4
      have HS4 := hide hS4
      have HS4' := hide hS4'
      have HW4 := hide hW4
      have HBL := hide hbl
      clear hW4 q0 q1 q2 q3 hS4 hS4' hS hB hR hbl
      go_wp2_with (at_builtin; go_must (refine wpList_append_rows (colourStore wr.heap.size j k') cSegs (.tmp 35) (.tmp 40) 81 85 _ 1 8 _ (bs.map ptrRow) [ptrRow (wr.heap.size + 2)] j ⟨wr.heap.size + 1 + 1 + 1, 0, none⟩ 1 1 (by simp [HBL.out]) rfl rfl Tryz.underlying81 Tryz.infoStorePtr rfl (by decide) rfl rfl hR4 rfl (by simp [ptrRow]) hnews (by simp [ptrRow, Value.oneCell']) (by simp only [maxLen]; omega) (by omega) ?_; intro ao1 cap1 w1 k1 hR1 hE1; have hB1 := hB4.evo hE1 (by decide); have x3 : w1.cell? ⟨w.heap.size + 1, 3, none⟩ = some (.slice sa j scap) := hB1.cell 3; have xf := hB1.free 3))
      go_roundw
      case rel =>
        rw [← HW4.out] at hB4 hE1
        obtain ⟨f1, f2, f3⟩ := push_fin (Evo.refl _ noC W4) hB4 (by decide) hR1 hE1 3
        have hne : ∀ c, c = cY ∨ c = cSegs → cRef c := fun c h => by rcases h with h | h <;> subst h <;> exact ⟨by decide, by decide⟩
        have hnot : ∀ c, 20 ≤ c → ¬ (c = cY ∨ c = cSegs) := fun c hc h => by unfold cY cSegs at h; omega
        have him : ¬ (IM = cY ∨ IM = cSegs) := by decide
        have hup : ∀ i bb, StoreIs (colourStore wr.heap.size j k') W4 (cS i) bb seg0 → StoreIs k1 (w1.setCell ⟨w.heap.size + 1, 3, none⟩ (.slice ao1 (j + 1) cap1)) (cS i) bb seg0 := fun i bb h =>
          h.evo f1 him (hnot _ (by unfold cS; omega)) (hnot _ (by unfold cS; omega)) (hnot _ (by unfold cS; omega)) (hnot _ (by unfold cS; omega))
        refine ⟨j + 1, by omega, by go_num, hide ⟨k1, bs ++ [wr.heap.size + 2], _, ev.trans ((e4.mono (fun _ h => h.elim)).trans (f1.mono hne)), f2, ?_, by simp [HBL.out], ?_⟩⟩
        · rw [List.map_append]; exact f3
        · intro i hi
          by_cases hib : i < bs.length
          · rw [List.getElem_append_left hib]; exact hup i _ (HS4'.out i hib)
          · have hij : i = j := by have := HBL.out; simp at hi; omega
            subst hij
            have hbb : (bs ++ [wr.heap.size + 2])[i] = wr.heap.size + 2 := by
              rw [List.getElem_append_right (by omega)]; simp
            rw [hbb]; exact hup i _ HS4.out
      case measure => simp [intOf]; omega
    · have hj6 : j = 6 := by omega
      have hd : decide ((j : Int) < 6) = false := by simp; omega
      rw [hj6] at hst
      clear hj6
      go_wp2
      go_ret2
      obtain ⟨k', bs, vSegs, ev, hB, hR, hbl, hS⟩ := hst.out
      refine ⟨w.heap.size + 1, k', rfl, ev, ⟨vSegs, .slice none 0 0, bs, [], ⟨.slice none 0 0, [], hB, Rows.nil _ _ _ _ _, rfl, fun i h => by simp at h⟩, ⟨hR, hbl, by simp, fun i h h2 => ?_⟩, ⟨Rows.nil _ _ _ _ _, rfl, by simp, fun i h => by simp at h⟩⟩⟩
      have e1 : (List.replicate 6 seg0)[i]'h2 = seg0 := List.getElem_replicate h2
      rw [e1]; exact hS i h
end Go.Proofs.YtfpbkghcjaonlaaGreat
