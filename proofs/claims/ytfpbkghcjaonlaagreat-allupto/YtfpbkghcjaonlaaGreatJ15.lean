import Derived.Test.YtfpbkghcjaonlaaGreatJ14
import Derived.Test.YtfpbkghcjaonlaaGreatJ08
/-
  The program: package cuts.
-/
namespace Go.Proofs.YtfpbkghcjaonlaaGreat
open Go.RowKit

set_option maxHeartbeats 1000000 in
theorem xtop_any {k : Nat → Nat} {w : World} {c : Nat} {v : Value} {l : List (Int × Int)} (h : Rows k w c 53 2 v (l.map cutRow)) (hl : l.length ≤ 4000000000) :
    Calls Tryz.prog 110 #[v] w fun e w' => e = .returned (.int .i64 (topOf l)) ∧ w' = w := by
  obtain ⟨a, cap, rfl, hc⟩ := cuts_cells h
  clear h
  by_cases h0 : l.length = 0
  · have hd : ((l.length : Int) == 0) = true := by simp [h0]
    have HE : Hid (topOf l = 0) := hide (by rw [List.eq_nil_of_length_eq_zero h0]; rfl)
    clear h0
    go_enter Tryz.func110, Tryz.ntmps110
    go_wp2
    go_ret
    exact ⟨by rw [HE.out]; rfl, rfl⟩
  · obtain ⟨n, hn⟩ : ∃ n, l.length = n + 1 := ⟨l.length - 1, by omega⟩
    have hnl : n < l.length := by omega
    obtain ⟨g, rfl, q0, q1⟩ := hc n hnl
    have HE : Hid (topOf l = l[n].1) := hide (by
      have := topOf_take l n hnl
      rw [show n + 1 = l.length from hn.symm, List.take_length] at this
      exact this)
    have hd : (((n + 1 : Nat) : Int) == 0) = false := by simp; omega
    have hd2 : ((n : Int) + 1 == 0) = false := by simp; omega
    have hw : (n : Int) + 1 - 1 = (n : Int) := by omega
    have hn9 : (n : Int) ≤ 4000000000 := by omega
    generalize l[n] = ln at *
    rw [hn] at *
    clear hn hc h0 hnl
    go_enter Tryz.func110, Tryz.ntmps110
    go_wp2
    go_ret
    exact ⟨by rw [HE.out]; rfl, rfl⟩

theorem good_bad {l : List (Int × Int)} {lsn ep : Int} {j : Nat} (h : j < l.length) (hb : (decide (ep < l[j].1) && decide (l[j].2 < lsn)) = true) : good l lsn ep = false := by
  unfold good
  rw [Bool.and_eq_false_iff]
  right
  rw [List.all_eq_false]
  exact ⟨l[j], List.getElem_mem h, by rw [hb]; simp⟩
def okAll (l : List (Int × Int)) (lsn ep : Int) : Bool := l.all (fun c => !(decide (ep < c.1) && decide (c.2 < lsn)))
def inAny (l : List (Int × Int)) (ep : Int) : Bool := l.any (fun c => c.1 == ep)
theorem okAll_take (l : List (Int × Int)) (lsn ep : Int) (j : Nat) (h : j < l.length) : okAll (l.take (j + 1)) lsn ep = (okAll (l.take j) lsn ep && !(decide (ep < l[j].1) && decide (l[j].2 < lsn))) := by
  unfold okAll; rw [List.take_succ_eq_append_getElem h, List.all_append]; simp
theorem inAny_take (l : List (Int × Int)) (ep : Int) (j : Nat) (h : j < l.length) : inAny (l.take (j + 1)) ep = (inAny (l.take j) ep || (l[j].1 == ep)) := by
  unfold inAny; rw [List.take_succ_eq_append_getElem h, List.any_append]; simp

set_option maxHeartbeats 4000000 in
theorem xgood_any {k : Nat → Nat} {w : World} {c : Nat} {v : Value} {l : List (Int × Int)} (lsn ep : Int) (h : Rows k w c 53 2 v (l.map cutRow)) (hl : l.length ≤ 4000000000) :
    Calls Tryz.prog 142 #[v, .int .i64 lsn, .int .i64 ep] w fun e w' => e = .returned (.bool (good l lsn ep)) ∧ Below w.heap.size w w' := by
  obtain ⟨a, cap, rfl, hc⟩ := cuts_cells h
  clear h
  obtain ⟨gd, hgd⟩ : ∃ gd, gd = good l lsn ep := ⟨_, rfl⟩
  rw [← hgd]
  have HG := hide hgd
  clear hgd
  go_enter Tryz.func142, Tryz.ntmps142
  go_wp2
  go_loopw [7, 12] (fun f i wr => Below w.heap.size w wr ∧ ∃ j : Nat, i = .int .i64 j ∧ j ≤ l.length ∧ f = .bool (inAny (l.take j) ep) ∧ Hid (okAll (l.take j) lsn ep = true)) (fun _ i _ => l.length - (intOf i).toNat)
  case atStart => exact ⟨Below.refl _ _, 0, rfl, Nat.zero_le _, rfl, hide rfl⟩
  case round =>
    obtain ⟨hB, j, rfl, hj, rfl, hok⟩ := hrel
    have hsz := hB.size
    by_cases hlt : j < l.length
    · obtain ⟨g, rfl, q0, q1⟩ := hc j hlt
      have hgl : g < w.heap.size := World.block_lt_of_cell? w _ q0
      have p0 := (hB.cell (p := ⟨g, j * 2, none⟩) hgl).trans q0
      have p1 := (hB.cell (p := ⟨g, j * 2 + 1, none⟩) hgl).trans q1
      have HI := hide (inAny_take l ep j hlt)
      have HO := hide (okAll_take l lsn ep j hlt)
      have HBad := hide (fun hb => good_bad (lsn := lsn) (ep := ep) hlt hb)
      generalize inAny (l.take j) ep = fi at *
      clear q0 q1 hc
      cases h1 : (l[j].1 == ep)
      · rw [h1] at HI
        cases h2 : decide (ep < l[j].1)
        · rw [h2] at HO
          go_wp2_with fail
          go_roundw
          case rel => exact ⟨hB.alloc hsz _, j + 1, by go_num, by omega, by rw [HI.out]; simp, hide (by rw [HO.out, hok.out]; rfl)⟩
          case measure => simp [intOf]; omega
        · rw [h2] at HO HBad
          cases h3 : decide (l[j].2 < lsn)
          · rw [h3] at HO
            go_wp2_with fail
            go_roundw
            case rel => exact ⟨hB.alloc hsz _, j + 1, by go_num, by omega, by rw [HI.out]; simp, hide (by rw [HO.out, hok.out]; rfl)⟩
            case measure => simp [intOf]; omega
          · rw [h3] at HBad
            go_wp2_with fail
            go_ret
            exact ⟨by rw [HG.out, HBad.out rfl]; rfl, hB.alloc hsz _⟩
      · rw [h1] at HI
        cases h2 : decide (ep < l[j].1)
        · rw [h2] at HO
          go_wp2_with fail
          go_roundw
          case rel => exact ⟨hB.alloc hsz _, j + 1, by go_num, by omega, by rw [HI.out]; simp, hide (by rw [HO.out, hok.out]; rfl)⟩
          case measure => simp [intOf]; omega
        · exfalso
          simp at h1 h2
          omega
    · have hje : j = l.length := by omega
      have HE : Hid (gd = inAny (l.take j) ep) := hide (by
        have h2 := hok.out
        rw [hje, List.take_length] at h2
        rw [HG.out, hje, List.take_length]
        unfold good
        show (inAny l ep && okAll l lsn ep) = _
        rw [h2, Bool.and_true])
      generalize inAny (l.take j) ep = fi at *
      clear hje hc
      go_wp2_with fail
      go_ret
      exact ⟨by rw [HE.out]; rfl, hB⟩

theorem ints_take (l : List Int) (j : Nat) (h : j < l.length) : (l.take (j + 1)).map intRow = (l.take j).map intRow ++ [intRow l[j]] := by
  rw [List.take_succ_eq_append_getElem h, List.map_append]; rfl

set_option maxHeartbeats 1000000 in
theorem copyMarks_any {k : Nat → Nat} {w : World} {c : Nat} {v : Value} {l : List Int} (h : Rows k w c 3 1 v (l.map intRow)) (hl : l.length ≤ 4000000000) :
    Calls Tryz.prog 122 #[v] w fun e w' => (∃ z, e = .returned z ∧ Made w' w.heap.size 3 1 z (l.map intRow)) ∧ Below w.heap.size w w' := by
  obtain ⟨a, cap, rfl, hc⟩ := ints_cells h
  clear h
  go_enter Tryz.func122, Tryz.ntmps122
  go_wp2
  go_loopw [3, 8] (fun o i wr => Below w.heap.size w wr ∧ ∃ j : Nat, i = .int .i64 j ∧ j ≤ l.length ∧ Made wr w.heap.size 3 1 o ((l.take j).map intRow)) (fun _ i _ => l.length - (intOf i).toNat)
  case atStart => exact ⟨Below.refl _ _, 0, rfl, Nat.zero_le _, Made.nil _ _ _ _⟩
  case round =>
    obtain ⟨hB, j, rfl, hj, hM⟩ := hrel
    have hsz := hB.size
    by_cases hlt : j < l.length
    · obtain ⟨g, rfl, q0⟩ := hc j hlt
      have hgl : g < w.heap.size := World.block_lt_of_cell? w _ q0
      have p0 := (hB.cell (p := ⟨g, j, none⟩) hgl).trans q0
      have HR := hide (ints_take l j hlt)
      generalize hcn : l[j] = cn at *
      clear hcn q0
      have hM2 := hM.kept ((Below.refl _ _).alloc (Nat.le_refl _) (Obj.cells #[.int .i64 cn] 3))
      go_wp2_with (at_builtin; go_must (refine wpList_append_made (.tmp 12) (.tmp 14) 61 3 _ 1 8 _ ((l.take j).map intRow) j (intRow cn) w.heap.size ⟨wr.heap.size, 0, none⟩ 1 (by simp; omega) rfl rfl Tryz.underlying61 Tryz.infoInt rfl (by decide) rfl rfl hM2 rfl (cell_one_new' _ _ _) (by simp [intRow, Value.oneCell']) (by simp only [maxLen]; omega) (by omega) (by simp; omega) ?_; intro ao cap2 w2 hM3 hB3))
      go_roundw
      case rel => exact ⟨(hB.alloc (by omega) _).trans hB3, j + 1, by go_num, by omega, by rw [HR.out]; simpa using hM3⟩
      case measure => simp [intOf]; omega
    · have hje : j = l.length := by omega
      rw [hje, List.take_length] at hM
      clear hje
      go_wp2
      go_ret
      exact ⟨⟨_, rfl, hM⟩, hB⟩

theorem reachFrom_drop (l : List (Int × Int)) (ms : List Int) (j : Nat) (h : j < ms.length) : reachFrom l j (ms.drop j) = if good l ((j : Int) + 1) ms[j] then reachFrom l (j + 1) (ms.drop (j + 1)) else j := by
  rw [List.drop_eq_getElem_cons h]; rfl

set_option maxHeartbeats 2000000 in
theorem xreach_any {k k2 : Nat → Nat} {w : World} {c c2 : Nat} {v u : Value} {l : List (Int × Int)} {ms : List Int} (h : Rows k w c 53 2 v (l.map cutRow)) (hl : l.length ≤ 4000000000) (hm : Rows k2 w c2 3 1 u (ms.map intRow)) (hml : ms.length ≤ 4000000000) :
    Calls Tryz.prog 144 #[v, u] w fun e w' => e = .returned (.int .i64 (reachFrom l 0 ms)) ∧ Below w.heap.size w w' := by
  have HG : Hid (∀ W, Below w.heap.size w W → ∀ lsn ep, Calls Tryz.prog 142 #[v, .int .i64 lsn, .int .i64 ep] W fun e w' => e = .returned (.bool (good l lsn ep)) ∧ Below W.heap.size W w') := hide fun W hW lsn ep =>
    xgood_any lsn ep (Rows.evo h (Evo.of_below (C := noC) hW) (noC_not _)) hl
  obtain ⟨v0, v1, v2, hv⟩ := Rows.shape h
  subst hv
  obtain ⟨a, cap, rfl, hc⟩ := ints_cells hm
  obtain ⟨rf, hrf⟩ : ∃ rf, rf = reachFrom l 0 ms := ⟨_, rfl⟩
  rw [← hrf]
  have H0 : Hid (reachFrom l 0 (ms.drop 0) = rf) := hide hrf.symm
  clear h hm hrf
  go_enter Tryz.func144, Tryz.ntmps144
  go_wp2
  go_loopw [9] (fun i wr => Below w.heap.size w wr ∧ ∃ j : Nat, i = .int .i64 j ∧ j ≤ ms.length ∧ Hid (reachFrom l j (ms.drop j) = rf)) (fun i _ => ms.length - (intOf i).toNat)
  case atStart => exact ⟨Below.refl _ _, 0, rfl, Nat.zero_le _, H0⟩
  case round =>
    obtain ⟨hB, j, rfl, hj, hrf⟩ := hrel
    have hsz := hB.size
    by_cases hlt : j < ms.length
    · obtain ⟨g, rfl, q0⟩ := hc j hlt
      have hgl : g < w.heap.size := World.block_lt_of_cell? w _ q0
      have p0 := (hB.cell (p := ⟨g, j, none⟩) hgl).trans q0
      have HS := hide (reachFrom_drop l ms j hlt)
      generalize hcn : ms[j] = cn at *
      have hw : IntKind.i64.wrap ((j : Int) + 1) = (j : Int) + 1 := by rw [IntKind.wrap_i64] <;> omega
      have HGj := hide (HG.out wr hB ((j : Int) + 1) cn)
      cases hg : good l ((j : Int) + 1) cn
      · rw [hg] at HGj HS
        clear hcn q0
        go_wp2_with fail
        refine HGj.out.mono ?_
        rintro e1 w1 ⟨rfl, hb1⟩
        go_wp2_with fail
        go_ret
        exact ⟨by rw [← hrf.out, HS.out]; rfl, hB.trans (hb1.mono hsz)⟩
      · rw [hg] at HGj HS
        clear hcn q0
        go_wp2_with fail
        refine HGj.out.mono ?_
        rintro e1 w1 ⟨rfl, hb1⟩
        go_wp2_with fail
        go_roundw
        case rel => exact ⟨hB.trans (hb1.mono hsz), j + 1, by go_num, by omega, hide (by rw [← hrf.out, HS.out]; rfl)⟩
        case measure => simp [intOf]; omega
    · have hje : j = ms.length := by omega
      have HE : Hid (rf = ms.length) := hide (by rw [← hrf.out, hje, List.drop_length]; rfl)
      have hd : decide ((j : Int) < (ms.length : Int)) = false := by simp; omega
      clear hje
      go_wp2_with fail
      go_ret
      exact ⟨by rw [HE.out]; rfl, hB⟩
end Go.Proofs.YtfpbkghcjaonlaaGreat

/-
  The program: fresh.
-/
namespace Go.Proofs.YtfpbkghcjaonlaaGreat
open Go.RowKit

theorem made_shape {w : World} {B e size : Nat} {v : Value} {rows : List (List Value)} (h : Made w B e size v rows) : ∃ a n cap, v = .slice a n cap := let ⟨a, c, h⟩ := h.form; ⟨a, _, c, h⟩

/-- A message whose lists are new. -/
def XFresh (B0 : Nat) (w' : World) (m : Msg) (v : Value) : Prop :=
  ∃ vc vm B1, v = .agg #[.int .i64 m.kind, .int .i64 m.frm, .int .i64 m.to_, .int .i64 m.epoch, .int .i64 m.lsn, .int .i64 m.value, .int .i64 m.scl, vc, vm] ∧ B0 ≤ B1 ∧ (∀ g, vc.ownBlock = some g → g < B1) ∧
    Made w' B0 53 2 vc (m.cuts.map cutRow) ∧ Made w' B1 3 1 vm (m.marks.map intRow)

theorem Made.frame {w w' : World} {B e size : Nat} {v : Value} {rows : List (List Value)} (h : Made w B e size v rows) (hk : ∀ g, B ≤ g → g < w.heap.size → v.ownBlock = some g → w'.heap[g]? = w.heap[g]?) : Made w' B e size v rows := by
  refine ⟨h.1, h.2.1, ?_⟩
  rcases h.2.2 with hn | ⟨g, cap, cur, rfl, hb, hg, r⟩
  · exact .inl hn
  · exact .inr ⟨g, cap, cur, rfl, hb, (hk g hb (Array.getElem?_eq_some_iff.1 hg).1 rfl).trans hg, r⟩

theorem heap_set9 {w : World} {b : Nat} (v0 v1 v2 v3 v4 v5 v6 v7 v8 : Value) {g : Nat} (h : g ≠ b) :
    (((((((((w.setCell ⟨b, 0, none⟩ v0).setCell ⟨b, 1, none⟩ v1).setCell ⟨b, 2, none⟩ v2).setCell ⟨b, 3, none⟩ v3).setCell ⟨b, 4, none⟩ v4).setCell ⟨b, 5, none⟩ v5).setCell ⟨b, 6, none⟩ v6).setCell ⟨b, 7, none⟩ v7).setCell ⟨b, 8, none⟩ v8).heap[g]? = w.heap[g]? := by
  repeat rw [heap_setCell_other _ _ _ _ (by simpa using h)]

set_option maxRecDepth 3000 in
set_option maxHeartbeats 4000000 in
theorem fresh_any {k k2 : Nat → Nat} {w : World} {c c2 : Nat} (m : Msg) {vc vm : Value} (hc : Rows k w c 53 2 vc (m.cuts.map cutRow)) (hm : Rows k2 w c2 3 1 vm (m.marks.map intRow)) (hcl : m.cuts.length ≤ 4000000000) (hml : m.marks.length ≤ 4000000000) :
    Calls Tryz.prog 112 #[.agg #[.int .i64 m.kind, .int .i64 m.frm, .int .i64 m.to_, .int .i64 m.epoch, .int .i64 m.lsn, .int .i64 m.value, .int .i64 m.scl, vc, vm]] w fun e w' => (∃ v, e = .returned v ∧ XFresh w.heap.size w' m v) ∧ Below w.heap.size w w' := by
  have HCp : Hid (∀ W, Below w.heap.size w W → Calls Tryz.prog 118 #[vc] W fun e w' => (∃ z, e = .returned z ∧ Made w' W.heap.size 53 2 z (m.cuts.map cutRow)) ∧ Below W.heap.size W w') := hide fun W hW =>
    copy_any (hc.evo (Evo.of_below (C := noC) hW) (noC_not _)) hcl
  have HMk : Hid (∀ W, Below w.heap.size w W → Calls Tryz.prog 122 #[vm] W fun e w' => (∃ z, e = .returned z ∧ Made w' W.heap.size 3 1 z (m.marks.map intRow)) ∧ Below W.heap.size W w') := hide fun W hW =>
    copyMarks_any (hm.evo (Evo.of_below (C := noC) hW) (noC_not _)) hml
  obtain ⟨z0, z1, z2, hz⟩ := Rows.shape hc
  subst hz
  obtain ⟨y0, y1, y2, hz⟩ := Rows.shape hm
  subst hz
  clear hc hm
  obtain ⟨m0, m1, m2, m3, m4, m5, m6, mc, mm⟩ := m
  dsimp only at *
  have hb0 := ((Below.refl w.heap.size w).alloc (Nat.le_refl _) (Obj.cells #[.int .i64 m0, .int .i64 m1, .int .i64 m2, .int .i64 m3, .int .i64 m4, .int .i64 m5, .int .i64 m6, .slice z0 z1 z2, .slice y0 y1 y2] 109)).alloc (by simp) (Obj.cells #[.int .i64 0, .int .i64 0, .int .i64 0, .int .i64 0, .int .i64 0, .int .i64 0, .int .i64 0, .slice none 0 0, .slice none 0 0] 109)
  go_enter Tryz.func112, Tryz.ntmps112
  go_wp2_with fail
  refine (HCp.out _ hb0).mono ?_
  rintro e1 w1 ⟨⟨z, rfl, hz⟩, hb1⟩
  have hs1 := hb1.size
  simp only [World.size_alloc] at hs1 hz hb1
  have hB1 : Below w.heap.size w w1 := hb0.trans (hb1.mono (by omega))
  have b1 : Blk (fun _ => 0) w1 0 w.heap.size 109 [.int .i64 m0, .int .i64 m1, .int .i64 m2, .int .i64 m3, .int .i64 m4, .int .i64 m5, .int .i64 m6, .slice z0 z1 z2, .slice y0 y1 y2] := ⟨(hb1.block w.heap.size (by omega)).trans ((Below.heap_alloc _ _ _ (by simp)).trans (heap_alloc_new w _)), rfl⟩
  have b2 : Blk (fun _ => 0) w1 0 (w.heap.size + 1) 109 [.int .i64 0, .int .i64 0, .int .i64 0, .int .i64 0, .int .i64 0, .int .i64 0, .int .i64 0, .slice none 0 0, .slice none 0 0] := ⟨(hb1.block (w.heap.size + 1) (by omega)).trans (by rw [heap_alloc2_new]), rfl⟩
  obtain ⟨x0, x1, x2, hx⟩ := made_shape hz
  subst hx
  have a7 : w1.cell? ⟨w.heap.size, 7, none⟩ = some (.slice z0 z1 z2) := b1.cell 7
  have a8 : w1.cell? ⟨w.heap.size, 8, none⟩ = some (.slice y0 y1 y2) := b1.cell 8
  have af := b1.free 7
  have al := b1.lt
  have hB2 : Below w.heap.size w (w1.setCell ⟨w.heap.size, 7, none⟩ (.slice x0 x1 x2)) := hB1.setCell (Nat.le_refl _) _
  have c1 := b1.set 7 (.slice x0 x1 x2)
  have c2 := b2.other ⟨w.heap.size, 7, none⟩ (.slice x0 x1 x2) (by simp)
  have hz2 := hz.setCell ⟨w.heap.size, 7, none⟩ (.slice x0 x1 x2) (fun he => by have := (Made.block hz _ he).1; simp at this; omega)
  go_wp2_with fail
  refine (HMk.out _ hB2).mono ?_
  rintro e2 w2 ⟨⟨y, rfl, hy⟩, hb2⟩
  have hs2 := hb2.size
  simp only [World.size_setCell] at hs2 hy hb2
  have hB3 : Below w.heap.size w w2 := hB2.trans (hb2.mono (by omega))
  have d1 : Blk (fun _ => 0) w2 0 w.heap.size 109 [.int .i64 m0, .int .i64 m1, .int .i64 m2, .int .i64 m3, .int .i64 m4, .int .i64 m5, .int .i64 m6, .slice x0 x1 x2, .slice y0 y1 y2] := ⟨(hb2.block w.heap.size (by omega)).trans c1.1, rfl⟩
  have d2 : Blk (fun _ => 0) w2 0 (w.heap.size + 1) 109 [.int .i64 0, .int .i64 0, .int .i64 0, .int .i64 0, .int .i64 0, .int .i64 0, .int .i64 0, .slice none 0 0, .slice none 0 0] := ⟨(hb2.block (w.heap.size + 1) (by omega)).trans c2.1, rfl⟩
  have hz3 : Made w2 (w.heap.size + 1 + 1) 53 2 (.slice x0 x1 x2) (mc.map cutRow) := hz2.frame (fun g _ hg _ => hb2.block g (by simpa using hg))
  have hzb : ∀ g, (Value.slice x0 x1 x2).ownBlock = some g → w.heap.size + 1 + 1 ≤ g ∧ g < w1.heap.size := fun g hg => Made.block hz g hg
  have hyb : ∀ g, y.ownBlock = some g → w1.heap.size ≤ g ∧ g < w2.heap.size := fun g hg => Made.block hy g hg
  obtain ⟨v0, v1, v2, hv⟩ := made_shape hy
  subst hv
  have pc0 : w2.cell? ⟨w.heap.size, 0, none⟩ = some (.int .i64 m0) := d1.cell 0
  have pc1 : w2.cell? ⟨w.heap.size, 1, none⟩ = some (.int .i64 m1) := d1.cell 1
  have pc2 : w2.cell? ⟨w.heap.size, 2, none⟩ = some (.int .i64 m2) := d1.cell 2
  have pc3 : w2.cell? ⟨w.heap.size, 3, none⟩ = some (.int .i64 m3) := d1.cell 3
  have pc4 : w2.cell? ⟨w.heap.size, 4, none⟩ = some (.int .i64 m4) := d1.cell 4
  have pc5 : w2.cell? ⟨w.heap.size, 5, none⟩ = some (.int .i64 m5) := d1.cell 5
  have pc6 : w2.cell? ⟨w.heap.size, 6, none⟩ = some (.int .i64 m6) := d1.cell 6
  have pc7 : w2.cell? ⟨w.heap.size, 7, none⟩ = some (.slice x0 x1 x2) := d1.cell 7
  have pc8 : w2.cell? ⟨w.heap.size, 8, none⟩ = some (.slice y0 y1 y2) := d1.cell 8
  have pl := d1.lt
  have pf8 := d1.free 8
  have qc0 : w2.cell? ⟨w.heap.size + 1, 0, none⟩ = some (.int .i64 0) := d2.cell 0
  have qc1 : w2.cell? ⟨w.heap.size + 1, 1, none⟩ = some (.int .i64 0) := d2.cell 1
  have qc2 : w2.cell? ⟨w.heap.size + 1, 2, none⟩ = some (.int .i64 0) := d2.cell 2
  have qc3 : w2.cell? ⟨w.heap.size + 1, 3, none⟩ = some (.int .i64 0) := d2.cell 3
  have qc4 : w2.cell? ⟨w.heap.size + 1, 4, none⟩ = some (.int .i64 0) := d2.cell 4
  have qc5 : w2.cell? ⟨w.heap.size + 1, 5, none⟩ = some (.int .i64 0) := d2.cell 5
  have qc6 : w2.cell? ⟨w.heap.size + 1, 6, none⟩ = some (.int .i64 0) := d2.cell 6
  have qc7 : w2.cell? ⟨w.heap.size + 1, 7, none⟩ = some (.slice none 0 0) := d2.cell 7
  have qc8 : w2.cell? ⟨w.heap.size + 1, 8, none⟩ = some (.slice none 0 0) := d2.cell 8
  have qf0 := d2.free 0
  have qf1 := d2.free 1
  have qf2 := d2.free 2
  have qf3 := d2.free 3
  have qf4 := d2.free 4
  have qf5 := d2.free 5
  have qf6 := d2.free 6
  have qf7 := d2.free 7
  have qf8 := d2.free 8
  have ql := d2.lt
  clear d1 d2 c1 c2 b1 b2 hb1 hb2 hz hz2 a7 a8 af
  go_wp2_with fail
  have hy1 : Made (w2.setCell ⟨w.heap.size, 8, none⟩ (.slice v0 v1 v2)) w1.heap.size 3 1 (.slice v0 v1 v2) (mm.map intRow) := hy.setCell _ _ (fun he => by have := (hyb _ he).1; simp at this; omega)
  have hz4 : Made (w2.setCell ⟨w.heap.size, 8, none⟩ (.slice v0 v1 v2)) (w.heap.size + 1 + 1) 53 2 (.slice x0 x1 x2) (mc.map cutRow) := hz3.setCell _ _ (fun he => by have := (hzb _ he).1; simp at this; omega)
  refine bodyPost_ret (v := .agg #[.int .i64 m0, .int .i64 m1, .int .i64 m2, .int .i64 m3, .int .i64 m4, .int .i64 m5, .int .i64 m6, .slice x0 x1 x2, .slice v0 v1 v2]) (by simp [results, Tryz.results112, go_sem, qc0, qc1, qc2, qc3, qc4, qc5, qc6, qc7, qc8]) rfl ⟨⟨_, rfl, .slice x0 x1 x2, .slice v0 v1 v2, w1.heap.size, rfl, by omega, fun g hg => (hzb g hg).2, ?_, ?_⟩, ?_⟩
  · refine Made.weaken ?_ (show w.heap.size ≤ w.heap.size + 1 + 1 by omega)
    exact hz4.frame (fun g h1 _ _ => heap_set9 _ _ _ _ _ _ _ _ _ (by omega))
  · exact hy1.frame (fun g h1 _ _ => heap_set9 _ _ _ _ _ _ _ _ _ (by omega))
  · have b9 := below9 (hB3.setCell (p := ⟨w.heap.size, 8, none⟩) (Nat.le_refl _) (.slice v0 v1 v2)) (show w.heap.size ≤ w.heap.size + 1 by omega) (.int .i64 m0) (.int .i64 m1) (.int .i64 m2) (.int .i64 m3) (.int .i64 m4) (.int .i64 m5) (.int .i64 m6) (.slice x0 x1 x2) (.slice v0 v1 v2)
    exact b9

end Go.Proofs.YtfpbkghcjaonlaaGreat

/-
  sixfoldlaw: segment, the walk.
-/
namespace Go.Proofs.YtfpbkghcjaonlaaGreat
open Go.RowKit

def cLaw : Nat → Prop := fun c => 200 ≤ c ∧ c < 209
def is205 : Nat → Prop := fun c => c = 205

set_option maxRecDepth 100000 in
set_option maxHeartbeats 8000000 in
theorem lawSegment_any {k : Nat → Nat} {w : World} {b px py nC nR nI : Nat} (n : Int) (d : SegD) (h : LawIs k w is205 b px py nC nR nI) (hcl : Clean k w)
    (hx : ∀ W, Below w.heap.size w W → Calls Tryz.prog 51 #[.pointer (some ⟨px, 0, none⟩), .int .i64 n] W fun e w' => (∃ v, e = .returned v ∧ XAns W.heap.size w' d v) ∧ Below W.heap.size W w')
    (hy : ∀ W, Below w.heap.size w W → Calls Tryz.prog 52 #[.pointer (some ⟨py, 0, none⟩), .int .i64 n] W fun e w' => (∃ v, e = .returned v ∧ YAns w' d v) ∧ Below W.heap.size W w')
    (hC : nC ≤ 3900000000) (hR : nR ≤ 3900000000) (hdc : d.cuts.length ≤ 4000000000) (hdk : d.kept.length ≤ 4000000000) (hdb : d.buf.length ≤ 4000000000) :
    Calls Tryz.prog 21 #[.pointer (some ⟨b, 0, none⟩), .int .i64 n] w fun e w' => e = .returned (.bool true) ∧
      ∃ k', Evo k k' cLaw w w' ∧ LawIs k' w' is205 b px py (nC + 4) (nR + 8) nI ∧ Clean k' w' := by
  obtain ⟨vC, vR, vI, hB, -, -, -⟩ := h.ex
  have z0 : w.cell? ⟨b, 0, none⟩ = some (.pointer (some ⟨px, 0, none⟩)) := hB.cell 0
  have z1 : w.cell? ⟨b, 1, none⟩ = some (.pointer (some ⟨py, 0, none⟩)) := hB.cell 1
  have hbl := hB.lt
  have HX := hide hx
  have HY := hide hy
  clear hx hy hB
  go_enter Tryz.func21, Tryz.ntmps21
  go_wp2_with fail
  refine (HX.out _ (Below.refl _ _)).mono ?_
  rintro e1 w1 ⟨⟨v, rfl, vc, vk, vb, B1, B2, rfl, hl1, hl2, hlc, hlk, mc, mk, mb⟩, hb1⟩
  have hs1 := hb1.size
  obtain ⟨ca, cc, hcf⟩ := mc.form
  obtain ⟨ka, kc, hkf⟩ := mk.form
  obtain ⟨ba, bc, hbf⟩ := mb.form
  simp only [List.length_map] at hcf hkf hbf
  subst hcf hkf hbf
  have y0 := (hb1.cell (p := ⟨b, 0, none⟩) hbl).trans z0
  have y1 := (hb1.cell (p := ⟨b, 1, none⟩) hbl).trans z1
  have hbl1 : b < w1.heap.size := by omega
  -- the document's
  obtain ⟨wA, hwA⟩ : ∃ wA, wA = w1.alloc (Obj.cells #[.bool d.up, .int .i64 d.epoch, .int .i64 d.scl, .slice ca d.cuts.length cc, .slice ka d.kept.length kc, .slice ba d.buf.length bc] 97) := ⟨_, rfl⟩
  have hbA : Below w.heap.size w wA := by rw [hwA]; exact hb1.alloc hs1 _
  have oA : wA.heap[w1.heap.size]? = some (.cells #[.bool d.up, .int .i64 d.epoch, .int .i64 d.scl, .slice ca d.cuts.length cc, .slice ka d.kept.length kc, .slice ba d.buf.length bc] 97 (0, 0)) := by rw [hwA]; exact heap_alloc_new w1 _
  have b1A : Below w1.heap.size w1 wA := by rw [hwA]; exact (Below.refl _ _).alloc (Nat.le_refl _) _
  have hsA : wA.heap.size = w1.heap.size + 1 := by rw [hwA]; simp
  go_wp2_with fail
  rw [← hwA]
  clear hwA
  refine (HY.out _ hbA).mono ?_
  rintro e1 w2 ⟨⟨v2, rfl, yc, yk, yb, k1, k2, k3, c1, c2, c3, rfl, rc, rk, rb⟩, hb2⟩
  have hs2 := hb2.size
  obtain ⟨yca, yccp, hcf, _⟩ := rc.form
  obtain ⟨yka, ykc, hkf, _⟩ := rk.form
  obtain ⟨yba, ybc, hbf, _⟩ := rb.form
  simp only [List.length_map] at hcf hkf hbf
  subst hcf hkf hbf
  have o2 := (hb2.block w1.heap.size (by omega)).trans oA
  have bw2 : Below w.heap.size w w2 := hbA.trans (hb2.mono (by omega))
  have b12 : Below w1.heap.size w1 w2 := b1A.trans (hb2.mono (by omega))
  obtain ⟨a0, a1, a2, a3, a4, a5, -⟩ := cells6 o2
  have hlt12 : w1.heap.size < w2.heap.size := by omega
  have HO2 := hide o2
  have HOA := hide oA
  clear o2 oA
  go_wp2_with fail
  have o2 := HO2.out
  obtain ⟨wB, hwB⟩ : ∃ wB, wB = w2.alloc (Obj.cells #[.bool d.up, .int .i64 d.epoch, .int .i64 d.scl, .slice yca d.cuts.length yccp, .slice yka d.kept.length ykc, .slice yba d.buf.length ybc] 97) := ⟨_, rfl⟩
  rw [← hwB]
  have b2B : Below w2.heap.size w2 wB := by rw [hwB]; exact (Below.refl _ _).alloc (Nat.le_refl _) _
  have pB : wB.heap[w2.heap.size]? = some (.cells #[.bool d.up, .int .i64 d.epoch, .int .i64 d.scl, .slice yca d.cuts.length yccp, .slice yka d.kept.length ykc, .slice yba d.buf.length ybc] 97 (0, 0)) := by rw [hwB]; exact heap_alloc_new w2 _
  have hsB : wB.heap.size = w2.heap.size + 1 := by rw [hwB]; simp
  have oB := (b2B.block w1.heap.size (by omega)).trans o2
  have b1B : Below w1.heap.size w1 wB := b12.trans (b2B.mono (by omega))
  have mcB := mc.kept b1B
  have mkB := mk.kept b1B
  have mbB := mb.kept b1B
  have rcB := rc.below b2B
  have rkB := rk.below b2B
  have rbB := rb.below b2B
  have xcB : Rows (fun _ => 0) wB 0 53 2 (.slice ca d.cuts.length cc) (d.cuts.map cutRow) := mcB.colour (fun _ _ => rfl)
  have xkB : Rows (fun _ => 0) wB 0 59 3 (.slice ka d.kept.length kc) (d.kept.map recRow) := mkB.colour (fun _ _ => rfl)
  have xbB : Rows (fun _ => 0) wB 0 59 3 (.slice ba d.buf.length bc) (d.buf.map recRow) := mbB.colour (fun _ _ => rfl)
  have HS1 : Hid (∀ W, Below wB.heap.size wB W → Calls Tryz.prog 53 #[.slice ca d.cuts.length cc, .slice yca d.cuts.length yccp] W fun e w' => e = .returned (.bool true) ∧ Below W.heap.size W w') := hide fun W hW => sameCuts_yes (xcB.below hW) (rcB.below hW) hdc
  have HS2 : Hid (∀ W, Below wB.heap.size wB W → Calls Tryz.prog 54 #[.slice ka d.kept.length kc, .slice yka d.kept.length ykc] W fun e w' => e = .returned (.bool true) ∧ Below W.heap.size W w') := hide fun W hW => sameRecords_yes (xkB.below hW) (rkB.below hW) hdk
  have HS3 : Hid (∀ W, Below wB.heap.size wB W → Calls Tryz.prog 54 #[.slice ba d.buf.length bc, .slice yba d.buf.length ybc] W fun e w' => e = .returned (.bool true) ∧ Below W.heap.size W w') := hide fun W hW => sameRecords_yes (xbB.below hW) (rbB.below hW) hdb
  have HOB := hide oB
  have HPB := hide pB
  clear o2 oB pB rc rk rb rcB rkB rbB xcB xkB xbB y0 y1 HX HY
  clear hwB
  -- the three comparisons
  refine (HS1.out _ (Below.refl _ _)).mono ?_
  rintro e1 w3 ⟨rfl, hb3⟩
  have hs3 := hb3.size
  clear a0 a1 a2 a3 a4 a5
  obtain ⟨a0, a1, a2, a3, a4, a5, -⟩ := cells6 ((hb3.block _ (by omega)).trans HOB.out)
  obtain ⟨p0, p1, p2, p3, p4, p5, -⟩ := cells6 ((hb3.block _ (by omega)).trans HPB.out)
  go_wp2_with fail
  refine (HS2.out _ hb3).mono ?_
  rintro e1 w4 ⟨rfl, hb4⟩
  have hs4 := hb4.size
  have bB4 : Below wB.heap.size wB w4 := hb3.trans (hb4.mono (by omega))
  clear a0 a1 a2 a3 a4 a5 p0 p1 p2 p3 p4 p5
  obtain ⟨a0, a1, a2, a3, a4, a5, -⟩ := cells6 ((bB4.block _ (by omega)).trans HOB.out)
  obtain ⟨p0, p1, p2, p3, p4, p5, -⟩ := cells6 ((bB4.block _ (by omega)).trans HPB.out)
  go_wp2_with fail
  refine (HS3.out _ bB4).mono ?_
  rintro e1 w5 ⟨rfl, hb5⟩
  have hs5 := hb5.size
  have bB5 : Below wB.heap.size wB w5 := bB4.trans (hb5.mono (by omega))
  clear a0 a1 a2 a3 a4 a5 p0 p1 p2 p3 p4 p5
  obtain ⟨a0, a1, a2, a3, a4, a5, -⟩ := cells6 ((bB5.block _ (by omega)).trans HOB.out)
  obtain ⟨p0, p1, p2, p3, p4, p5, -⟩ := cells6 ((bB5.block _ (by omega)).trans HPB.out)
  have b15 : Below w1.heap.size w1 w5 := b1B.trans (bB5.mono (by omega))
  have bw5 : Below w.heap.size w w5 := hb1.trans (b15.mono hs1)
  go_wp2_with fail
  -- the caller's lists
  have hAblk := (bB5.block _ (by omega)).trans HOB.out
  clear a0 a1 a2 a3 a4 a5 p0 p1 p2 p3 p4 p5
  obtain ⟨r204, r206, r207⟩ := colour3_rows (k := k) (mc.kept b15) (mk.kept b15) (mb.kept b15) hl1 hl2 hlc hlk
  have ev1 := below_colour3 (k := k) rfl bw5 (.slice ca d.cuts.length cc) (.slice ka d.kept.length kc) (.slice ba d.buf.length bc) noC
  have hA : Blk (colour3 w.heap.size k (.slice ca d.cuts.length cc) (.slice ka d.kept.length kc) (.slice ba d.buf.length bc)) w5 0 w1.heap.size 97 [.bool d.up, .int .i64 d.epoch, .int .i64 d.scl, .slice ca d.cuts.length cc, .slice ka d.kept.length kc, .slice ba d.buf.length bc] := by
    refine ⟨hAblk, ?_⟩
    unfold colour3
    rw [if_neg (by omega), if_neg (fun e => by have := (mc.block _ e).2; omega), if_neg (fun e => by have := (mk.block _ e).2; omega), if_neg (fun e => by have := (mb.block _ e).2; omega)]
  generalize colour3 w.heap.size k (.slice ca d.cuts.length cc) (.slice ka d.kept.length kc) (.slice ba d.buf.length bc) = K1 at *
  have hL5 := h.evo ev1 (fun c _ => noC_not c) (fun c _ _ => noC_not c)
  have hlen1 : (d.cuts.map cutRow).length ≤ 4000000000 := by simpa using hdc
  have hlen2 : (d.kept.map recRow).length ≤ 4000000000 := by simpa using hdk
  have hlen3 : (d.buf.map recRow).length ≤ 4000000000 := by simpa using hdb
  clear hAblk HOB HPB
  refine (ownCuts_any hL5 r204 (by unfold is205; omega) (by omega) (fun c hc => by unfold is205 at hc; omega) hlen1 (by omega)).mono ?_
  rintro e1 w6 ⟨rfl, k6, ev6, hL6⟩
  have hA6 := hA.evo ev6 (by omega)
  have r206' := r206.evo ev6 (by omega)
  have r207' := r207.evo ev6 (by omega)
  have a4 : w6.cell? ⟨w1.heap.size, 4, none⟩ = some (.slice ka d.kept.length kc) := hA6.cell 4
  go_wp2_with fail
  refine (ownRecords_any hL6 r206' (by unfold is205; omega) (by omega) (fun c hc => by unfold is205 at hc; omega) hlen2 (by omega)).mono ?_
  rintro e1 w7 ⟨rfl, k7, ev7, hL7⟩
  have hA7 := hA6.evo ev7 (by omega)
  have r207'' := r207'.evo ev7 (by omega)
  have a5 : w7.cell? ⟨w1.heap.size, 5, none⟩ = some (.slice ba d.buf.length bc) := hA7.cell 5
  clear a4
  go_wp2_with fail
  refine (ownRecords_any hL7 r207'' (by unfold is205; omega) (by omega) (fun c hc => by unfold is205 at hc; omega) hlen3 (by omega)).mono ?_
  rintro e1 w8 ⟨rfl, k8, ev8, hL8⟩
  clear a5
  go_wp2_with fail
  go_ret
  have eA : Evo k k8 cLaw w w8 := (ev1.mono (fun _ h => h.elim)).trans ((ev6.mono (fun c h => by unfold cLaw; omega)).trans ((ev7.mono (fun c h => by unfold cLaw; omega)).trans (ev8.mono (fun c h => by unfold cLaw; omega))))
  refine ⟨rfl, reco w.heap.size k8, eA.recol, ?_, hcl.recol eA⟩
  exact hL8.recol (fun c hc => by unfold is205 at hc; omega) (fun g hg => by rw [eA.col g hg]; exact hcl g hg)
end Go.Proofs.YtfpbkghcjaonlaaGreat

/-
  sixfoldlaw: message, writer, flight.
-/
namespace Go.Proofs.YtfpbkghcjaonlaaGreat
open Go.RowKit

def XMsg (B0 : Nat) (w' : World) (err : Int) (m : Msg) (v : Value) : Prop :=
  ∃ vc vm B1, v = .tuple #[.agg #[.int .i64 m.kind, .int .i64 m.frm, .int .i64 m.to_, .int .i64 m.epoch, .int .i64 m.lsn, .int .i64 m.value, .int .i64 m.scl, vc, vm], .int .i64 err] ∧ B0 ≤ B1 ∧ (∀ g, vc.ownBlock = some g → g < B1) ∧
    Made w' B0 53 2 vc (m.cuts.map cutRow) ∧ Made w' B1 3 1 vm (m.marks.map intRow)
def YMsg (w' : World) (err : Int) (m : Msg) (v : Value) : Prop :=
  ∃ vc vm k1 k2 c1 c2, v = .tuple #[.agg #[.int .i64 m.kind, .int .i64 m.frm, .int .i64 m.to_, .int .i64 m.epoch, .int .i64 m.lsn, .int .i64 m.value, .int .i64 m.scl, vc, vm], .int .i64 err] ∧
    Rows k1 w' c1 53 2 vc (m.cuts.map cutRow) ∧ Rows k2 w' c2 3 1 vm (m.marks.map intRow)

/-- The cells of a message's block. -/
theorem cells9 {w : World} {b e : Nat} {c0 c1 c2 c3 c4 c5 c6 c7 c8 : Value} (h : w.heap[b]? = some (.cells #[c0, c1, c2, c3, c4, c5, c6, c7, c8] e (0, 0))) :
    w.cell? ⟨b, 0, none⟩ = some c0 ∧ w.cell? ⟨b, 1, none⟩ = some c1 ∧ w.cell? ⟨b, 2, none⟩ = some c2 ∧ w.cell? ⟨b, 3, none⟩ = some c3 ∧ w.cell? ⟨b, 4, none⟩ = some c4 ∧ w.cell? ⟨b, 5, none⟩ = some c5 ∧
    w.cell? ⟨b, 6, none⟩ = some c6 ∧ w.cell? ⟨b, 7, none⟩ = some c7 ∧ w.cell? ⟨b, 8, none⟩ = some c8 := by
  refine ⟨?_, ?_, ?_, ?_, ?_, ?_, ?_, ?_, ?_⟩
  all_goals (rw [cell_of_row _ _ _ _ _ _ h]; rfl)

def colour2 (n : Nat) (k : Nat → Nat) (vc vm : Value) (g : Nat) : Nat := if g < n then k g else if vc.ownBlock = some g then 204 else if vm.ownBlock = some g then 208 else 0
theorem colour2_rows {n B1 : Nat} {k : Nat → Nat} {w : World} {vc vm : Value} {rc rk : List (List Value)} {e1 e2 z1 z2 : Nat} (h1 : Made w n e1 z1 vc rc) (h2 : Made w B1 e2 z2 vm rk) (hn1 : n ≤ B1) (hc : ∀ g, vc.ownBlock = some g → g < B1) :
    Rows (colour2 n k vc vm) w 204 e1 z1 vc rc ∧ Rows (colour2 n k vc vm) w 208 e2 z2 vm rk := by
  refine ⟨h1.colour fun g hg => ?_, h2.colour fun g hg => ?_⟩
  · have := (h1.block g hg).1
    unfold colour2; rw [if_neg (by omega), if_pos hg]
  · have := (h2.block g hg).1
    unfold colour2; rw [if_neg (by omega), if_neg (fun e => by have := hc g e; omega), if_pos hg]
theorem below_colour2 {n : Nat} {k : Nat → Nat} {w w' : World} (hn : n = w.heap.size) (h : Below w.heap.size w w') (vc vm : Value) (C : Nat → Prop) : Evo k (colour2 n k vc vm) C w w' := by
  subst hn
  exact (Evo.of_below (k := k) h).recolour _ (fun _ hi => if_pos hi)

set_option maxRecDepth 100000 in
set_option maxHeartbeats 8000000 in
theorem lawMessage_any {k : Nat → Nat} {w : World} {b px py nC nR nI : Nat} (n : Int) (err : Int) (m : Msg) (h : LawIs k w is205 b px py nC nR nI) (hcl : Clean k w)
    (hx : ∀ W, Below w.heap.size w W → Calls Tryz.prog 59 #[.pointer (some ⟨px, 0, none⟩), .int .i64 n] W fun e w' => (∃ v, e = .returned v ∧ XMsg W.heap.size w' err m v) ∧ Below W.heap.size W w')
    (hy : ∀ W, Below w.heap.size w W → Calls Tryz.prog 60 #[.pointer (some ⟨py, 0, none⟩), .int .i64 n] W fun e w' => (∃ v, e = .returned v ∧ YMsg w' err m v) ∧ Below W.heap.size W w')
    (hC : nC ≤ 3900000000) (hI : nI ≤ 3900000000) (hdc : m.cuts.length ≤ 4000000000) (hdk : m.marks.length ≤ 4000000000) :
    Calls Tryz.prog 24 #[.pointer (some ⟨b, 0, none⟩), .int .i64 n] w fun e w' => e = .returned (.bool true) ∧
      ∃ k', Evo k k' cLaw w w' ∧ LawIs k' w' is205 b px py (nC + 4) nR (nI + 4) ∧ Clean k' w' := by
  obtain ⟨vC, vR, vI, hB, -, -, -⟩ := h.ex
  have z0 : w.cell? ⟨b, 0, none⟩ = some (.pointer (some ⟨px, 0, none⟩)) := hB.cell 0
  have z1 : w.cell? ⟨b, 1, none⟩ = some (.pointer (some ⟨py, 0, none⟩)) := hB.cell 1
  have hbl := hB.lt
  have HX := hide hx
  have HY := hide hy
  clear hx hy hB
  go_enter Tryz.func24, Tryz.ntmps24
  go_wp2_with fail
  refine (HX.out _ (Below.refl _ _)).mono ?_
  rintro e1 w1 ⟨⟨v, rfl, vc, vk, B1, rfl, hl1, hlc, mc, mk⟩, hb1⟩
  have hs1 := hb1.size
  obtain ⟨ca, cc, hcf⟩ := mc.form
  obtain ⟨ka, kc, hkf⟩ := mk.form
  simp only [List.length_map] at hcf hkf
  subst hcf hkf
  have y0 := (hb1.cell (p := ⟨b, 0, none⟩) hbl).trans z0
  have y1 := (hb1.cell (p := ⟨b, 1, none⟩) hbl).trans z1
  have hbl1 : b < w1.heap.size := by omega
  obtain ⟨wA, hwA⟩ : ∃ wA, wA = w1.alloc (Obj.cells #[.int .i64 m.kind, .int .i64 m.frm, .int .i64 m.to_, .int .i64 m.epoch, .int .i64 m.lsn, .int .i64 m.value, .int .i64 m.scl, .slice ca m.cuts.length cc, .slice ka m.marks.length kc] 109) := ⟨_, rfl⟩
  have hbA : Below w.heap.size w wA := by rw [hwA]; exact hb1.alloc hs1 _
  have oA : wA.heap[w1.heap.size]? = some (.cells #[.int .i64 m.kind, .int .i64 m.frm, .int .i64 m.to_, .int .i64 m.epoch, .int .i64 m.lsn, .int .i64 m.value, .int .i64 m.scl, .slice ca m.cuts.length cc, .slice ka m.marks.length kc] 109 (0, 0)) := by rw [hwA]; exact heap_alloc_new w1 _
  have b1A : Below w1.heap.size w1 wA := by rw [hwA]; exact (Below.refl _ _).alloc (Nat.le_refl _) _
  have hsA : wA.heap.size = w1.heap.size + 1 := by rw [hwA]; simp
  go_wp2_with fail
  rw [← hwA]
  clear hwA
  refine (HY.out _ hbA).mono ?_
  rintro e1 w2 ⟨⟨v2, rfl, yc, yk, k1, k2, c1, c2, rfl, rc, rk⟩, hb2⟩
  have hs2 := hb2.size
  obtain ⟨yca, yccp, hcf, _⟩ := rc.form
  obtain ⟨yka, ykc, hkf, _⟩ := rk.form
  simp only [List.length_map] at hcf hkf
  subst hcf hkf
  have o2 := (hb2.block w1.heap.size (by omega)).trans oA
  have bw2 : Below w.heap.size w w2 := hbA.trans (hb2.mono (by omega))
  have b12 : Below w1.heap.size w1 w2 := b1A.trans (hb2.mono (by omega))
  obtain ⟨a0, a1, a2, a3, a4, a5, a6, a7, a8⟩ := cells9 o2
  have hlt12 : w1.heap.size < w2.heap.size := by omega
  have HO2 := hide o2
  clear o2 oA
  go_wp2_with fail
  have o2 := HO2.out
  obtain ⟨wB, hwB⟩ : ∃ wB, wB = w2.alloc (Obj.cells #[.int .i64 m.kind, .int .i64 m.frm, .int .i64 m.to_, .int .i64 m.epoch, .int .i64 m.lsn, .int .i64 m.value, .int .i64 m.scl, .slice yca m.cuts.length yccp, .slice yka m.marks.length ykc] 109) := ⟨_, rfl⟩
  rw [← hwB]
  have b2B : Below w2.heap.size w2 wB := by rw [hwB]; exact (Below.refl _ _).alloc (Nat.le_refl _) _
  have pB : wB.heap[w2.heap.size]? = some (.cells #[.int .i64 m.kind, .int .i64 m.frm, .int .i64 m.to_, .int .i64 m.epoch, .int .i64 m.lsn, .int .i64 m.value, .int .i64 m.scl, .slice yca m.cuts.length yccp, .slice yka m.marks.length ykc] 109 (0, 0)) := by rw [hwB]; exact heap_alloc_new w2 _
  have hsB : wB.heap.size = w2.heap.size + 1 := by rw [hwB]; simp
  have oB := (b2B.block w1.heap.size (by omega)).trans o2
  have b1B : Below w1.heap.size w1 wB := b12.trans (b2B.mono (by omega))
  have mcB := mc.kept b1B
  have mkB := mk.kept b1B
  have rcB := rc.below b2B
  have rkB := rk.below b2B
  have xcB : Rows (fun _ => 0) wB 0 53 2 (.slice ca m.cuts.length cc) (m.cuts.map cutRow) := mcB.colour (fun _ _ => rfl)
  have xkB : Rows (fun _ => 0) wB 0 3 1 (.slice ka m.marks.length kc) (m.marks.map intRow) := mkB.colour (fun _ _ => rfl)
  have HS1 : Hid (∀ W, Below wB.heap.size wB W → Calls Tryz.prog 53 #[.slice ca m.cuts.length cc, .slice yca m.cuts.length yccp] W fun e w' => e = .returned (.bool true) ∧ Below W.heap.size W w') := hide fun W hW => sameCuts_yes (xcB.below hW) (rcB.below hW) hdc
  have HS2 : Hid (∀ W, Below wB.heap.size wB W → Calls Tryz.prog 61 #[.slice ka m.marks.length kc, .slice yka m.marks.length ykc] W fun e w' => e = .returned (.bool true) ∧ Below W.heap.size W w') := hide fun W hW => sameInts_yes (xkB.below hW) (rkB.below hW) hdk
  have HOB := hide oB
  have HPB := hide pB
  clear o2 oB pB rc rk rcB rkB xcB xkB y0 y1 HX HY
  clear hwB
  refine (HS1.out _ (Below.refl _ _)).mono ?_
  rintro e1 w3 ⟨rfl, hb3⟩
  have hs3 := hb3.size
  clear a0 a1 a2 a3 a4 a5 a6 a7 a8
  obtain ⟨a0, a1, a2, a3, a4, a5, a6, a7, a8⟩ := cells9 ((hb3.block _ (by omega)).trans HOB.out)
  obtain ⟨p0, p1, p2, p3, p4, p5, p6, p7, p8⟩ := cells9 ((hb3.block _ (by omega)).trans HPB.out)
  go_wp2_with fail
  refine (HS2.out _ hb3).mono ?_
  rintro e1 w5 ⟨rfl, hb4⟩
  have hs4 := hb4.size
  have bB5 : Below wB.heap.size wB w5 := hb3.trans (hb4.mono (by omega))
  clear a0 a1 a2 a3 a4 a5 a6 a7 a8 p0 p1 p2 p3 p4 p5 p6 p7 p8
  obtain ⟨a0, a1, a2, a3, a4, a5, a6, a7, a8⟩ := cells9 ((bB5.block _ (by omega)).trans HOB.out)
  obtain ⟨p0, p1, p2, p3, p4, p5, p6, p7, p8⟩ := cells9 ((bB5.block _ (by omega)).trans HPB.out)
  have b15 : Below w1.heap.size w1 w5 := b1B.trans (bB5.mono (by omega))
  have bw5 : Below w.heap.size w w5 := hb1.trans (b15.mono hs1)
  go_wp2_with fail
  have hAblk := (bB5.block _ (by omega)).trans HOB.out
  clear a0 a1 a2 a3 a4 a5 a6 a7 a8 p0 p1 p2 p3 p4 p5 p6 p7 p8
  obtain ⟨r204, r208⟩ := colour2_rows (k := k) (mc.kept b15) (mk.kept b15) hl1 hlc
  have ev1 := below_colour2 (k := k) rfl bw5 (.slice ca m.cuts.length cc) (.slice ka m.marks.length kc) noC
  have hA : Blk (colour2 w.heap.size k (.slice ca m.cuts.length cc) (.slice ka m.marks.length kc)) w5 0 w1.heap.size 109 [.int .i64 m.kind, .int .i64 m.frm, .int .i64 m.to_, .int .i64 m.epoch, .int .i64 m.lsn, .int .i64 m.value, .int .i64 m.scl, .slice ca m.cuts.length cc, .slice ka m.marks.length kc] := by
    refine ⟨hAblk, ?_⟩
    unfold colour2
    rw [if_neg (by omega), if_neg (fun e => by have := (mc.block _ e).2; omega), if_neg (fun e => by have := (mk.block _ e).2; omega)]
  generalize colour2 w.heap.size k (.slice ca m.cuts.length cc) (.slice ka m.marks.length kc) = K1 at *
  have hL5 := h.evo ev1 (fun c _ => noC_not c) (fun c _ _ => noC_not c)
  have hlen1 : (m.cuts.map cutRow).length ≤ 4000000000 := by simpa using hdc
  have hlen2 : (m.marks.map intRow).length ≤ 4000000000 := by simpa using hdk
  clear hAblk HOB HPB
  refine (ownCuts_any hL5 r204 (by unfold is205; omega) (by omega) (fun c hc => by unfold is205 at hc; omega) hlen1 (by omega)).mono ?_
  rintro e1 w6 ⟨rfl, k6, ev6, hL6⟩
  have hA6 := hA.evo ev6 (by omega)
  have r208' := r208.evo ev6 (by omega)
  have a8 : w6.cell? ⟨w1.heap.size, 8, none⟩ = some (.slice ka m.marks.length kc) := hA6.cell 8
  go_wp2_with fail
  refine (ownInts_any hL6 r208' (by unfold is205; omega) (by omega) (fun c hc => by unfold is205 at hc; omega) hlen2 (by omega)).mono ?_
  rintro e1 w8 ⟨rfl, k8, ev8, hL8⟩
  clear a8
  go_wp2_with fail
  go_ret
  have eA : Evo k k8 cLaw w w8 := (ev1.mono (fun _ h => h.elim)).trans ((ev6.mono (fun c h => by unfold cLaw; omega)).trans (ev8.mono (fun c h => by unfold cLaw; omega)))
  refine ⟨rfl, reco w.heap.size k8, eA.recol, ?_, hcl.recol eA⟩
  exact hL8.recol (fun c hc => by unfold is205 at hc; omega) (fun g hg => by rw [eA.col g hg]; exact hcl g hg)

set_option maxHeartbeats 2000000 in
theorem lawWriter_any {k : Nat → Nat} {w : World} {b px py nC nR nI : Nat} (n : Int) (s : WSt) (err : Int) (h : LawIs k w is205 b px py nC nR nI)
    (hx : Calls Tryz.prog 57 #[.pointer (some ⟨px, 0, none⟩), .int .i64 n] w fun e w' => e = .returned (.tuple #[s.val, .int .i64 err]) ∧ Below w.heap.size w w')
    (hy : ∀ W, Below w.heap.size w W → Calls Tryz.prog 58 #[.pointer (some ⟨py, 0, none⟩), .int .i64 n] W fun e w' => e = .returned (.tuple #[s.val, .int .i64 err]) ∧ Below W.heap.size W w') :
    Calls Tryz.prog 22 #[.pointer (some ⟨b, 0, none⟩), .int .i64 n] w fun e w' => e = .returned (.bool true) ∧ Below w.heap.size w w' := by
  obtain ⟨vC, vR, vI, hB, -, -, -⟩ := h.ex
  have z0 : w.cell? ⟨b, 0, none⟩ = some (.pointer (some ⟨px, 0, none⟩)) := hB.cell 0
  have z1 : w.cell? ⟨b, 1, none⟩ = some (.pointer (some ⟨py, 0, none⟩)) := hB.cell 1
  have hbl := hB.lt
  have HX := hide hx
  have HY := hide hy
  clear hx hy hB
  unfold WSt.val at HX HY
  go_enter Tryz.func22, Tryz.ntmps22
  go_wp2_with fail
  refine HX.out.mono ?_
  rintro e1 w1 ⟨rfl, hb1⟩
  have hs1 := hb1.size
  have y1 := (hb1.cell (p := ⟨b, 1, none⟩) hbl).trans z1
  have hbl1 : b < w1.heap.size := by omega
  go_wp2_with fail
  have hbA := hb1.alloc hs1 (Obj.cells #[.int .i64 s.phase, .int .i64 s.base, .int .i64 s.next, .int .i64 s.dur] 105)
  refine (HY.out _ hbA).mono ?_
  rintro e1 w2 ⟨rfl, hb2⟩
  have hs2 := hb2.size
  simp only [World.size_alloc] at hs2
  have hk : Blk (fun _ => 0) w2 0 w1.heap.size 105 [.int .i64 s.phase, .int .i64 s.base, .int .i64 s.next, .int .i64 s.dur] := ⟨(hb2.block w1.heap.size (by simp)).trans (heap_alloc_new w1 _), rfl⟩
  have c0 : w2.cell? ⟨w1.heap.size, 0, none⟩ = some (.int .i64 s.phase) := hk.cell 0
  have c1 : w2.cell? ⟨w1.heap.size, 1, none⟩ = some (.int .i64 s.base) := hk.cell 1
  have c2 : w2.cell? ⟨w1.heap.size, 2, none⟩ = some (.int .i64 s.next) := hk.cell 2
  have c3 : w2.cell? ⟨w1.heap.size, 3, none⟩ = some (.int .i64 s.dur) := hk.cell 3
  have hlt : w1.heap.size < w2.heap.size := by omega
  have hB2 : Below w.heap.size w w2 := hbA.trans (hb2.mono (by simp; omega))
  clear hk
  go_wp2_with fail
  go_ret
  exact ⟨rfl, hB2.alloc hB2.size _⟩

set_option maxHeartbeats 1000000 in
theorem lawFlight_any {k : Nat → Nat} {w : World} {b px py nC nR nI : Nat} (n : Int) (h : LawIs k w is205 b px py nC nR nI)
    (hx : Calls Tryz.prog 63 #[.pointer (some ⟨px, 0, none⟩)] w fun e w' => e = .returned (.int .i64 n) ∧ w' = w)
    (hy : Calls Tryz.prog 23 #[.pointer (some ⟨py, 0, none⟩)] w fun e w' => e = .returned (.int .i64 n) ∧ w' = w) :
    Calls Tryz.prog 25 #[.pointer (some ⟨b, 0, none⟩)] w fun e w' => e = .returned (.bool true) ∧ w' = w := by
  obtain ⟨vC, vR, vI, hB, -, -, -⟩ := h.ex
  have z0 : w.cell? ⟨b, 0, none⟩ = some (.pointer (some ⟨px, 0, none⟩)) := hB.cell 0
  have z1 : w.cell? ⟨b, 1, none⟩ = some (.pointer (some ⟨py, 0, none⟩)) := hB.cell 1
  have HX := hide hx
  have HY := hide hy
  clear hx hy hB
  go_enter Tryz.func25, Tryz.ntmps25
  go_wp2_with fail
  refine HX.out.mono ?_
  rintro e1 w1 ⟨rfl, hw⟩
  subst hw
  go_wp2_with fail
  refine HY.out.mono ?_
  rintro e1 w2 ⟨rfl, hw⟩
  subst hw
  go_wp2_with fail
  go_ret
  exact ⟨rfl, rfl⟩
end Go.Proofs.YtfpbkghcjaonlaaGreat
