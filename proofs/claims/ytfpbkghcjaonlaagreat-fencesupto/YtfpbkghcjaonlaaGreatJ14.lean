import Derived.Test.YtfpbkghcjaonlaaGreatJ12
import Derived.Test.YtfpbkghcjaonlaaGreatJ13
import Derived.Test.YtfpbkghcjaonlaaGreatJ08
import Derived.Test.YtfpbkghcjaonlaaGreatJ09
/-
  sixfoldref: segmentHears: MWrite, and what is not heeded.
-/
namespace Go.Proofs.YtfpbkghcjaonlaaGreat
open Go.RowKit

set_option maxRecDepth 3000 in
set_option maxHeartbeats 4000000 in
theorem sHears_none {k : Nat → Nat} {w : World} {q : Nat} {r : RVol} (s : Nat) (hs : s < 6) (h2 : s < r.segs.length) (m : Msg) (vc vm : Value) (hto : m.to_ = (s : Int)) (hc : CutsIm k w vc m.cuts) (hm : IntsIm k w vm m.marks) (hY : YVol k w q r) (hok : YOk r)
    (h7 : m.kind ≠ 7) (h8 : m.kind ≠ 8) (hlo : ¬ m.epoch < r.segs[s].epoch) (h1' : m.kind ≠ 1) (h3' : m.kind ≠ 3) (hno : ¬ (m.epoch = r.segs[s].epoch ∧ topOf r.segs[s].cuts = r.segs[s].epoch)) :
    Calls Tryz.prog 117 #[.pointer (some ⟨q, 0, none⟩), .agg #[.int .i64 m.kind, .int .i64 m.frm, .int .i64 m.to_, .int .i64 m.epoch, .int .i64 m.lsn, .int .i64 m.value, .int .i64 m.scl, vc, vm]] w fun e w' => e = .returned (.tuple #[]) ∧
      ∃ k', Evo k k' cRef w w' ∧ YVol k' w' q (r) := by
  obtain ⟨vSegs, vPens, sb, pb, g, cap, vNet, rows, hN, hS, hP, hBv, hNet, l1, y3, h1, _, hp, hst⟩ := seg_open hY s hs
  have hsk := hok.sk r.segs[s] (List.getElem_mem h2)
  obtain ⟨vE, vL, vN, sB, sE, sL, sN⟩ := hst.ex
  have HEP : Hid (∀ W, Below w.heap.size w W → Calls Tryz.prog 82 #[.pointer (some ⟨sb[s], 0, none⟩)] W fun e w' => e = .returned (.int .i64 r.segs[s].epoch) ∧ Below W.heap.size W w') := hide fun W hW =>
    have ev : Evo k k noC w W := Evo.of_below hW
    epoch_any ((sB.evo ev (noC_not _)).cell 1) (sE.evo ev (noC_not _)) hsk.e0 hsk.el
  have HLS : Hid (∀ W, Below w.heap.size w W → Calls Tryz.prog 89 #[.pointer (some ⟨sb[s], 0, none⟩)] W fun e w' => (∃ z, e = .returned z ∧ CutsIm k w z r.segs[s].cuts) ∧ Below W.heap.size W w') := hide fun W hW =>
    list_in hW (sB.cell 2) sL hsk.l0 hsk.ll
  have hgl := World.block_lt_of_cell? w _ hp
  have hql := hBv.lt
  have hs6 : (s : Int) < 6 := by omega
  obtain ⟨z0, z1, z2, hzz⟩ := Rows.shape hc
  subst hzz
  obtain ⟨y0, y1, y2, hyy⟩ := Rows.shape hm
  subst hyy
  have hcl : r.segs[s].cuts.length ≤ 1000 := cuts_le hsk
  generalize hpp : sb[s] = pp at *
  have HPP := hide hpp
  clear hpp
  generalize hold : r.segs[s].epoch = old at *
  have HOLD := hide hold
  clear hold
  generalize hcu : r.segs[s].cuts = cu at *
  have HCU := hide hcu
  clear hcu
  obtain ⟨m0, m1, m2, m3, m4, m5, m6, mc, mm⟩ := m
  dsimp only at *
  subst hto
  have k7 : (m0 == 7) = false := by simpa using h7
  have k8 : (m0 == 8) = false := by simpa using h8
  clear h7 h8
  have k1 : (m0 == 1) = false := by simpa using h1'
  have k3 : (m0 == 3) = false := by simpa using h3'
  clear h1' h3'
  by_cases he : m3 = old
  · have ht : ¬ topOf cu = m3 := fun h => hno ⟨he, by rw [h, he]⟩
    subst he
    have ht' : (topOf cu == m3) = false := by simpa using ht
    clear ht hno
    have hbA := ((Below.refl w.heap.size w).alloc (Nat.le_refl _) (Obj.cells #[.int .i64 m0, .int .i64 m1, .int .i64 (s : Int), .int .i64 m3, .int .i64 m4, .int .i64 m5, .int .i64 m6, .slice z0 z1 z2, .slice y0 y1 y2] 109))
    go_enter Tryz.func117, Tryz.ntmps117
    go_wp2_with fail
    go_quiet (fail)
    go_wp2_with fail
    refine (HEP.out _ (below_drewN hbA _)).mono ?_
    rintro e1 w1 ⟨rfl, hb1⟩
    have hs1 : w.heap.size + 1 ≤ w1.heap.size := by have := hb1.size; simpa using this
    have hr1 : w1.heap[w.heap.size]? = _ := (hb1.block w.heap.size (by simp)).trans (heap_alloc_new w _)
    have hB1 : Below w.heap.size w w1 := (below_drewN hbA _).trans (hb1.mono (by simp))
    clear hbA hb1 HEP
    go_wp2_with fail
    refine (HLS.out _ hB1).mono ?_
    rintro e2 w2 ⟨⟨zl, rfl, hzl⟩, hb2⟩
    obtain ⟨x0, x1, x2, hzz⟩ := Rows.shape hzl
    subst hzz
    have hs2 := hb2.size
    have hr2 : w2.heap[w.heap.size]? = some (.cells #[.int .i64 m0, .int .i64 m1, .int .i64 (s : Int), .int .i64 m3, .int .i64 m4, .int .i64 m5, .int .i64 m6, .slice z0 z1 z2, .slice y0 y1 y2] 109 (0, 0)) := (hb2.block w.heap.size (by omega)).trans hr1
    have hB2 : Below w.heap.size w w2 := hB1.trans (hb2.mono (by omega))
    obtain ⟨bm, hbm⟩ : ∃ bm, bm = w.heap.size := ⟨_, rfl⟩
    obtain ⟨kx, hkx⟩ : ∃ kx : Nat → Nat, kx = fun b => if b < w.heap.size then k b else 0 := ⟨_, rfl⟩
    have evx : Evo k kx noC w w2 := by rw [hkx]; exact (Evo.of_below hB2).recolour _ (fun x hx => if_pos hx)
    have hM : Blk kx w2 0 bm 109 [.int .i64 m0, .int .i64 m1, .int .i64 (s : Int), .int .i64 m3, .int .i64 m4, .int .i64 m5, .int .i64 m6, .slice z0 z1 z2, .slice y0 y1 y2] := by rw [hbm]; exact ⟨hr2, by rw [hkx]; simp⟩
    clear hb2 hB1 hr1 hr2 HLS hs1 hs2
    rw [← hbm] at *
    have HBM := hide hbm
    have HKX := hide hkx
    clear hbm hkx
    have x0' : w2.cell? ⟨bm, 0, none⟩ = some (.int .i64 m0) := hM.cell 0
    have x1' : w2.cell? ⟨bm, 1, none⟩ = some (.int .i64 m1) := hM.cell 1
    have x2' : w2.cell? ⟨bm, 2, none⟩ = some (.int .i64 (s : Int)) := hM.cell 2
    have x3' : w2.cell? ⟨bm, 3, none⟩ = some (.int .i64 m3) := hM.cell 3
    have x4' : w2.cell? ⟨bm, 4, none⟩ = some (.int .i64 m4) := hM.cell 4
    have x5' : w2.cell? ⟨bm, 5, none⟩ = some (.int .i64 m5) := hM.cell 5
    have x7' : w2.cell? ⟨bm, 7, none⟩ = some (.slice z0 z1 z2) := hM.cell 7
    have xl := hM.lt
    have hY2 : YVol kx w2 q r := hY.evo evx (noC_not _) (fun c _ _ => noC_not c)
    have hst2 := hst.evo evx (noC_not _) (noC_not _) (noC_not _) (noC_not _) (noC_not _)
    have HTOP : Hid (Calls Tryz.prog 88 #[.slice x0 x1 x2] (w2.alloc (Obj.cells #[.int .i64 m4, .int .i64 m3, .int .i64 m5] 59)) fun e w' => e = .returned (.int .i64 (topOf cu)) ∧ w' = w2.alloc (Obj.cells #[.int .i64 m4, .int .i64 m3, .int .i64 m5] 59)) := hide
      (top_any (Rows.evo hzl (Evo.of_below (C := noC) (hB2.alloc hB2.size (Obj.cells #[.int .i64 m4, .int .i64 m3, .int .i64 m5] 59))) (noC_not _)) (by omega))
    go_wp2_with fail
    refine HTOP.out.mono ?_
    rintro e3 w3 ⟨rfl, hw3⟩
    subst hw3
    go_wp2_with fail
    go_end0
    exact ⟨rfl, k, Evo.of_below (hB2.alloc hB2.size _), hY.evo (Evo.of_below (C := noC) (hB2.alloc hB2.size _)) (noC_not _) (fun c _ _ => noC_not c)⟩
  · have he' : (m3 == old) = false := by simpa using he
    clear he hno
    have hbA := ((Below.refl w.heap.size w).alloc (Nat.le_refl _) (Obj.cells #[.int .i64 m0, .int .i64 m1, .int .i64 (s : Int), .int .i64 m3, .int .i64 m4, .int .i64 m5, .int .i64 m6, .slice z0 z1 z2, .slice y0 y1 y2] 109))
    go_enter Tryz.func117, Tryz.ntmps117
    go_wp2_with fail
    go_quiet (fail)
    go_wp2_with fail
    refine (HEP.out _ (below_drewN hbA _)).mono ?_
    rintro e1 w1 ⟨rfl, hb1⟩
    have hs1 : w.heap.size + 1 ≤ w1.heap.size := by have := hb1.size; simpa using this
    have hr1 : w1.heap[w.heap.size]? = _ := (hb1.block w.heap.size (by simp)).trans (heap_alloc_new w _)
    have hB1 : Below w.heap.size w w1 := (below_drewN hbA _).trans (hb1.mono (by simp))
    clear hbA hb1 HEP
    go_wp2_with fail
    refine (HLS.out _ hB1).mono ?_
    rintro e2 w2 ⟨⟨zl, rfl, hzl⟩, hb2⟩
    obtain ⟨x0, x1, x2, hzz⟩ := Rows.shape hzl
    subst hzz
    have hs2 := hb2.size
    have hr2 : w2.heap[w.heap.size]? = some (.cells #[.int .i64 m0, .int .i64 m1, .int .i64 (s : Int), .int .i64 m3, .int .i64 m4, .int .i64 m5, .int .i64 m6, .slice z0 z1 z2, .slice y0 y1 y2] 109 (0, 0)) := (hb2.block w.heap.size (by omega)).trans hr1
    have hB2 : Below w.heap.size w w2 := hB1.trans (hb2.mono (by omega))
    obtain ⟨bm, hbm⟩ : ∃ bm, bm = w.heap.size := ⟨_, rfl⟩
    obtain ⟨kx, hkx⟩ : ∃ kx : Nat → Nat, kx = fun b => if b < w.heap.size then k b else 0 := ⟨_, rfl⟩
    have evx : Evo k kx noC w w2 := by rw [hkx]; exact (Evo.of_below hB2).recolour _ (fun x hx => if_pos hx)
    have hM : Blk kx w2 0 bm 109 [.int .i64 m0, .int .i64 m1, .int .i64 (s : Int), .int .i64 m3, .int .i64 m4, .int .i64 m5, .int .i64 m6, .slice z0 z1 z2, .slice y0 y1 y2] := by rw [hbm]; exact ⟨hr2, by rw [hkx]; simp⟩
    clear hb2 hB1 hr1 hr2 HLS hs1 hs2
    rw [← hbm] at *
    have HBM := hide hbm
    have HKX := hide hkx
    clear hbm hkx
    have x0' : w2.cell? ⟨bm, 0, none⟩ = some (.int .i64 m0) := hM.cell 0
    have x1' : w2.cell? ⟨bm, 1, none⟩ = some (.int .i64 m1) := hM.cell 1
    have x2' : w2.cell? ⟨bm, 2, none⟩ = some (.int .i64 (s : Int)) := hM.cell 2
    have x3' : w2.cell? ⟨bm, 3, none⟩ = some (.int .i64 m3) := hM.cell 3
    have x4' : w2.cell? ⟨bm, 4, none⟩ = some (.int .i64 m4) := hM.cell 4
    have x5' : w2.cell? ⟨bm, 5, none⟩ = some (.int .i64 m5) := hM.cell 5
    have x7' : w2.cell? ⟨bm, 7, none⟩ = some (.slice z0 z1 z2) := hM.cell 7
    have xl := hM.lt
    have hY2 : YVol kx w2 q r := hY.evo evx (noC_not _) (fun c _ _ => noC_not c)
    have hst2 := hst.evo evx (noC_not _) (noC_not _) (noC_not _) (noC_not _) (noC_not _)
    go_wp2_with fail
    go_end0
    exact ⟨rfl, k, Evo.of_below (hB2.alloc hB2.size _), hY.evo (Evo.of_below (C := noC) (hB2.alloc hB2.size _)) (noC_not _) (fun c _ _ => noC_not c)⟩

set_option maxRecDepth 3000 in
set_option maxHeartbeats 4000000 in
theorem sHears_write {k : Nat → Nat} {w : World} {q : Nat} {r : RVol} (s : Nat) (hs : s < 6) (h2 : s < r.segs.length) (m : Msg) (vc vm : Value) (hto : m.to_ = (s : Int)) (hc : CutsIm k w vc m.cuts) (hm : IntsIm k w vm m.marks) (hY : YVol k w q r) (hok : YOk r)
    (h7 : m.kind ≠ 7) (h8 : m.kind ≠ 8) (hlo : ¬ m.epoch < r.segs[s].epoch) (h1' : m.kind ≠ 1) (h3' : m.kind ≠ 3) (hyes : m.epoch = r.segs[s].epoch ∧ topOf r.segs[s].cuts = r.segs[s].epoch) :
    Calls Tryz.prog 117 #[.pointer (some ⟨q, 0, none⟩), .agg #[.int .i64 m.kind, .int .i64 m.frm, .int .i64 m.to_, .int .i64 m.epoch, .int .i64 m.lsn, .int .i64 m.value, .int .i64 m.scl, vc, vm]] w fun e w' => e = .returned (.tuple #[]) ∧
      ∃ k', Evo k k' cRef w w' ∧ YVol k' w' q (match keptAt r.segs[s].entries m.lsn with | some _ => r.send (statusMsg s r.segs[s]) | none => r.setSeg s (r.segs[s].coming m)) := by
  obtain ⟨vSegs, vPens, sb, pb, g, cap, vNet, rows, hN, hS, hP, hBv, hNet, l1, y3, h1, _, hp, hst⟩ := seg_open hY s hs
  have hsk := hok.sk r.segs[s] (List.getElem_mem h2)
  obtain ⟨vE, vL, vN, sB, sE, sL, sN⟩ := hst.ex
  have HEP : Hid (∀ W, Below w.heap.size w W → Calls Tryz.prog 82 #[.pointer (some ⟨sb[s], 0, none⟩)] W fun e w' => e = .returned (.int .i64 r.segs[s].epoch) ∧ Below W.heap.size W w') := hide fun W hW =>
    have ev : Evo k k noC w W := Evo.of_below hW
    epoch_any ((sB.evo ev (noC_not _)).cell 1) (sE.evo ev (noC_not _)) hsk.e0 hsk.el
  have HLS : Hid (∀ W, Below w.heap.size w W → Calls Tryz.prog 89 #[.pointer (some ⟨sb[s], 0, none⟩)] W fun e w' => (∃ z, e = .returned z ∧ CutsIm k w z r.segs[s].cuts) ∧ Below W.heap.size W w') := hide fun W hW =>
    list_in hW (sB.cell 2) sL hsk.l0 hsk.ll
  have hgl := World.block_lt_of_cell? w _ hp
  have hql := hBv.lt
  have hs6 : (s : Int) < 6 := by omega
  obtain ⟨z0, z1, z2, hzz⟩ := Rows.shape hc
  subst hzz
  obtain ⟨y0, y1, y2, hyy⟩ := Rows.shape hm
  subst hyy
  have hcl : r.segs[s].cuts.length ≤ 1000 := cuts_le hsk
  have HCM : Hid (∀ W, Below w.heap.size w W → Calls Tryz.prog 125 #[.pointer (some ⟨sb[s], 0, none⟩), .agg #[.int .i64 m.lsn, .int .i64 m.epoch, .int .i64 m.value]] W fun e w' => e = .returned (.tuple #[]) ∧
      ∃ k', Evo k k' cRef W w' ∧ YVol k' w' q (r.setSeg s (r.segs[s].coming m))) := hide fun W hW =>
    have ev : Evo k k noC w W := Evo.of_below hW
    seg_come (hN.evo ev (noC_not _) (noC_not _) (noC_not _)) (hS.evo ev (noC_not _) (noC_not _) (fun c _ _ => noC_not c)) (hP.evo ev (noC_not _) (noC_not _) (fun c _ _ => noC_not c)) s h1 h2 hsk m.lsn m.epoch m.value
  have HKP : Hid (∀ W, Below w.heap.size w W → Calls Tryz.prog 84 #[.pointer (some ⟨sb[s], 0, none⟩), .int .i64 m.lsn] W fun e w' => e = .returned (.tuple #[recVal (keptAt r.segs[s].entries m.lsn), .bool (keptAt r.segs[s].entries m.lsn).isSome]) ∧ Below W.heap.size W w') := hide fun W hW =>
    have ev : Evo k k noC w W := Evo.of_below hW
    kept_any m.lsn ((sB.evo ev (noC_not _)).cell 3) (sN.evo ev (noC_not _)) hsk.nl
  have HST : Hid (∀ W, Below w.heap.size w W → Calls Tryz.prog 90 #[.pointer (some ⟨q, 0, none⟩), .int .i64 (s : Int)] W fun e w' => e = .returned (.tuple #[]) ∧ ∃ k', Evo k k' (fun c => c = cY ∨ c = cNet) W w' ∧ YVol k' w' q (r.send (statusMsg s r.segs[s]))) := hide fun W hW =>
    refStatus_any s h2 (hY.evo (Evo.of_below (C := noC) hW) (noC_not _) (fun c _ _ => noC_not c)) hok
  obtain ⟨he, ht⟩ := hyes
  generalize hpp : sb[s] = pp at *
  have HPP := hide hpp
  clear hpp
  generalize hold : r.segs[s].epoch = old at *
  have HOLD := hide hold
  clear hold
  generalize hcu : r.segs[s].cuts = cu at *
  have HCU := hide hcu
  clear hcu
  obtain ⟨m0, m1, m2, m3, m4, m5, m6, mc, mm⟩ := m
  dsimp only at *
  subst hto
  have k7 : (m0 == 7) = false := by simpa using h7
  have k8 : (m0 == 8) = false := by simpa using h8
  clear h7 h8
  have k1 : (m0 == 1) = false := by simpa using h1'
  have k3 : (m0 == 3) = false := by simpa using h3'
  clear h1' h3'
  obtain ⟨ka, hka⟩ : ∃ ka, ka = keptAt r.segs[s].entries m4 := ⟨_, rfl⟩
  obtain ⟨rr, hrr⟩ : ∃ rr, rr = (match keptAt r.segs[s].entries m4 with | some _ => r.send (statusMsg s r.segs[s]) | none => r.setSeg s (r.segs[s].coming ⟨m0, m1, (s : Int), m3, m4, m5, m6, mc, mm⟩)) := ⟨_, rfl⟩
  rw [← hrr]
  rw [← hka] at hrr HKP
  have HRR := hide hrr
  clear hrr hka
  subst he
  have ht' : (topOf cu == m3) = true := by simpa using ht
  clear ht
  have hbA := ((Below.refl w.heap.size w).alloc (Nat.le_refl _) (Obj.cells #[.int .i64 m0, .int .i64 m1, .int .i64 (s : Int), .int .i64 m3, .int .i64 m4, .int .i64 m5, .int .i64 m6, .slice z0 z1 z2, .slice y0 y1 y2] 109))
  go_enter Tryz.func117, Tryz.ntmps117
  go_wp2_with fail
  go_quiet (fail)
  go_wp2_with fail
  refine (HEP.out _ (below_drewN hbA _)).mono ?_
  rintro e1 w1 ⟨rfl, hb1⟩
  have hs1 : w.heap.size + 1 ≤ w1.heap.size := by have := hb1.size; simpa using this
  have hr1 : w1.heap[w.heap.size]? = _ := (hb1.block w.heap.size (by simp)).trans (heap_alloc_new w _)
  have hB1 : Below w.heap.size w w1 := (below_drewN hbA _).trans (hb1.mono (by simp))
  clear hbA hb1 HEP
  go_wp2_with fail
  refine (HLS.out _ hB1).mono ?_
  rintro e2 w2 ⟨⟨zl, rfl, hzl⟩, hb2⟩
  obtain ⟨x0, x1, x2, hzz⟩ := Rows.shape hzl
  subst hzz
  have hs2 := hb2.size
  have hr2 : w2.heap[w.heap.size]? = some (.cells #[.int .i64 m0, .int .i64 m1, .int .i64 (s : Int), .int .i64 m3, .int .i64 m4, .int .i64 m5, .int .i64 m6, .slice z0 z1 z2, .slice y0 y1 y2] 109 (0, 0)) := (hb2.block w.heap.size (by omega)).trans hr1
  have hB2 : Below w.heap.size w w2 := hB1.trans (hb2.mono (by omega))
  obtain ⟨bm, hbm⟩ : ∃ bm, bm = w.heap.size := ⟨_, rfl⟩
  obtain ⟨kx, hkx⟩ : ∃ kx : Nat → Nat, kx = fun b => if b < w.heap.size then k b else 0 := ⟨_, rfl⟩
  have evx : Evo k kx noC w w2 := by rw [hkx]; exact (Evo.of_below hB2).recolour _ (fun x hx => if_pos hx)
  have hM : Blk kx w2 0 bm 109 [.int .i64 m0, .int .i64 m1, .int .i64 (s : Int), .int .i64 m3, .int .i64 m4, .int .i64 m5, .int .i64 m6, .slice z0 z1 z2, .slice y0 y1 y2] := by rw [hbm]; exact ⟨hr2, by rw [hkx]; simp⟩
  clear hb2 hB1 hr1 hr2 HLS hs1 hs2
  rw [← hbm] at *
  have HBM := hide hbm
  have HKX := hide hkx
  clear hbm hkx
  have x0' : w2.cell? ⟨bm, 0, none⟩ = some (.int .i64 m0) := hM.cell 0
  have x1' : w2.cell? ⟨bm, 1, none⟩ = some (.int .i64 m1) := hM.cell 1
  have x2' : w2.cell? ⟨bm, 2, none⟩ = some (.int .i64 (s : Int)) := hM.cell 2
  have x3' : w2.cell? ⟨bm, 3, none⟩ = some (.int .i64 m3) := hM.cell 3
  have x4' : w2.cell? ⟨bm, 4, none⟩ = some (.int .i64 m4) := hM.cell 4
  have x5' : w2.cell? ⟨bm, 5, none⟩ = some (.int .i64 m5) := hM.cell 5
  have x7' : w2.cell? ⟨bm, 7, none⟩ = some (.slice z0 z1 z2) := hM.cell 7
  have xl := hM.lt
  have hY2 : YVol kx w2 q r := hY.evo evx (noC_not _) (fun c _ _ => noC_not c)
  have hst2 := hst.evo evx (noC_not _) (noC_not _) (noC_not _) (noC_not _) (noC_not _)
  have HTOP : Hid (Calls Tryz.prog 88 #[.slice x0 x1 x2] (w2.alloc (Obj.cells #[.int .i64 m4, .int .i64 m3, .int .i64 m5] 59)) fun e w' => e = .returned (.int .i64 (topOf cu)) ∧ w' = w2.alloc (Obj.cells #[.int .i64 m4, .int .i64 m3, .int .i64 m5] 59)) := hide
    (top_any (Rows.evo hzl (Evo.of_below (C := noC) (hB2.alloc hB2.size (Obj.cells #[.int .i64 m4, .int .i64 m3, .int .i64 m5] 59))) (noC_not _)) (by omega))
  go_wp2_with fail
  refine HTOP.out.mono ?_
  rintro e3 w3 ⟨rfl, hw3⟩
  subst hw3
  have hM3 := hM.evo (Evo.of_below (C := noC) ((Below.refl w2.heap.size w2).alloc (Nat.le_refl _) (Obj.cells #[.int .i64 m4, .int .i64 m3, .int .i64 m5] 59))) (noC_not _)
  go_wp2_with fail
  refine (HKP.out _ (hB2.alloc hB2.size _)).mono ?_
  rintro e4 w4 ⟨rfl, hb4⟩
  have hs4 := hb4.size
  have hB4 : Below w.heap.size w w4 := (hB2.alloc hB2.size _).trans (hb4.mono (by have := hB2.size; simp; omega))
  have hM4 := hM3.evo (Evo.of_below (C := noC) hb4) (noC_not _)
  have v2 : w4.cell? ⟨bm, 2, none⟩ = some (.int .i64 (s : Int)) := hM4.cell 2
  have vl := hM4.lt
  have hr4 : w4.heap[w2.heap.size]? = some (.cells #[.int .i64 m4, .int .i64 m3, .int .i64 m5] 59 (0, 0)) := (hb4.block w2.heap.size (by simp)).trans (heap_alloc_new w2 _)
  have r0 : w4.cell? ⟨w2.heap.size, 0, none⟩ = some (.int .i64 m4) := by rw [cell_of_row _ _ 0 _ _ _ hr4]; rfl
  have r1 : w4.cell? ⟨w2.heap.size, 1, none⟩ = some (.int .i64 m3) := by rw [cell_of_row _ _ 1 _ _ _ hr4]; rfl
  have r2 : w4.cell? ⟨w2.heap.size, 2, none⟩ = some (.int .i64 m5) := by rw [cell_of_row _ _ 2 _ _ _ hr4]; rfl
  have rl : w2.heap.size < w4.heap.size := by simp at hs4; omega
  clear hr4 hs4 hb4 hM3 hM4
  cases ka with
  | none =>
    simp only [recVal, Option.isSome]
    go_wp2_with fail
    refine (HCM.out _ (hB4.alloc hB4.size _)).mono ?_
    rintro e5 w5 ⟨rfl, k5, ev5, hY5⟩
    go_wp2_with fail
    go_end0
    exact ⟨rfl, k5, (Evo.of_below (hB4.alloc hB4.size _)).trans ev5, by rw [HRR.out]; exact hY5⟩
  | some x =>
    simp only [recVal, Option.isSome]
    go_wp2_with fail
    refine (HST.out _ (hB4.alloc hB4.size _)).mono ?_
    rintro e5 w5 ⟨rfl, k5, ev5, hY5⟩
    go_wp2_with fail
    go_end0
    exact ⟨rfl, k5, (Evo.of_below (hB4.alloc hB4.size _)).trans (ev5.mono (fun c h => cRef_of h)), by rw [HRR.out]; exact hY5⟩

end Go.Proofs.YtfpbkghcjaonlaaGreat

/-
  sixfoldref: segmentHears whole; Deliver.
-/
namespace Go.Proofs.YtfpbkghcjaonlaaGreat
open Go.RowKit

theorem refSegmentHears_any {k : Nat → Nat} {w : World} {q : Nat} {r : RVol} (m : Msg) (vc vm : Value) (h0 : 0 ≤ m.to_) (h5 : m.to_ < 6) (hc : CutsIm k w vc m.cuts) (hm : IntsIm k w vm m.marks) (hY : YVol k w q r) (hok : YOk r) (hmk : MsgOk m)
    (hsz : ∀ g ∈ r.segs, g.epochs.length ≤ 3000000000 ∧ g.lists.length ≤ 3000000000) :
    Calls Tryz.prog 117 #[.pointer (some ⟨q, 0, none⟩), .agg #[.int .i64 m.kind, .int .i64 m.frm, .int .i64 m.to_, .int .i64 m.epoch, .int .i64 m.lsn, .int .i64 m.value, .int .i64 m.scl, vc, vm]] w fun e w' => e = .returned (.tuple #[]) ∧
      ∃ k', Evo k k' cRef w w' ∧ YVol k' w' q (r.sHears m) := by
  obtain ⟨s, hts⟩ := Int.eq_ofNat_of_zero_le h0
  have hs : s < 6 := by omega
  have hl2 : r.segs.length = 6 := by obtain ⟨_, _, _, _, _, hS, _⟩ := hY.ex; exact hS.l2
  have h2 : s < r.segs.length := by omega
  have e1 : m.to_.toNat = s := by omega
  have hz := hsz r.segs[s] (List.getElem_mem h2)
  unfold RVol.sHears
  rw [e1, List.getElem?_eq_getElem h2]
  dsimp only
  by_cases h7 : m.kind = 7
  · rw [if_pos h7]
    exact sHears_need s hs h2 m vc vm hts hc hm hY hok h7
  rw [if_neg h7]
  by_cases h8 : m.kind = 8
  · rw [if_pos h8]
    exact sHears_fill s hs h2 m vc vm hts hc hm hY hok h8
  rw [if_neg h8]
  by_cases hlo : m.epoch < r.segs[s].epoch
  · rw [if_pos hlo]
    exact sHears_refused s hs h2 m vc vm hts hc hm hY hok h7 h8 hlo
  rw [if_neg hlo]
  by_cases h1 : m.kind = 1
  · rw [if_pos h1]
    exact sHears_fence s hs h2 m vc vm hts hc hm hY hok h1 hlo
  rw [if_neg h1]
  by_cases h3 : m.kind = 3
  · rw [if_pos h3]
    exact sHears_cut s hs h2 m vc vm hts hc hm hY hok h3 hlo hmk hz.1 hz.2
  rw [if_neg h3]
  by_cases hy : m.epoch = r.segs[s].epoch ∧ topOf r.segs[s].cuts = r.segs[s].epoch
  · rw [if_pos hy]
    exact sHears_write s hs h2 m vc vm hts hc hm hY hok h7 h8 hlo h1 h3 hy
  · rw [if_neg hy]
    exact sHears_none s hs h2 m vc vm hts hc hm hY hok h7 h8 hlo h1 h3 hy

/-- The message goes where it may go. -/
def MsgTo (pens : Nat) (m : Msg) : Prop := if m.kind = 2 ∨ m.kind = 4 ∨ m.kind = 5 then 1 ≤ m.to_ ∧ m.to_ ≤ (pens : Int) else 0 ≤ m.to_ ∧ m.to_ < 6
def RVol.goneV (r : RVol) (i : Nat) : RVol := { r with net := goneAt r.net i }
def RVol.arrives (r : RVol) (m : Msg) : RVol :=
  if m.kind = 2 ∨ m.kind = 4 ∨ m.kind = 5 then r.wHears m
  else match r.segs[m.to_.toNat]? with | some g => if g.up then r.sHears m else r | none => r
def RVol.deliver (r : RVol) (x : Int) : RVol × Int := match placeE r.net x with
  | none => (r, 12)
  | some i => match r.net[i]? with
    | none => (r, 12)
    | some p => ((r.goneV i).arrives p.1, 0)

theorem goneAt_len (net : List (Msg × Bool)) (i : Nat) : (goneAt net i).length = net.length := by unfold goneAt; split <;> simp
theorem goneAt_mem {net : List (Msg × Bool)} {i : Nat} {p : Msg × Bool} (h : p ∈ goneAt net i) : ∃ p' ∈ net, p'.1 = p.1 := by
  unfold goneAt at h
  split at h
  · rename_i p0 hp0
    rcases List.mem_or_eq_of_mem_set h with h | rfl
    · exact ⟨p, h, rfl⟩
    · exact ⟨p0, List.mem_of_getElem? hp0, rfl⟩
  · exact ⟨p, h, rfl⟩
theorem YOk.gone {r : RVol} (h : YOk r) (i : Nat) : YOk (r.goneV i) :=
  ⟨by unfold RVol.goneV; rw [goneAt_len]; exact h.nl, fun p hp => by obtain ⟨p', h1, h2⟩ := goneAt_mem hp; rw [← h2]; exact h.nk p' h1, h.sk, h.pk⟩

set_option maxRecDepth 3000 in
set_option maxHeartbeats 4000000 in
theorem refDeliver_in {k : Nat → Nat} {w : World} {q : Nat} {r : RVol} (x : Int) (hx : x ≤ 9223372036854775807) (i : Nat) (hi : i < r.net.length) (hp : placeE r.net x = some i) (hY : YVol k w q r) (hok : YOk r) (hnl : r.net.length ≤ 3000000000)
    (hto : MsgTo r.pens.length r.net[i].1) (hsz : ∀ g ∈ r.segs, g.epochs.length ≤ 3000000000 ∧ g.lists.length ≤ 3000000000) :
    Calls Tryz.prog 96 #[.pointer (some ⟨q, 0, none⟩), .int .i64 x] w fun e w' => e = .returned (.int .i64 0) ∧ ∃ k', Evo k k' cRef w w' ∧ YVol k' w' q ((r.goneV i).arrives r.net[i].1) := by
  obtain ⟨vSegs, vPens, sb, pb, ⟨vNet, rows, hB, hN⟩, hS, hP⟩ := hY.ex
  have hcall := place_any x hx hB hN hok.nl
  obtain ⟨e1, _⟩ := placeI_some hp
  rw [e1] at hcall
  obtain ⟨a, cap, hv, hg⟩ := net_msg hN
  obtain ⟨b, vc, vm, rfl, hkb, p0, p1, p2, p3, p4, p5, p6, p7, p8, p9, hfr, hcc, hmm⟩ := hg i hi
  subst hv
  have y2 : w.cell? ⟨q, 2, none⟩ = _ := hB.cell 2
  simp only [List.getElem?_cons_zero, List.getElem?_cons_succ] at y2
  have hf9 := hfr (i * 10 + 9)
  have hln := hok.nl
  have hmk := hok.nk r.net[i] (List.getElem_mem hi)
  obtain ⟨rows', hN'⟩ := hN.gone i hi hkb
  have ev : Evo k k (fun c => c = cNet) w (w.setCell ⟨b, i * 10 + 9, none⟩ (.bool true)) := (Evo.refl _ _ _).setCell _ _ (fun _ => hkb)
  have hY' : YVol k (w.setCell ⟨b, i * 10 + 9, none⟩ (.bool true)) q (r.goneV i) := YVol.with_net (r := r) hS hP ev ⟨_, rows', hB.evo ev (by decide), hN'⟩ (fun c h => .inr h)
  have hok' := hok.gone i
  have hcc' := hcc.evo ev (by decide)
  have hmm' := hmm.evo ev (by decide)
  have hql := hB.lt
  have hbl : b < w.heap.size := World.block_lt_of_cell? w _ p0
  have hoff : ∀ j, j < 9 → ∀ v, w.cell? ⟨b, i * 10 + j, none⟩ = some v → (w.setCell ⟨b, i * 10 + 9, none⟩ (.bool true)).cell? ⟨b, i * 10 + j, none⟩ = some v := fun j hj v hv => by
    exact (World.cell?_setCell_other w ⟨b, i * 10 + 9, none⟩ ⟨b, i * 10 + j, none⟩ _ (by simp <;> omega)).trans hv
  have s0 := hoff 0 (by omega) _ p0
  have s1 := hoff 1 (by omega) _ p1
  have s2 := hoff 2 (by omega) _ p2
  have s3 := hoff 3 (by omega) _ p3
  have s4 := hoff 4 (by omega) _ p4
  have s5 := hoff 5 (by omega) _ p5
  have s6 := hoff 6 (by omega) _ p6
  have s7 := hoff 7 (by omega) _ p7
  have s8 := hoff 8 (by omega) _ p8
  simp only [Nat.add_zero] at s0
  have hpl : (r.goneV i).pens = r.pens := rfl
  have hsl : (r.goneV i).segs = r.segs := rfl
  have hnl' : (r.goneV i).net.length ≤ 3000000000 := by unfold RVol.goneV; rw [goneAt_len]; exact hnl
  have yq : (w.setCell ⟨b, i * 10 + 9, none⟩ (.bool true)).cell? ⟨q, 2, none⟩ = some (.slice (some ⟨b, 0, none⟩) r.net.length cap) := by
    have hB1 := hB.evo ev (by decide)
    exact hB1.cell 2
  have HC := hide hcall
  clear hcall hp hg e1 hfr p0 p1 p2 p3 p4 p5 p6 p7 p8 hN' hN hcc hmm hoff
  generalize hm : r.net[i].1 = m at *
  clear hm
  obtain ⟨z0, z1, z2, hz⟩ := Rows.shape hcc'
  subst hz
  obtain ⟨u0, u1, u2, hz⟩ := Rows.shape hmm'
  subst hz
  generalize r.goneV i = r1 at *
  rw [← hpl] at hto
  rw [← hsl] at hsz
  have HPL := hide hpl
  have HSL := hide hsl
  clear hpl hsl
  go_enter Tryz.func96, Tryz.ntmps96
  go_wp2_with fail
  refine HC.out.mono ?_
  rintro e1 w1 ⟨rfl, hw⟩
  have hw2 := hw.symm
  subst hw2
  go_upto_region 5 with (fail)
  have hbl1 : b < (w.setCell ⟨b, i * 10 + 9, none⟩ (.bool true)).heap.size := by simpa using hbl
  have hql1 : q < (w.setCell ⟨b, i * 10 + 9, none⟩ (.bool true)).heap.size := by simpa using hql
  have evR : Evo k k cRef w (w.setCell ⟨b, i * 10 + 9, none⟩ (.bool true)) := ev.mono (fun c h => by subst h; exact ⟨by decide, by decide⟩)
  generalize hW1 : w.setCell ⟨b, i * 10 + 9, none⟩ (.bool true) = W1 at *
  have HW1 := hide hW1
  clear hW1 y2 hf9 p9
  by_cases hk : m.kind = 2 ∨ m.kind = 4 ∨ m.kind = 5
  · have HA : Hid (r1.arrives m = r1.wHears m) := hide (by unfold RVol.arrives; rw [if_pos hk])
    unfold MsgTo at hto
    rw [if_pos hk] at hto
    have HWH : Hid (∀ W, Below W1.heap.size W1 W → Calls Tryz.prog 116 #[.pointer (some ⟨q, 0, none⟩), .agg #[.int .i64 m.kind, .int .i64 m.frm, .int .i64 m.to_, .int .i64 m.epoch, .int .i64 m.lsn, .int .i64 m.value, .int .i64 m.scl, .slice z0 z1 z2, .slice u0 u1 u2]] W fun e w' => e = .returned (.tuple #[]) ∧ ∃ k', Evo k k' cRef w w' ∧ YVol k' w' q (r1.wHears m)) := hide fun W hW => by
      have e0 : Evo k k noC W1 W := Evo.of_below hW
      refine (refWriterHears_any m _ _ hto.1 hto.2 (hcc'.evo e0 (noC_not _)) (hmm'.evo e0 (noC_not _)) (hY'.evo e0 (noC_not _) (fun c _ _ => noC_not c)) hok' hnl' hmk).mono ?_
      rintro e w' ⟨rfl, k', ev', hy⟩
      exact ⟨rfl, k', (evR.trans (e0.mono (fun _ h => h.elim))).trans ev', hy⟩
    have hk' : (m.kind = 2) ∨ ((m.kind == 2) = false ∧ m.kind = 4) ∨ ((m.kind == 2) = false ∧ (m.kind == 4) = false ∧ m.kind = 5) := by
      rcases hk with h | h | h
      · exact .inl h
      · exact .inr (.inl ⟨by simp [h], h⟩)
      · exact .inr (.inr ⟨by simp [h], by simp [h], h⟩)
    clear hk hto evR hY' hok' hcc' hmm' hY hB hS hP ev
    generalize r1.wHears m = rr at *
    obtain ⟨m0, m1, m2, m3, m4, m5, m6, mc, mm⟩ := m
    dsimp only at *
    rcases hk' with rfl | ⟨d2, rfl⟩ | ⟨d2, d4, rfl⟩
    all_goals
      go_wp2_with fail
      refine (HWH.out _ ((Below.refl _ _).alloc (Nat.le_refl _) _)).mono ?_
      rintro e2 w2 ⟨rfl, HY2⟩
      go_wp2_with fail
      go_ret
      exact ⟨rfl, by rw [HA.out]; exact HY2⟩
  · have hto2 := hto
    unfold MsgTo at hto2
    rw [if_neg hk] at hto2
    have d2 : (m.kind == 2) = false := by simp; exact fun h => hk (.inl h)
    have d4 : (m.kind == 4) = false := by simp; exact fun h => hk (.inr (.inl h))
    have d5 : (m.kind == 5) = false := by simp; exact fun h => hk (.inr (.inr h))
    obtain ⟨t, ht⟩ := Int.eq_ofNat_of_zero_le hto2.1
    have ht6 : t < 6 := by omega
    obtain ⟨_, _, sb2, _, g, cap2, _, _, _, hS2, _, _, _, l1, y3, g1, g2, hp, hst⟩ := seg_open hY' t ht6
    obtain ⟨vE, vL, vN, sB, _, _, _⟩ := hst.ex
    have c0 : W1.cell? ⟨sb2[t], 0, none⟩ = some (.bool r1.segs[t].up) := sB.cell 0
    have sbl := sB.lt
    have hgl := World.block_lt_of_cell? W1 _ hp
    have ht6i : (t : Int) < 6 := by omega
    have HSH : Hid (∀ W, Below W1.heap.size W1 W → Calls Tryz.prog 117 #[.pointer (some ⟨q, 0, none⟩), .agg #[.int .i64 m.kind, .int .i64 m.frm, .int .i64 m.to_, .int .i64 m.epoch, .int .i64 m.lsn, .int .i64 m.value, .int .i64 m.scl, .slice z0 z1 z2, .slice u0 u1 u2]] W fun e w' => e = .returned (.tuple #[]) ∧ ∃ k', Evo k k' cRef w w' ∧ YVol k' w' q (r1.sHears m)) := hide fun W hW => by
      have e0 : Evo k k noC W1 W := Evo.of_below hW
      refine (refSegmentHears_any m _ _ hto2.1 hto2.2 (hcc'.evo e0 (noC_not _)) (hmm'.evo e0 (noC_not _)) (hY'.evo e0 (noC_not _) (fun c _ _ => noC_not c)) hok' hmk hsz).mono ?_
      rintro e w' ⟨rfl, k', ev', hy⟩
      exact ⟨rfl, k', (evR.trans (e0.mono (fun _ h => h.elim))).trans ev', hy⟩
    have HA : Hid (r1.arrives m = if r1.segs[t].up then r1.sHears m else r1) := hide (by
      unfold RVol.arrives; rw [if_neg hk, ht, Int.toNat_natCast, List.getElem?_eq_getElem g2])
    have HY1 := hide hY'
    generalize sb2[t] = sp at *
    generalize r1.segs[t].up = up at *
    generalize r1.sHears m = rs at *
    clear hk hto hto2 hY' hok' hcc' hmm' hY hB hS hP ev hst sB hS2 hmk
    obtain ⟨m0, m1, m2, m3, m4, m5, m6, mc, mm⟩ := m
    dsimp only at *
    subst ht
    cases up
    · go_wp2_with fail
      go_quiet (fail)
      go_wp2_with fail
      go_ret
      have hb9 := below_drewN ((Below.refl W1.heap.size W1).alloc (Nat.le_refl _) (Obj.cells #[.int .i64 m0, .int .i64 m1, .int .i64 (t : Int), .int .i64 m3, .int .i64 m4, .int .i64 m5, .int .i64 m6, .slice z0 z1 z2, .slice u0 u1 u2] 109)) nq
      exact ⟨rfl, k, evR.trans (Evo.of_below hb9), by rw [HA.out, if_neg (by simp)]; exact HY1.out.evo (Evo.of_below (C := noC) hb9) (noC_not _) (fun c _ _ => noC_not c)⟩
    · go_wp2_with fail
      go_quiet (fail)
      go_wp2_with fail
      refine (HSH.out _ (below_drewN ((Below.refl _ _).alloc (Nat.le_refl _) _) _)).mono ?_
      rintro e2 w2 ⟨rfl, HY2⟩
      go_wp2_with fail
      go_ret
      exact ⟨rfl, by rw [HA.out, if_pos (by simp)]; exact HY2⟩

theorem refDeliver_any {k : Nat → Nat} {w : World} {q : Nat} {r : RVol} (x : Int) (hx : x ≤ 9223372036854775807) (hY : YVol k w q r) (hok : YOk r) (hnl : r.net.length ≤ 3000000000)
    (hto : ∀ p ∈ r.net, p.2 = false → MsgTo r.pens.length p.1) (hsz : ∀ g ∈ r.segs, g.epochs.length ≤ 3000000000 ∧ g.lists.length ≤ 3000000000) :
    Calls Tryz.prog 96 #[.pointer (some ⟨q, 0, none⟩), .int .i64 x] w fun e w' => e = .returned (.int .i64 (r.deliver x).2) ∧ ∃ k', Evo k k' cRef w w' ∧ YVol k' w' q (r.deliver x).1 := by
  cases hp : placeE r.net x with
  | none =>
    have HE : Hid (r.deliver x = (r, 12)) := hide (by unfold RVol.deliver; rw [hp])
    obtain ⟨vSegs, vPens, sb, pb, ⟨vNet, rows, hB, hN⟩, hS, hP⟩ := hY.ex
    have hcall := place_any x hx hB hN hok.nl
    rw [placeI_none hp] at hcall
    have HC := hide hcall
    clear hcall hp
    go_enter Tryz.func96, Tryz.ntmps96
    go_wp2_with fail
    refine HC.out.mono ?_
    rintro e1 w1 ⟨rfl, hw⟩
    subst hw
    go_wp2_with fail
    go_ret
    exact ⟨by rw [HE.out]; rfl, k, Evo.refl _ _ _, by rw [HE.out]; exact hY⟩
  | some i =>
    obtain ⟨_, hi⟩ := placeI_some hp
    have HE : r.deliver x = ((r.goneV i).arrives r.net[i].1, 0) := by unfold RVol.deliver; rw [hp]; simp only; rw [List.getElem?_eq_getElem hi]
    rw [HE]
    have hg : r.net[i].2 = false := by
      unfold placeE at hp
      split at hp
      · simp at hp
      · exact (placeOf_lt _ _ _ hp).2
    exact refDeliver_in x hx i hi hp hY hok hnl (hto _ (List.getElem_mem hi) hg) hsz
end Go.Proofs.YtfpbkghcjaonlaaGreat

/-
  The program as a machine without memory.
-/
namespace Go.Proofs.YtfpbkghcjaonlaaGreat
open Go.RowKit

structure XWr where
  number : Int
  phase : Int
  base : Int
  next : Int
  dur : Int
  notes : List (Int × List (Int × Int) × List Int)
  cuts : List (Int × Int)
  values : List Int
  heard : List Bool
  noted : List Int

structure XVol where
  wi : Int
  room : Int
  msgs : List Msg
  segs : List XSeg
  wrs : List XWr

def xwr0 (n : Int) : XWr := ⟨n, 1, 0, 0, 0, [], [], [], List.replicate 6 false, List.replicate 6 0⟩
def XWr.hasNote (x : XWr) (s : Int) : Bool := x.notes.any (fun n => n.1 == s)
def XWr.write (x : XWr) (s lsn : Int) : Option Msg :=
  if lsn - x.base - 1 < 0 then none
  else if (x.values.length : Int) ≤ lsn - x.base - 1 then none
  else some ⟨6, x.number, s, x.number, lsn, x.values.getD (lsn - x.base - 1).toNat 0, 0, [], []⟩
def XWr.dueTo (x : XWr) (s : Nat) : Option Msg :=
  if x.phase = 1 then (if x.hasNote s then none else some ⟨1, x.number, s, x.number, 0, 0, 0, [], []⟩)
  else if x.phase = 2 ∨ x.phase = 3 then
    (if x.heard.getD s false then x.write s (x.noted.getD s 0 + 1) else some ⟨3, x.number, s, x.number, 0, 0, 0, x.cuts, []⟩)
  else none
def XWr.due (x : XWr) : List Msg := (List.range 6).filterMap x.dueTo
def XWr.writes (x : XWr) (lsn : Int) : List Msg := (List.range 6).filterMap fun (s : Nat) => x.write s lsn

/-- How far the records of these epochs go. -/
def reachFrom (l : List (Int × Int)) : Nat → List Int → Nat
  | i, [] => i
  | i, e :: es => if good l ((i : Int) + 1) e then reachFrom l (i + 1) es else i
def newestStep (l : List (Int × Int)) (n : Int × List (Int × Int) × List Int) : List (Int × Int) := if topOf l < topOf n.2.1 then n.2.1 else l
def newestOf (ns : List (Int × List (Int × Int) × List Int)) : List (Int × Int) := ns.foldl newestStep []
def baseStep (l : List (Int × Int)) (b : Nat) (n : Int × List (Int × Int) × List Int) : Nat := if b < reachFrom l 0 n.2.2 then reachFrom l 0 n.2.2 else b
def XWr.decides (x : XWr) : XWr :=
  let l := newestOf x.notes
  let b := x.notes.foldl (baseStep l) 0
  { x with cuts := l ++ [(x.number, (b : Int))], base := b, next := b, phase := 2, notes := [] }
def XWr.hearFenced (x : XWr) (m : Msg) : XWr × List Msg :=
  if x.phase ≠ 1 ∨ x.hasNote m.frm = true then (x, [])
  else
    let y := { x with notes := x.notes ++ [(m.frm, m.cuts, m.marks)] }
    if y.notes.length < 4 then (y, []) else (y.decides, y.decides.due)
def XWr.readyN (x : XWr) : Nat := ((List.range 6).filter fun s => x.heard.getD s false && decide (x.base ≤ x.noted.getD s 0)).length
def XWr.reaching (x : XWr) (n : Int) : Nat := (x.noted.filter fun m => decide (n ≤ m)).length
def agreedStep (x : XWr) (b n : Int) : Int := if b < n ∧ 4 ≤ x.reaching n then n else b
def XWr.agreed (x : XWr) : Int := x.noted.foldl (agreedStep x) 0
def XWr.noteS (x : XWr) (m : Msg) : XWr := { x with heard := x.heard.set m.frm.toNat true, noted := if x.noted.getD m.frm.toNat 0 < m.scl then x.noted.set m.frm.toNat m.scl else x.noted }
def XWr.opens (x : XWr) : XWr := if x.phase = 2 ∧ 4 ≤ x.readyN then { x with phase := 3 } else x
def XWr.durs (x : XWr) : XWr := if x.phase = 3 then { x with dur := x.agreed } else x
def XWr.hearStatus (x : XWr) (m : Msg) : XWr := if x.phase = 2 ∨ x.phase = 3 then (x.noteS m).opens.durs else x
def XWr.stop (x : XWr) : XWr := { x with phase := 4, notes := [], cuts := [], values := [] }
def XWr.arrive (x : XWr) (m : Msg) : XWr × List Msg :=
  if m.frm < 0 ∨ 6 ≤ m.frm then (x, [])
  else if m.kind = 2 then x.hearFenced m
  else if m.kind = 4 then (x.hearStatus m, [])
  else if m.kind = 5 then (x.stop, [])
  else (x, [])
def XWr.append (x : XWr) (v wi : Int) : XWr × Int × Int :=
  if x.phase = 4 then (x, 0, 4) else if x.phase ≠ 3 then (x, 0, 5) else if 40 ≤ x.next then (x, 0, 7)
  else if x.dur + wi ≤ x.next then (x, 0, 6) else ({ x with values := x.values ++ [v], next := x.next + 1 }, x.next + 1, 0)

def xmarks (l : List (Int × Int × Int)) : List Int := (l.takeWhile fun p => p.1 == 2).map (·.2.1)
def XSeg.status (s : XSeg) (n wr : Int) : Msg := ⟨4, n, wr, wr, 0, 0, xscl s, [], []⟩
def XSeg.refusal (s : XSeg) (m : Msg) : Msg := ⟨5, m.to_, m.frm, s.epoch, 0, 0, 0, [], []⟩
def XSeg.fence (s : XSeg) (m : Msg) : XSeg × Msg :=
  if m.epoch < s.epoch then (s, s.refusal m)
  else ({ s with epoch := m.epoch }, ⟨2, m.to_, m.frm, m.epoch, 0, 0, 0, s.cuts, xmarks s.places⟩)
def forgetAt (l : List (Int × Int)) (i : Nat) (p : Int × Int × Int) : Int × Int × Int := if good l ((i : Int) + 1) p.2.1 then p else (0, 0, 0)
def XSeg.forget (s : XSeg) : XSeg := { s with places := s.places.mapIdx (forgetAt s.cuts) }
def XSeg.cut (s : XSeg) (m : Msg) : XSeg × Msg :=
  if m.epoch < s.epoch then (s, s.refusal m)
  else
    let t := if topOf s.cuts ≠ m.epoch then XSeg.forget { s with epoch := m.epoch, cuts := m.cuts } else { s with epoch := m.epoch }
    (t, t.status m.to_ m.frm)
def XSeg.at_ (s : XSeg) (lsn : Int) : Int × Int × Int := if lsn < 1 ∨ 40 < lsn then (0, 0, 0) else s.places.getD (lsn - 1).toNat (0, 0, 0)
def XSeg.take (s : XSeg) (m : Msg) : XSeg :=
  if m.lsn < 1 ∨ 40 < m.lsn then s
  else if (s.places.getD (m.lsn - 1).toNat (0, 0, 0)).1 = 0 then { s with places := s.places.set (m.lsn - 1).toNat (1, m.epoch, m.value) }
  else s
def XSeg.write (s : XSeg) (m : Msg) : XSeg × Option Msg :=
  if m.epoch < s.epoch then (s, some (s.refusal m))
  else if m.epoch ≠ s.epoch ∨ m.epoch ≠ topOf s.cuts then (s, none)
  else if (s.at_ m.lsn).1 = 2 then (s, some (s.status m.to_ m.frm))
  else (s.take m, none)
def XSeg.give (s : XSeg) (m : Msg) : Option Msg :=
  if (s.at_ m.lsn).1 = 2 then some ⟨8, m.to_, m.frm, (s.at_ m.lsn).2.1, m.lsn, (s.at_ m.lsn).2.2, 0, [], []⟩ else none
def XSeg.fill (s : XSeg) (m : Msg) : XSeg := if good s.cuts m.lsn m.epoch then s.take m else s
def XSeg.arrive (s : XSeg) (m : Msg) : XSeg × Option Msg :=
  if s.up = false then (s, none)
  else if m.kind = 1 then ((s.fence m).1, some (s.fence m).2)
  else if m.kind = 3 then ((s.cut m).1, some (s.cut m).2)
  else if m.kind = 6 then s.write m
  else if m.kind = 7 then (s, s.give m)
  else if m.kind = 8 then (s.fill m, none)
  else (s, none)
def crashAt (p : Int × Int × Int) : Int × Int × Int := if p.1 = 1 then (0, 0, 0) else p
def XSeg.crash (s : XSeg) : XSeg := { s with up := false, places := s.places.map crashAt }
def XSeg.restart (s : XSeg) : XSeg := { s with up := true }
def XSeg.value (s : XSeg) (lsn : Int) : Int := if (s.at_ lsn).1 = 2 then (s.at_ lsn).2.2 else 0
def XSeg.need (s : XSeg) (a b : Int) : Msg := ⟨7, a, b, 0, (xscl s : Int) + 1, 0, 0, [], []⟩
def syncAt (p : Int × Int × Int) : Int × Int × Int := if p.1 = 1 then (2, p.2) else p
def XSeg.synced (s : XSeg) : XSeg := { s with places := s.places.map syncAt }
def XSeg.sync (s : XSeg) (n : Int) : XSeg × Option Msg :=
  let t := s.synced
  if t.epoch = 0 ∨ t.epoch ≠ topOf t.cuts then (t, none) else (t, some (t.status n t.epoch))

def XVol.send (x : XVol) (m : Msg) : XVol := if x.room ≤ (x.msgs.length : Int) then x else { x with msgs := x.msgs ++ [m] }
def XVol.sendAll (x : XVol) (l : List Msg) : XVol := l.foldl XVol.send x
def XVol.sendO (x : XVol) (o : Option Msg) : XVol := match o with | some m => x.send m | none => x
def XVol.look (x : XVol) (k : Int) : Option Msg := if k < 0 then none else x.msgs[k.toNat]?
def XVol.taken (x : XVol) (k : Int) : XVol := { x with msgs := x.msgs.eraseIdx k.toNat }
def XVol.setSeg (x : XVol) (i : Nat) (s : XSeg) : XVol := { x with segs := x.segs.set i s }
def XVol.setWr (x : XVol) (i : Nat) (p : XWr) : XVol := { x with wrs := x.wrs.set i p }
def isSegB (s : Int) : Bool := decide (0 ≤ s) && decide (s < 6)
def XVol.isWr (x : XVol) (n : Int) : Bool := decide (1 ≤ n) && decide (n ≤ (x.wrs.length : Int))
def XVol.atSeg (x : XVol) (m : Msg) : XVol := if m.to_ < 0 then x else match x.segs[m.to_.toNat]? with
  | none => x
  | some s => (x.setSeg m.to_.toNat (s.arrive m).1).sendO (s.arrive m).2
def XVol.atWr (x : XVol) (m : Msg) : XVol := if m.to_ < 1 then x else match x.wrs[m.to_.toNat - 1]? with
  | none => x
  | some p => (x.setWr (m.to_.toNat - 1) (p.arrive m).1).sendAll (p.arrive m).2
def XVol.deliver (x : XVol) (k : Int) : XVol × Int := match x.look k with
  | none => (x, 12)
  | some m => (if m.kind = 2 ∨ m.kind = 4 ∨ m.kind = 5 then (x.taken k).atWr m else (x.taken k).atSeg m, 0)
def XVol.drop (x : XVol) (k : Int) : XVol × Int := match x.look k with | none => (x, 12) | some _ => (x.taken k, 0)
def XVol.copy (x : XVol) (k : Int) : XVol × Int := match x.look k with | none => (x, 12) | some m => (x.send m, 0)
def XVol.open_ (x : XVol) : XVol × Int × Int :=
  if 9 ≤ x.wrs.length then (x, 0, 2)
  else (XVol.sendAll { x with wrs := x.wrs ++ [xwr0 ((x.wrs.length : Int) + 1)] } (xwr0 ((x.wrs.length : Int) + 1)).due, (x.wrs.length : Int) + 1, 0)
def XVol.wrAt (x : XVol) (n : Int) : Option XWr := if n < 1 then none else x.wrs[n.toNat - 1]?
def XVol.resend (x : XVol) (n : Int) : XVol × Int := match x.wrAt n with
  | none => (x, 3)
  | some p => if p.phase = 4 then (x, 4) else (x.sendAll p.due, 0)
def XVol.append (x : XVol) (n v : Int) : XVol × Int × Int := match x.wrAt n with
  | none => (x, 0, 3)
  | some p => if (p.append v x.wi).2.2 ≠ 0 then (x, 0, (p.append v x.wi).2.2)
    else ((x.setWr (n.toNat - 1) (p.append v x.wi).1).sendAll ((p.append v x.wi).1.writes (p.append v x.wi).2.1), (p.append v x.wi).2.1, 0)
def XVol.sync (x : XVol) (s : Int) : XVol × Int := if s < 0 then (x, 11) else match x.segs[s.toNat]? with
  | none => (x, 11)
  | some g => if g.up then ((x.setSeg s.toNat (g.sync s).1).sendO (g.sync s).2, 0) else (x, 9)
def XVol.segAt (x : XVol) (s : Int) : Option XSeg := if s < 0 then none else x.segs[s.toNat]?
def XVol.gossip (x : XVol) (a b : Int) : XVol × Int := if b < 0 ∨ 6 ≤ b ∨ a = b then (x, 11) else match x.segAt a with
  | none => (x, 11)
  | some g => if g.up then (x.send (g.need a b), 0) else (x, 9)
def XVol.crash (x : XVol) (s : Int) : XVol × Int := match x.segAt s with
  | none => (x, 11)
  | some g => if g.up then (x.setSeg s.toNat g.crash, 0) else (x, 9)
def XVol.restart (x : XVol) (s : Int) : XVol × Int := match x.segAt s with
  | none => (x, 11)
  | some g => if g.up then (x, 10) else (x.setSeg s.toNat g.restart, 0)
def XWr.readable (p : XWr) (lsn : Int) : Int := if p.phase = 4 then 4 else if p.phase ≠ 3 then 5 else if lsn < 1 ∨ p.dur < lsn then 8 else 0
/-- The first segment that goes so far, by what is noted, and is up. -/
def XVol.asked (x : XVol) (p : XWr) (lsn : Int) : Option Nat := (List.range 6).find? fun s => decide (lsn ≤ p.noted.getD s 0) && ((x.segs[s]?).elim false (·.up))
def XVol.read (x : XVol) (n lsn : Int) : XVol × Int × Int := match x.wrAt n with
  | none => (x, 0, 3)
  | some p => if p.readable lsn ≠ 0 then (x, 0, p.readable lsn) else match x.asked p lsn with
    | none => (x, 0, 9)
    | some s => match x.segs[s]? with
      | none => (x, 0, 9)
      | some g => if n < g.epoch then (x.setWr (n.toNat - 1) p.stop, 0, 4) else (x, g.value lsn, 0)
end Go.Proofs.YtfpbkghcjaonlaaGreat
