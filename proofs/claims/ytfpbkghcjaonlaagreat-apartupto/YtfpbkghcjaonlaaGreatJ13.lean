import Derived.Test.YtfpbkghcjaonlaaGreatJ12
import Derived.Test.YtfpbkghcjaonlaaGreatJ11
/-
  sixfoldref: segmentHears: MFence.
-/
namespace Go.Proofs.YtfpbkghcjaonlaaGreat
open Go.RowKit

theorem Made.shape {w : World} {B e size : Nat} {v : Value} {rows : List (List Value)} (h : Made w B e size v rows) : ∃ a n cap, v = .slice a n cap := let ⟨a, c, h⟩ := h.form; ⟨a, _, c, h⟩

set_option maxRecDepth 3000 in
set_option maxHeartbeats 4000000 in
theorem sHears_fence {k : Nat → Nat} {w : World} {q : Nat} {r : RVol} (s : Nat) (hs : s < 6) (h2 : s < r.segs.length) (m : Msg) (vc vm : Value) (hto : m.to_ = (s : Int)) (hc : CutsIm k w vc m.cuts) (hm : IntsIm k w vm m.marks) (hY : YVol k w q r) (hok : YOk r)
    (hk : m.kind = 1) (hlo : ¬ m.epoch < r.segs[s].epoch) :
    Calls Tryz.prog 117 #[.pointer (some ⟨q, 0, none⟩), .agg #[.int .i64 m.kind, .int .i64 m.frm, .int .i64 m.to_, .int .i64 m.epoch, .int .i64 m.lsn, .int .i64 m.value, .int .i64 m.scl, vc, vm]] w fun e w' => e = .returned (.tuple #[]) ∧
      ∃ k', Evo k k' cRef w w' ∧ YVol k' w' q ((r.setSeg s (r.segs[s].epochUp m.epoch)).send (fencedMsg m r.segs[s])) := by
  obtain ⟨vSegs, vPens, sb, pb, g, cap, vNet, rows, hN, hS, hP, hBv, hNet, l1, y3, h1, _, hp, hst⟩ := seg_open hY s hs
  have hsk := hok.sk r.segs[s] (List.getElem_mem h2)
  obtain ⟨vE, vL, vN, sB, sE, sL, sN⟩ := hst.ex
  obtain ⟨ea, ecap, hve, _⟩ := Rows.form sE
  rw [List.length_map] at hve
  subst hve
  have HEP : Hid (∀ W, Below w.heap.size w W → Calls Tryz.prog 82 #[.pointer (some ⟨sb[s], 0, none⟩)] W fun e w' => e = .returned (.int .i64 r.segs[s].epoch) ∧ Below W.heap.size W w') := hide fun W hW =>
    have ev : Evo k k noC w W := Evo.of_below hW
    epoch_any ((sB.evo ev (noC_not _)).cell 1) (sE.evo ev (noC_not _)) hsk.e0 hsk.el
  have HLS : Hid (∀ W, Below w.heap.size w W → Calls Tryz.prog 89 #[.pointer (some ⟨sb[s], 0, none⟩)] W fun e w' => (∃ z, e = .returned z ∧ CutsIm k w z r.segs[s].cuts) ∧ Below W.heap.size W w') := hide fun W hW =>
    list_in hW (sB.cell 2) sL hsk.l0 hsk.ll
  have hgl := World.block_lt_of_cell? w _ hp
  have hql := hBv.lt
  have hs6 : (s : Int) < 6 := by omega
  obtain ⟨z0, z1, z2, hzz⟩ := Rows.shape hc
  subst hzz
  obtain ⟨y0, y1, y2, hyy⟩ := Rows.shape hm
  subst hyy
  have hel := hsk.el
  generalize hpp : sb[s] = pp at *
  have HPP := hide hpp
  clear hpp
  generalize hold : r.segs[s].epoch = old at *
  have HOLD := hide hold
  clear hold
  generalize hcu : r.segs[s].cuts = cu at *
  have HCU := hide hcu
  clear hcu
  obtain ⟨m0, m1, m2, m3, m4, m5, m6, mc, mm⟩ := m
  dsimp only at *
  subst hto
  subst hk
  have hbA := ((Below.refl w.heap.size w).alloc (Nat.le_refl _) (Obj.cells #[.int .i64 1, .int .i64 m1, .int .i64 (s : Int), .int .i64 m3, .int .i64 m4, .int .i64 m5, .int .i64 m6, .slice z0 z1 z2, .slice y0 y1 y2] 109))
  go_enter Tryz.func117, Tryz.ntmps117
  go_wp2_with fail
  go_quiet (fail)
  go_wp2_with fail
  refine (HEP.out _ (below_drewN hbA _)).mono ?_
  rintro e1 w1 ⟨rfl, hb1⟩
  have hs1 : w.heap.size + 1 ≤ w1.heap.size := by have := hb1.size; simpa using this
  have hr1 : w1.heap[w.heap.size]? = _ := (hb1.block w.heap.size (by simp)).trans (heap_alloc_new w _)
  have hB1 : Below w.heap.size w w1 := (below_drewN hbA _).trans (hb1.mono (by simp))
  clear hbA hb1 HEP
  go_wp2_with fail
  refine (HLS.out _ hB1).mono ?_
  rintro e2 w2 ⟨⟨zl, rfl, hzl⟩, hb2⟩
  obtain ⟨x0, x1, x2, hzz⟩ := Rows.shape hzl
  subst hzz
  have hs2 := hb2.size
  have hr2 : w2.heap[w.heap.size]? = some (.cells #[.int .i64 1, .int .i64 m1, .int .i64 (s : Int), .int .i64 m3, .int .i64 m4, .int .i64 m5, .int .i64 m6, .slice z0 z1 z2, .slice y0 y1 y2] 109 (0, 0)) := (hb2.block w.heap.size (by omega)).trans hr1
  have hB2 : Below w.heap.size w w2 := hB1.trans (hb2.mono (by omega))
  obtain ⟨bm, hbm⟩ : ∃ bm, bm = w.heap.size := ⟨_, rfl⟩
  obtain ⟨kx, hkx⟩ : ∃ kx : Nat → Nat, kx = fun b => if b < w.heap.size then k b else 0 := ⟨_, rfl⟩
  have evx : Evo k kx noC w w2 := by rw [hkx]; exact (Evo.of_below hB2).recolour _ (fun x hx => if_pos hx)
  have hM : Blk kx w2 0 bm 109 [.int .i64 1, .int .i64 m1, .int .i64 (s : Int), .int .i64 m3, .int .i64 m4, .int .i64 m5, .int .i64 m6, .slice z0 z1 z2, .slice y0 y1 y2] := by rw [hbm]; exact ⟨hr2, by rw [hkx]; simp⟩
  clear hb2 hB1 hr1 hr2 HLS hs1 hs2
  rw [← hbm] at *
  have HBM := hide hbm
  have HKX := hide hkx
  clear hbm hkx
  have x0' : w2.cell? ⟨bm, 0, none⟩ = some (.int .i64 1) := hM.cell 0
  have x1' : w2.cell? ⟨bm, 1, none⟩ = some (.int .i64 m1) := hM.cell 1
  have x2' : w2.cell? ⟨bm, 2, none⟩ = some (.int .i64 (s : Int)) := hM.cell 2
  have x3' : w2.cell? ⟨bm, 3, none⟩ = some (.int .i64 m3) := hM.cell 3
  have x4' : w2.cell? ⟨bm, 4, none⟩ = some (.int .i64 m4) := hM.cell 4
  have x5' : w2.cell? ⟨bm, 5, none⟩ = some (.int .i64 m5) := hM.cell 5
  have x7' : w2.cell? ⟨bm, 7, none⟩ = some (.slice z0 z1 z2) := hM.cell 7
  have xl := hM.lt
  have hY2 : YVol kx w2 q r := hY.evo evx (noC_not _) (fun c _ _ => noC_not c)
  have hst2 := hst.evo evx (noC_not _) (noC_not _) (noC_not _) (noC_not _) (noC_not _)
  go_wp2_with fail
  obtain ⟨W0, hW0⟩ : ∃ W0, W0 = w2.alloc (Obj.cells #[.int .i64 m4, .int .i64 m3, .int .i64 m5] 59) := ⟨_, rfl⟩
  rw [← hW0]
  have evw : Evo kx kx noC w2 W0 := by rw [hW0]; exact (Evo.refl _ _ _).alloc _
  have HW0 := hide hW0
  clear hW0 x0' x1' x2' x3' x4' x5' x7' xl
  have hM0 := hM.evo evw (noC_not _)
  have x3 : W0.cell? ⟨bm, 3, none⟩ = some (.int .i64 m3) := hM0.cell 3
  have xl := hM0.lt
  obtain ⟨kE, hkE⟩ : ∃ kE, kE = cS s + 1 := ⟨_, rfl⟩
  have sB2 := (sB.evo evx (noC_not _)).evo evw (noC_not _)
  have sE2 := (sE.evo evx (noC_not _)).evo evw (noC_not _)
  have pB : Blk kx (W0.alloc (Obj.cells #[.int .i64 m3] 3)).drew (cS s) pp 89 [.bool r.segs[s].up, .slice ea r.segs[s].epochs.length ecap, vL, vN] := sB2.evo (((Evo.refl kx noC W0).alloc _).drew) (noC_not _)
  have hR := sE2.evo (((Evo.refl kx noC W0).alloc (Obj.cells #[.int .i64 m3] 3)).drew) (noC_not _)
  have q1 : W0.cell? ⟨pp, 1, none⟩ = some (.slice ea r.segs[s].epochs.length ecap) := sB2.cell 1
  have pl := sB2.lt
  have hlen : (r.segs[s].epochs.map intRow).length = r.segs[s].epochs.length := List.length_map _
  have HLEN := hide hlen
  clear hlen
  have hnews : ∀ x u, ([intRow m3] : List (List Value)).flatten[x]? = some u → (W0.alloc (Obj.cells #[.int .i64 m3] 3)).drew.cell? ((⟨W0.heap.size, 0, none⟩ : Addr).add x) = some u := fun x u hx => by
    rw [Addr.add_lit, Nat.zero_add]
    show World.cell? (W0.alloc _) _ = _
    rw [cell_of_row _ W0.heap.size x _ _ _ (heap_alloc_new W0 _)]
    simpa [intRow] using hx
  clear hM sB2 sE2
  go_cut [] (fun wc => Hid (∃ k2, Evo k k2 (fun c => c = cS s ∨ c = cS s + 1) w wc ∧ StoreIs k2 wc (cS s) pp (r.segs[s].epochUp m3) ∧ Blk k2 wc 0 bm 109 [.int .i64 1, .int .i64 m1, .int .i64 (s : Int), .int .i64 m3, .int .i64 m4, .int .i64 m5, .int .i64 m6, .slice z0 z1 z2, .slice y0 y1 y2]))
  case first =>
    go_region_law
      (refine step_append_rows kx (cS s + 1) (.tmp 92) (.tmp 95) 61 3 _ 1 8 _ (r.segs[s].epochs.map intRow) [intRow m3] r.segs[s].epochs.length ⟨W0.heap.size, 0, none⟩ 1 1 HLEN.out rfl rfl Tryz.underlying61 Tryz.infoInt rfl (by decide) rfl rfl hR rfl (by simp [intRow]) hnews (by simp [intRow, Value.oneCell']) (by simp only [maxLen]; omega) (by omega) ?_; intro ao1 cap1 w5 k5 hR5 hE5; have y2' : w5.cell? ⟨pp, 1, none⟩ = _ := (pB.evo hE5 (by omega)).cell 1; simp only [List.getElem?_cons_zero, List.getElem?_cons_succ] at y2'; have yf' : w5.frozen? ⟨pp, 1, none⟩ = false := (pB.evo hE5 (by omega)).free 1; have yl' := (pB.evo hE5 (by omega)).lt)
    all_goals go_wp2_with fail
    all_goals go_meet
    all_goals
      obtain ⟨f1, f2, f3⟩ := push_fin (Evo.refl _ noC _) pB (by omega) hR5 hE5 1
      have eA : Evo kx k5 (fun c => c = cS s ∨ c = cS s + 1) W0 _ := (((Evo.refl kx (fun c => c = cS s ∨ c = cS s + 1) W0).alloc (Obj.cells #[.int .i64 m3] 3)).drew).trans f1
      have him : ¬ (IM = cS s ∨ IM = cS s + 1) := by unfold cS IM; omega
      have eB := ((evx.trans evw).mono (D := fun c => c = cS s ∨ c = cS s + 1) (fun _ h => h.elim)).trans eA
      refine hide ⟨k5, eB, ⟨_, _, _, f2, ?_, sL.evo eB (by omega) him, sN.evo eB (by omega)⟩, hM0.evo eA (by unfold cS; omega)⟩
      simpa [RSeg.epochUp] using f3
  case rest =>
    clear hR pB hnews x3 xl pl q1 hM0 evw HW0
    obtain ⟨k2, ev2, hst3, hM2⟩ := hcut.out
    obtain ⟨vE3, vL3, vN3, tB, tE, tL, tN⟩ := hst3.ex
    have hY3 : YVol k2 wc q (r.setSeg s (r.segs[s].epochUp m3)) := YVol.set_seg hN hS hP s h1 ev2 (fun c h => by omega) (by rw [HPP.out]; exact hst3)
    have hzl3 : CutsIm k2 wc (.slice x0 x1 x2) cu := hzl.evo ev2 (by unfold cS IM; omega)
    have HMK : Hid (∀ W, Below wc.heap.size wc W → Calls Tryz.prog 126 #[.pointer (some ⟨pp, 0, none⟩)] W fun e w' => (∃ z, e = .returned z ∧ Made w' W.heap.size 3 1 z ((marksOf r.segs[s].entries).map intRow)) ∧ Below W.heap.size W w') := hide fun W hW =>
      have ev : Evo k2 k2 noC wc W := Evo.of_below hW
      marks_any ((tB.evo ev (noC_not _)).cell 3) (tN.evo ev (noC_not _)) hsk.nl
    have HCX : Hid (∀ W, Below wc.heap.size wc W → W.cell? ⟨bm, 1, none⟩ = some (.int .i64 m1) ∧ W.cell? ⟨bm, 2, none⟩ = some (.int .i64 (s : Int)) ∧ W.cell? ⟨bm, 3, none⟩ = some (.int .i64 m3) ∧ bm < W.heap.size) := hide fun W hW =>
      have h := hM2.evo (Evo.of_below (C := noC) hW) (noC_not _)
      ⟨h.cell 1, h.cell 2, h.cell 3, h.lt⟩
    have HSD : Hid (∀ (W0 W : World) z, W0.heap.size = wc.heap.size → Below wc.heap.size wc W → Made W W0.heap.size 3 1 z ((marksOf r.segs[s].entries).map intRow) → Calls Tryz.prog 67 #[.pointer (some ⟨q, 0, none⟩), .agg #[.int .i64 2, .int .i64 (s : Int), .int .i64 m1, .int .i64 m3, .int .i64 0, .int .i64 0, .int .i64 0, .slice x0 x1 x2, z]] W fun e w' => e = .returned (.tuple #[]) ∧
        (∃ k', Evo k k' cRef w w' ∧ YVol k' w' q ((r.setSeg s (r.segs[s].epochUp m3)).send (fencedMsg ⟨1, m1, (s : Int), m3, m4, m5, m6, mc, mm⟩ r.segs[s]))) ∧ w'.cell? ⟨bm, 1, none⟩ = some (.int .i64 m1) ∧ w'.cell? ⟨bm, 2, none⟩ = some (.int .i64 (s : Int)) ∧ w'.cell? ⟨bm, 3, none⟩ = some (.int .i64 m3) ∧ bm < w'.heap.size) := hide fun W0 W z hsz hW hz => by
      rw [hsz] at hz
      have ev : Evo k2 (fun b => if b < wc.heap.size then k2 b else IM) noC wc W := (Evo.of_below hW).recolour _ (fun x hx => if_pos hx)
      refine (refSend_any (fencedMsg ⟨1, m1, (s : Int), m3, m4, m5, m6, mc, mm⟩ r.segs[s]) (hY3.evo ev (noC_not _) (fun c _ _ => noC_not c)) hok.nl (by rw [show (fencedMsg ⟨1, m1, (s : Int), m3, m4, m5, m6, mc, mm⟩ r.segs[s]).cuts = cu from HCU.out]; exact hzl3.evo ev (noC_not _)) (Made.coloured IM hz)).mono ?_
      rintro e w' ⟨rfl, k', ev', hY'⟩
      have hM9 := (hM2.evo ev (noC_not _)).evo ev' (by decide)
      exact ⟨rfl, ⟨k', ((ev2.mono (fun c h => by unfold cS at h; unfold cRef; omega)).trans (ev.mono (fun _ h => h.elim))).trans (ev'.mono (fun c h => cRef_of h)), hY'⟩, hM9.cell 1, hM9.cell 2, hM9.cell 3, hM9.lt⟩
    obtain ⟨c1, c2, c3, cl⟩ := HCX.out wc (Below.refl _ _)
    clear hst3 tB tE tL tN hY3 hzl3 hM2 hcut hN hS hP hst sB sE sL sN hY2 hst2 hzl
    go_wp2_with fail
    go_region_held3 (fun W => W.cell? ⟨bm, 1, none⟩ = some (.int .i64 m1) ∧ W.cell? ⟨bm, 2, none⟩ = some (.int .i64 (s : Int)) ∧ W.cell? ⟨bm, 3, none⟩ = some (.int .i64 m3) ∧ bm < W.heap.size) (first | exact HCX.out _ (Below.drew (Below.refl _ _)) | exact HSx | exact HSy)
      (first | (go_at_call 126; refine (HMK.out _ (Below.drew (Below.refl _ _))).mono ?_; rintro e3 w3 ⟨⟨zm, rfl, hzm⟩, hb3⟩; obtain ⟨sm0, sm1, sm2, hsm⟩ := Made.shape hzm; subst hsm; have hb3x : Below wc.heap.size wc w3 := (Below.drew (Below.refl _ _)).trans hb3; have HSx := HCX.out w3 hb3x) | (go_at_call 67; refine (HSD.out wc.drew _ _ rfl hb3x hzm).mono ?_; rintro e4 w4 ⟨rfl, HY4, HSy⟩))
    all_goals go_wp2_with fail
    all_goals go_end0
    all_goals (obtain ⟨k4, ev4, hY4⟩ := HY4; exact ⟨rfl, k4, ev4, hY4⟩)

end Go.Proofs.YtfpbkghcjaonlaaGreat

/-
  sixfoldref: segmentHears: MCut.
-/
namespace Go.Proofs.YtfpbkghcjaonlaaGreat
open Go.RowKit

theorem Tryz.infoCutsSl : (Tryz.prog.info? 49).map (fun i => (i.zero, i.size, i.bytes)) = some (some (.slice none 0 0), 1, 24) := by kernel_rfl

set_option maxRecDepth 3000 in
set_option maxHeartbeats 4000000 in
theorem sHears_cut {k : Nat → Nat} {w : World} {q : Nat} {r : RVol} (s : Nat) (hs : s < 6) (h2 : s < r.segs.length) (m : Msg) (vc vm : Value) (hto : m.to_ = (s : Int)) (hc : CutsIm k w vc m.cuts) (hm : IntsIm k w vm m.marks) (hY : YVol k w q r) (hok : YOk r)
    (hk : m.kind = 3) (hlo : ¬ m.epoch < r.segs[s].epoch) (hmk : MsgOk m) (hel3 : r.segs[s].epochs.length ≤ 3000000000) (hll3 : r.segs[s].lists.length ≤ 3000000000) :
    Calls Tryz.prog 117 #[.pointer (some ⟨q, 0, none⟩), .agg #[.int .i64 m.kind, .int .i64 m.frm, .int .i64 m.to_, .int .i64 m.epoch, .int .i64 m.lsn, .int .i64 m.value, .int .i64 m.scl, vc, vm]] w fun e w' => e = .returned (.tuple #[]) ∧
      ∃ k', Evo k k' cRef w w' ∧ YVol k' w' q ((r.setSeg s (r.segs[s].afterCut m)).send (statusMsg s (r.segs[s].afterCut m))) := by
  obtain ⟨vSegs, vPens, sb, pb, g, cap, vNet, rows, hN, hS, hP, hBv, hNet, l1, y3, h1, _, hp, hst⟩ := seg_open hY s hs
  have hsk := hok.sk r.segs[s] (List.getElem_mem h2)
  obtain ⟨vE, vL, vN, sB, sE, sL, sN⟩ := hst.ex
  obtain ⟨ea, ecap, hve, _⟩ := Rows.form sE
  rw [List.length_map] at hve
  subst hve
  have HEP : Hid (∀ W, Below w.heap.size w W → Calls Tryz.prog 82 #[.pointer (some ⟨sb[s], 0, none⟩)] W fun e w' => e = .returned (.int .i64 r.segs[s].epoch) ∧ Below W.heap.size W w') := hide fun W hW =>
    have ev : Evo k k noC w W := Evo.of_below hW
    epoch_any ((sB.evo ev (noC_not _)).cell 1) (sE.evo ev (noC_not _)) hsk.e0 hsk.el
  have HLS : Hid (∀ W, Below w.heap.size w W → Calls Tryz.prog 89 #[.pointer (some ⟨sb[s], 0, none⟩)] W fun e w' => (∃ z, e = .returned z ∧ CutsIm k w z r.segs[s].cuts) ∧ Below W.heap.size W w') := hide fun W hW =>
    list_in hW (sB.cell 2) sL hsk.l0 hsk.ll
  have hgl := World.block_lt_of_cell? w _ hp
  have hql := hBv.lt
  have hs6 : (s : Int) < 6 := by omega
  obtain ⟨z0, z1, z2, hzz⟩ := Rows.shape hc
  subst hzz
  obtain ⟨y0, y1, y2, hyy⟩ := Rows.shape hm
  subst hyy
  have hel := hsk.el
  have hcl : r.segs[s].cuts.length ≤ 1000 := cuts_le hsk
  have hmc := hmk.1
  generalize hpp : sb[s] = pp at *
  have HPP := hide hpp
  clear hpp
  generalize hold : r.segs[s].epoch = old at *
  have HOLD := hide hold
  clear hold
  generalize hcu : r.segs[s].cuts = cu at *
  have HCU := hide hcu
  clear hcu
  obtain ⟨m0, m1, m2, m3, m4, m5, m6, mc, mm⟩ := m
  dsimp only at *
  subst hto
  subst hk
  obtain ⟨rr, hrr⟩ : ∃ rr, rr = (r.setSeg s (r.segs[s].afterCut ⟨3, m1, (s : Int), m3, m4, m5, m6, mc, mm⟩)).send (statusMsg s (r.segs[s].afterCut ⟨3, m1, (s : Int), m3, m4, m5, m6, mc, mm⟩)) := ⟨_, rfl⟩
  rw [← hrr]
  have HRR := hide hrr
  clear hrr hmk
  have hbA := ((Below.refl w.heap.size w).alloc (Nat.le_refl _) (Obj.cells #[.int .i64 3, .int .i64 m1, .int .i64 (s : Int), .int .i64 m3, .int .i64 m4, .int .i64 m5, .int .i64 m6, .slice z0 z1 z2, .slice y0 y1 y2] 109))
  go_enter Tryz.func117, Tryz.ntmps117
  go_wp2_with fail
  go_quiet (fail)
  go_wp2_with fail
  refine (HEP.out _ (below_drewN hbA _)).mono ?_
  rintro e1 w1 ⟨rfl, hb1⟩
  have hs1 : w.heap.size + 1 ≤ w1.heap.size := by have := hb1.size; simpa using this
  have hr1 : w1.heap[w.heap.size]? = _ := (hb1.block w.heap.size (by simp)).trans (heap_alloc_new w _)
  have hB1 : Below w.heap.size w w1 := (below_drewN hbA _).trans (hb1.mono (by simp))
  clear hbA hb1 HEP
  go_wp2_with fail
  refine (HLS.out _ hB1).mono ?_
  rintro e2 w2 ⟨⟨zl, rfl, hzl⟩, hb2⟩
  obtain ⟨x0, x1, x2, hzz⟩ := Rows.shape hzl
  subst hzz
  have hs2 := hb2.size
  have hr2 : w2.heap[w.heap.size]? = some (.cells #[.int .i64 3, .int .i64 m1, .int .i64 (s : Int), .int .i64 m3, .int .i64 m4, .int .i64 m5, .int .i64 m6, .slice z0 z1 z2, .slice y0 y1 y2] 109 (0, 0)) := (hb2.block w.heap.size (by omega)).trans hr1
  have hB2 : Below w.heap.size w w2 := hB1.trans (hb2.mono (by omega))
  obtain ⟨bm, hbm⟩ : ∃ bm, bm = w.heap.size := ⟨_, rfl⟩
  obtain ⟨kx, hkx⟩ : ∃ kx : Nat → Nat, kx = fun b => if b < w.heap.size then k b else 0 := ⟨_, rfl⟩
  have evx : Evo k kx noC w w2 := by rw [hkx]; exact (Evo.of_below hB2).recolour _ (fun x hx => if_pos hx)
  have hM : Blk kx w2 0 bm 109 [.int .i64 3, .int .i64 m1, .int .i64 (s : Int), .int .i64 m3, .int .i64 m4, .int .i64 m5, .int .i64 m6, .slice z0 z1 z2, .slice y0 y1 y2] := by rw [hbm]; exact ⟨hr2, by rw [hkx]; simp⟩
  clear hb2 hB1 hr1 hr2 HLS hs1 hs2
  rw [← hbm] at *
  have HBM := hide hbm
  have HKX := hide hkx
  clear hbm hkx
  have x0' : w2.cell? ⟨bm, 0, none⟩ = some (.int .i64 3) := hM.cell 0
  have x1' : w2.cell? ⟨bm, 1, none⟩ = some (.int .i64 m1) := hM.cell 1
  have x2' : w2.cell? ⟨bm, 2, none⟩ = some (.int .i64 (s : Int)) := hM.cell 2
  have x3' : w2.cell? ⟨bm, 3, none⟩ = some (.int .i64 m3) := hM.cell 3
  have x4' : w2.cell? ⟨bm, 4, none⟩ = some (.int .i64 m4) := hM.cell 4
  have x5' : w2.cell? ⟨bm, 5, none⟩ = some (.int .i64 m5) := hM.cell 5
  have x7' : w2.cell? ⟨bm, 7, none⟩ = some (.slice z0 z1 z2) := hM.cell 7
  have xl := hM.lt
  have hY2 : YVol kx w2 q r := hY.evo evx (noC_not _) (fun c _ _ => noC_not c)
  have hst2 := hst.evo evx (noC_not _) (noC_not _) (noC_not _) (noC_not _) (noC_not _)
  go_wp2_with fail
  obtain ⟨W0, hW0⟩ : ∃ W0, W0 = w2.alloc (Obj.cells #[.int .i64 m4, .int .i64 m3, .int .i64 m5] 59) := ⟨_, rfl⟩
  rw [← hW0]
  have evw : Evo kx kx noC w2 W0 := by rw [hW0]; exact (Evo.refl _ _ _).alloc _
  have HW0 := hide hW0
  clear hW0 x0' x1' x2' x3' x4' x5' x7' xl
  have hM0 := hM.evo evw (noC_not _)
  have x3 : W0.cell? ⟨bm, 3, none⟩ = some (.int .i64 m3) := hM0.cell 3
  have xl := hM0.lt
  obtain ⟨kE, hkE⟩ : ∃ kE, kE = cS s + 1 := ⟨_, rfl⟩
  have sB2 := (sB.evo evx (noC_not _)).evo evw (noC_not _)
  have sE2 := (sE.evo evx (noC_not _)).evo evw (noC_not _)
  have pB : Blk kx (W0.alloc (Obj.cells #[.int .i64 m3] 3)).drew (cS s) pp 89 [.bool r.segs[s].up, .slice ea r.segs[s].epochs.length ecap, vL, vN] := sB2.evo (((Evo.refl kx noC W0).alloc _).drew) (noC_not _)
  have hR := sE2.evo (((Evo.refl kx noC W0).alloc (Obj.cells #[.int .i64 m3] 3)).drew) (noC_not _)
  have q1 : W0.cell? ⟨pp, 1, none⟩ = some (.slice ea r.segs[s].epochs.length ecap) := sB2.cell 1
  have pl := sB2.lt
  have hlen : (r.segs[s].epochs.map intRow).length = r.segs[s].epochs.length := List.length_map _
  have HLEN := hide hlen
  clear hlen
  have hnews : ∀ x u, ([intRow m3] : List (List Value)).flatten[x]? = some u → (W0.alloc (Obj.cells #[.int .i64 m3] 3)).drew.cell? ((⟨W0.heap.size, 0, none⟩ : Addr).add x) = some u := fun x u hx => by
    rw [Addr.add_lit, Nat.zero_add]
    show World.cell? (W0.alloc _) _ = _
    rw [cell_of_row _ W0.heap.size x _ _ _ (heap_alloc_new W0 _)]
    simpa [intRow] using hx
  clear hM sB2 sE2
  go_cut [] (fun wc => Hid (∃ k2, Evo k k2 (fun c => c = cS s ∨ c = cS s + 1) w wc ∧ StoreIs k2 wc (cS s) pp (r.segs[s].epochUp m3) ∧ Blk k2 wc 0 bm 109 [.int .i64 3, .int .i64 m1, .int .i64 (s : Int), .int .i64 m3, .int .i64 m4, .int .i64 m5, .int .i64 m6, .slice z0 z1 z2, .slice y0 y1 y2]))
  case first =>
    go_region_law
      (refine step_append_rows kx (cS s + 1) (.tmp 119) (.tmp 122) 61 3 _ 1 8 _ (r.segs[s].epochs.map intRow) [intRow m3] r.segs[s].epochs.length ⟨W0.heap.size, 0, none⟩ 1 1 HLEN.out rfl rfl Tryz.underlying61 Tryz.infoInt rfl (by decide) rfl rfl hR rfl (by simp [intRow]) hnews (by simp [intRow, Value.oneCell']) (by simp only [maxLen]; omega) (by omega) ?_; intro ao1 cap1 w5 k5 hR5 hE5; have y2' : w5.cell? ⟨pp, 1, none⟩ = _ := (pB.evo hE5 (by omega)).cell 1; simp only [List.getElem?_cons_zero, List.getElem?_cons_succ] at y2'; have yf' : w5.frozen? ⟨pp, 1, none⟩ = false := (pB.evo hE5 (by omega)).free 1; have yl' := (pB.evo hE5 (by omega)).lt)
    all_goals go_wp2_with fail
    all_goals go_meet
    all_goals
      obtain ⟨f1, f2, f3⟩ := push_fin (Evo.refl _ noC _) pB (by omega) hR5 hE5 1
      have eA : Evo kx k5 (fun c => c = cS s ∨ c = cS s + 1) W0 _ := (((Evo.refl kx (fun c => c = cS s ∨ c = cS s + 1) W0).alloc (Obj.cells #[.int .i64 m3] 3)).drew).trans f1
      have him : ¬ (IM = cS s ∨ IM = cS s + 1) := by unfold cS IM; omega
      have eB := ((evx.trans evw).mono (D := fun c => c = cS s ∨ c = cS s + 1) (fun _ h => h.elim)).trans eA
      refine hide ⟨k5, eB, ⟨_, _, _, f2, ?_, sL.evo eB (by omega) him, sN.evo eB (by omega)⟩, hM0.evo eA (by unfold cS; omega)⟩
      simpa [RSeg.epochUp] using f3
  case rest =>
    clear hR pB hnews x3 xl pl q1 hM0 evw HW0
    obtain ⟨k2, ev2, hst3, hM2⟩ := hcut.out
    have hzl3 : CutsIm k2 wc (.slice x0 x1 x2) cu := hzl.evo ev2 (by unfold cS IM; omega)
    have hc3 : CutsIm k2 wc (.slice z0 z1 z2) mc := hc.evo ev2 (by unfold cS IM; omega)
    have HTOP : Hid (∀ W, W.heap = wc.heap → Calls Tryz.prog 88 #[.slice x0 x1 x2] W fun e w' => e = .returned (.int .i64 (topOf cu)) ∧ w' = W) := hide fun W hW =>
      top_any (Rows.of_heap hW hzl3) (by omega)
    obtain ⟨vE3, vL3, vN3, tB, tE, tL, tN⟩ := hst3.ex
    obtain ⟨lrows, tLr, tLa⟩ := tL
    obtain ⟨la, lcap, hvl, _⟩ := Rows.form tLr
    have hlen2 : lrows.length = r.segs[s].lists.length := tLa.1.symm
    rw [hlen2] at hvl
    subst hvl
    have c2 : wc.cell? ⟨bm, 2, none⟩ = some (.int .i64 (s : Int)) := hM2.cell 2
    have c3 : wc.cell? ⟨bm, 3, none⟩ = some (.int .i64 m3) := hM2.cell 3
    have c7 : wc.cell? ⟨bm, 7, none⟩ = some (.slice z0 z1 z2) := hM2.cell 7
    have cl := hM2.lt
    have HLEN2 := hide hlen2
    clear hlen2
    by_cases ht : topOf cu = m3
    · have ht' : (topOf cu != m3) = false := by simp [ht]
      have hRR : rr = (r.setSeg s (r.segs[s].epochUp m3)).send (statusMsg s (r.segs[s].epochUp m3)) := by
        have := HRR.out; unfold RSeg.afterCut at this; rw [HCU.out] at this; simpa [ht] using this
      have HR2 := hide hRR
      have hY3 : YVol k2 wc q (r.setSeg s (r.segs[s].epochUp m3)) := YVol.set_seg hN hS hP s h1 ev2 (fun c h => by omega) (by rw [HPP.out]; exact hst3)
      have hok3 : YOk (r.setSeg s (r.segs[s].epochUp m3)) := hok.set_seg s _ ⟨by simp [RSeg.epochUp], by simp only [RSeg.epochUp, List.length_append, List.length_singleton]; omega, hsk.l0, hsk.ll, hsk.lk, hsk.nl⟩
      have HST : Hid (∀ W, Below wc.heap.size wc W → Calls Tryz.prog 90 #[.pointer (some ⟨q, 0, none⟩), .int .i64 (s : Int)] W fun e w' => e = .returned (.tuple #[]) ∧ ∃ k', Evo k k' cRef w w' ∧ YVol k' w' q rr) := hide fun W hW => by
        have hls : s < (r.setSeg s (r.segs[s].epochUp m3)).segs.length := by simpa [RVol.setSeg] using h2
        have ev : Evo k2 k2 noC wc W := Evo.of_below hW
        refine (refStatus_any s hls (hY3.evo ev (noC_not _) (fun c _ _ => noC_not c)) hok3).mono ?_
        rintro e w' ⟨rfl, k', ev', hY'⟩
        refine ⟨rfl, k', ((ev2.mono (fun c h => by unfold cS at h; unfold cRef; omega)).trans (ev.mono (fun _ h => h.elim))).trans (ev'.mono (fun c h => cRef_of h)), ?_⟩
        rw [HR2.out]
        have e9 : (r.setSeg s (r.segs[s].epochUp m3)).segs[s] = r.segs[s].epochUp m3 := by simp [RVol.setSeg]
        rw [e9] at hY'
        exact hY'
      clear ht hst3 tB tE tLr tLa tN hY3 hok3 hzl3 hM2 hcut hN hS hP hst sB sE sL sN hY2 hst2 hzl hRR
      go_wp2_with fail
      go_quiet ((go_at_call 88; exact Calls.quiet_of_same (HTOP.out _ rfl)))
      go_wp2_with fail
      refine (HST.out _ (below_drewN (Below.refl _ _) _)).mono ?_
      rintro e4 w4 ⟨rfl, HY4⟩
      go_wp2_with fail
      go_end0
      exact ⟨rfl, HY4⟩
    · have ht' : (topOf cu != m3) = true := by simp [ht]
      have hRR : rr = (r.setSeg s ((r.segs[s].epochUp m3).cutBy mc)).send (statusMsg s ((r.segs[s].epochUp m3).cutBy mc)) := by
        have := HRR.out; unfold RSeg.afterCut at this; rw [HCU.out] at this; simpa [ht] using this
      have HR2 := hide hRR
      have hok3 : YOk (r.setSeg s ((r.segs[s].epochUp m3).cutBy mc)) := hok.set_seg s _ ⟨by simp [RSeg.epochUp, RSeg.cutBy], by simp only [RSeg.epochUp, RSeg.cutBy, List.length_append, List.length_singleton]; omega, by simp [RSeg.epochUp, RSeg.cutBy], by simp only [RSeg.epochUp, RSeg.cutBy, List.length_append, List.length_singleton]; omega, by
          intro l hl
          simp only [RSeg.epochUp, RSeg.cutBy, List.mem_append, List.mem_singleton] at hl
          rcases hl with hl | rfl
          · exact hsk.lk l hl
          · exact hmc, by simpa [RSeg.epochUp, RSeg.cutBy] using hsk.nl⟩
      clear ht hst3 hzl3 hcut hst sB sE sL sN hY2 hst2 hzl hRR
      go_wp2_with fail
      go_quiet ((go_at_call 88; exact Calls.quiet_of_same (HTOP.out _ rfl)))
      go_wp2_with fail
      obtain ⟨Wd, hWd⟩ : ∃ Wd, Wd = wc.drewN nq := ⟨_, rfl⟩
      rw [← hWd]
      have evd : Evo k2 k2 noC wc Wd := by rw [hWd]; exact (Evo.refl _ _ _).drewN _
      have HWd := hide hWd
      clear hWd c2 c3 c7 cl
      have hMd := hM2.evo evd (noC_not _)
      have tBd := tB.evo evd (noC_not _)
      have tLd := tLr.evo evd (noC_not _)
      have hcd := hc3.evo evd (noC_not _)
      have x7 : Wd.cell? ⟨bm, 7, none⟩ = some (.slice z0 z1 z2) := hMd.cell 7
      have xl := hMd.lt
      have q2 : Wd.cell? ⟨pp, 2, none⟩ = some (.slice la r.segs[s].lists.length lcap) := tBd.cell 2
      have pl := tBd.lt
      have pB := tBd.evo (((Evo.refl k2 noC Wd).alloc (Obj.cells #[.slice z0 z1 z2] 49)).drew) (noC_not _)
      have hR := tLd.evo (((Evo.refl k2 noC Wd).alloc (Obj.cells #[.slice z0 z1 z2] 49)).drew) (noC_not _)
      have hnews : ∀ x u, ([[.slice z0 z1 z2]] : List (List Value)).flatten[x]? = some u → (Wd.alloc (Obj.cells #[.slice z0 z1 z2] 49)).drew.cell? ((⟨Wd.heap.size, 0, none⟩ : Addr).add x) = some u := fun x u hx => by
        rw [Addr.add_lit, Nat.zero_add]
        show World.cell? (Wd.alloc _) _ = _
        rw [cell_of_row _ Wd.heap.size x _ _ _ (heap_alloc_new Wd _)]
        simpa using hx
      obtain ⟨Wc1, hWc1⟩ : ∃ Wc1, Wc1 = wc := ⟨_, rfl⟩
      subst hWc1
      go_cut [] (fun wc => Hid (∃ k3, Evo k k3 (fun c => c = cS s ∨ c = cS s + 1 ∨ c = cS s + 2) w wc ∧ StoreIs k3 wc (cS s) pp { r.segs[s].epochUp m3 with lists := r.segs[s].lists ++ [mc] } ∧ CutsIm k3 wc (.slice z0 z1 z2) mc ∧ Blk k3 wc 0 bm 109 [.int .i64 3, .int .i64 m1, .int .i64 (s : Int), .int .i64 m3, .int .i64 m4, .int .i64 m5, .int .i64 m6, .slice z0 z1 z2, .slice y0 y1 y2]))
      case first =>
        go_region_law
          (refine step_append_rows k2 (cS s + 2) (.tmp 135) (.tmp 138) 86 49 _ 1 24 _ lrows [[.slice z0 z1 z2]] r.segs[s].lists.length ⟨Wd.heap.size, 0, none⟩ 1 1 HLEN2.out rfl rfl Tryz.underlying86 Tryz.infoCutsSl rfl (by decide) rfl rfl hR rfl (by simp) hnews (by simp [Value.oneCell']) (by simp only [maxLen]; omega) (by omega) ?_; intro ao1 cap1 w5 k5 hR5 hE5; have y2' : w5.cell? ⟨pp, 2, none⟩ = _ := (pB.evo hE5 (by omega)).cell 2; simp only [List.getElem?_cons_zero, List.getElem?_cons_succ] at y2'; have yf' : w5.frozen? ⟨pp, 2, none⟩ = false := (pB.evo hE5 (by omega)).free 2; have yl' := (pB.evo hE5 (by omega)).lt)
        all_goals go_wp2_with fail
        all_goals go_meet
        all_goals
          obtain ⟨f1, f2, f3⟩ := push_fin (Evo.refl _ noC _) pB (by omega) hR5 hE5 2
          have eA : Evo k2 k5 (fun c => c = cS s ∨ c = cS s + 2) Wd _ := (((Evo.refl k2 (fun c => c = cS s ∨ c = cS s + 2) Wd).alloc (Obj.cells #[.slice z0 z1 z2] 49)).drew).trans f1
          have him : ¬ (IM = cS s ∨ IM = cS s + 2) := by unfold cS IM; omega
          have eD := (evd.mono (D := fun c => c = cS s ∨ c = cS s + 2) (fun _ h => h.elim)).trans eA
          have eB := (ev2.mono (D := fun c => c = cS s ∨ c = cS s + 1 ∨ c = cS s + 2) (fun _ h => by omega)).trans (eD.mono (fun _ h => by omega))
          refine hide ⟨k5, eB, ⟨_, _, _, f2, tE.evo eD (by omega), ⟨_, f3, ?_⟩, tN.evo eD (by omega)⟩, hcd.evo eA him, hMd.evo eA (by unfold cS; omega)⟩
          exact All2.snoc (tLa.imp fun l x ⟨y, hy, hz⟩ => ⟨y, hy, hz.evo eD him⟩) ⟨_, rfl, hcd.evo eA him⟩
      case rest =>
        obtain ⟨k3, ev3, hst3, hc4, hM3⟩ := hcut.out
        obtain ⟨vE4, vL4, vN4, uB, uE, uL, uN⟩ := hst3.ex
        have HSF : Hid (Calls Tryz.prog 127 #[.pointer (some ⟨pp, 0, none⟩), .slice z0 z1 z2] wc fun e w' => e = .returned (.tuple #[]) ∧ w'.cell? ⟨bm, 2, none⟩ = some (.int .i64 (s : Int)) ∧ bm < w'.heap.size ∧
            Calls Tryz.prog 90 #[.pointer (some ⟨q, 0, none⟩), .int .i64 (s : Int)] w' fun e w'' => e = .returned (.tuple #[]) ∧ ∃ k', Evo k k' cRef w w'' ∧ YVol k' w'' q rr) := hide (by
          refine (sift_any (by omega) (by unfold cS IM; omega) uB uN hsk.nl hc4 (by omega)).mono ?_
          rintro e5 w5 ⟨rfl, ev5, hR5⟩
          have hM5 := hM3.evo ev5 (by unfold cS; omega)
          have hst5 : StoreIs k3 w5 (cS s) pp ((r.segs[s].epochUp m3).cutBy mc) := ⟨vE4, vL4, vN4, uB.evo ev5 (by omega), uE.evo ev5 (by omega), uL.evo ev5 (by omega) (by unfold cS IM; omega), hR5⟩
          have ev35 : Evo k k3 (fun c => c = cS s ∨ c = cS s + 1 ∨ c = cS s + 2 ∨ c = cS s + 3) w w5 := (ev3.mono (fun _ h => by omega)).trans (ev5.mono (fun _ h => by omega))
          have hY3 : YVol k3 w5 q (r.setSeg s ((r.segs[s].epochUp m3).cutBy mc)) := YVol.set_seg hN hS hP s h1 ev35 (fun c h => by omega) (by rw [HPP.out]; exact hst5)
          refine ⟨rfl, hM5.cell 2, hM5.lt, ?_⟩
          have hls : s < (r.setSeg s ((r.segs[s].epochUp m3).cutBy mc)).segs.length := by simpa [RVol.setSeg] using h2
          refine (refStatus_any s hls hY3 hok3).mono ?_
          rintro e w' ⟨rfl, k', ev', hY'⟩
          refine ⟨rfl, k', (ev35.mono (fun c h => by unfold cS at h; unfold cRef; omega)).trans (ev'.mono (fun c h => cRef_of h)), ?_⟩
          rw [HR2.out]
          have e9 : (r.setSeg s ((r.segs[s].epochUp m3).cutBy mc)).segs[s] = (r.segs[s].epochUp m3).cutBy mc := by simp [RVol.setSeg]
          rw [e9] at hY'
          exact hY')
        have x7b : wc.cell? ⟨bm, 7, none⟩ = some (.slice z0 z1 z2) := hM3.cell 7
        have xlb := hM3.lt
        clear hcut ev3 hst3 hc4 hM3 uB uE uL uN hR pB hnews x7 xl q2 pl tB tE tN tLr tLa hM2 hc3 hN hS hP ev2 evd hMd tBd tLd hcd HWd
        go_wp2_with fail
        refine HSF.out.mono ?_
        rintro e5 w5 ⟨rfl, c2, cl, HST⟩
        have HST2 := hide HST
        clear HST
        go_wp2_with fail
        refine HST2.out.mono ?_
        rintro e6 w6 ⟨rfl, HY6⟩
        go_wp2_with fail
        go_end0
        exact ⟨rfl, HY6⟩

end Go.Proofs.YtfpbkghcjaonlaaGreat
