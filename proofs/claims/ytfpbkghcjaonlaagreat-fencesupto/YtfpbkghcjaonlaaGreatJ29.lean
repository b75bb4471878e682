import Derived.Test.YtfpbkghcjaonlaaGreatJ28
/-
  The program: a segment: fill, Sync.
-/
namespace Go.Proofs.YtfpbkghcjaonlaaGreat
open Go.RowKit

/-- Nine cells of our own are written. -/
theorem ev_set9 {k : Nat → Nat} {w : World} {b : Nat} (hk : k b = 0) (a0 a1 a2 a3 a4 a5 a6 a7 a8 : Value) : Evo k k (fun c => c = 0) w (((((((((w.setCell ⟨b, 0, none⟩ a0).setCell ⟨b, 1, none⟩ a1).setCell ⟨b, 2, none⟩ a2).setCell ⟨b, 3, none⟩ a3).setCell ⟨b, 4, none⟩ a4).setCell ⟨b, 5, none⟩ a5).setCell ⟨b, 6, none⟩ a6).setCell ⟨b, 7, none⟩ a7).setCell ⟨b, 8, none⟩ a8) :=
  (((((((((Evo.refl k _ w).setCell _ _ (fun _ => hk)).setCell _ _ (fun _ => hk)).setCell _ _ (fun _ => hk)).setCell _ _ (fun _ => hk)).setCell _ _ (fun _ => hk)).setCell _ _ (fun _ => hk)).setCell _ _ (fun _ => hk)).setCell _ _ (fun _ => hk)).setCell _ _ (fun _ => hk)

theorem SegOut.at9 {k k1 : Nat → Nat} {w w1 : World} {px : Nat} {r : VR} {i o b : Nat} {s : XSeg} {d0 : Option Addr} {d1 d2 : Nat} {P : (Nat → Nat) → Prop} (ev1 : Evo k k1 (fun c => c = cX) w w1) (h1 : SegW k1 w1 px r i o s (.slice d0 d1 d2)) (hc1 : CutsIm k1 w1 (.slice d0 d1 d2) s.cuts) (hpx : px < w.heap.size) (hb : w.heap.size ≤ b)
    (a0 a1 a2 a3 a4 a5 a6 a7 a8 : Value) (hk : k1 b = 0) (hP : P k1) :
    SegOut k w (((((((((w1.setCell ⟨b, 0, none⟩ a0).setCell ⟨b, 1, none⟩ a1).setCell ⟨b, 2, none⟩ a2).setCell ⟨b, 3, none⟩ a3).setCell ⟨b, 4, none⟩ a4).setCell ⟨b, 5, none⟩ a5).setCell ⟨b, 6, none⟩ a6).setCell ⟨b, 7, none⟩ a7).setCell ⟨b, 8, none⟩ a8) px r i o s P := by
  have hBf := below9 (Below.refl w.heap.size w1) hb a0 a1 a2 a3 a4 a5 a6 a7 a8
  exact ⟨k1, d0, d1, d2, ev1.then_below (k' := k1) hBf (fun _ _ => rfl), h1.then_below (k' := k1) hBf hpx h1.col, hc1.evo (ev_set9 hk a0 a1 a2 a3 a4 a5 a6 a7 a8) (by decide), hP⟩

set_option maxRecDepth 3000 in
set_option maxHeartbeats 2000000 in
theorem sfill_any {k : Nat → Nat} {w : World} {px : Nat} {r : VR} {i o : Nat} {s : XSeg} {c0 : Option Addr} {c1 c2 : Nat} (h : SegW k w px r i o s (.slice c0 c1 c2)) (hc : CutsIm k w (.slice c0 c1 c2) s.cuts) (hcl : s.cuts.length ≤ 1000) (m : Msg) (z0 y0 : Option Addr) (z1 z2 y1 y2 : Nat) :
    Calls Tryz.prog 134 #[.pointer (some ⟨px, o, none⟩), .agg #[.int .i64 m.kind, .int .i64 m.frm, .int .i64 m.to_, .int .i64 m.epoch, .int .i64 m.lsn, .int .i64 m.value, .int .i64 m.scl, .slice z0 z1 z2, .slice y0 y1 y2]] w fun e w' => e = .returned (.tuple #[]) ∧ Evo k k (fun c => c = cX) w w' ∧ SegW k w' px r i o (s.fill m) (.slice c0 c1 c2) := by
  have hbl := h.lt
  have hbn : ¬ px = w.heap.size := by omega
  obtain ⟨mk, mf, mt, m3, m4, m5, m6, mc, mm⟩ := m
  dsimp only at *
  obtain ⟨gd, hgd⟩ : ∃ gd, gd = good s.cuts m4 m3 := ⟨_, rfl⟩
  have HW := hide h
  have HC := hide hc
  obtain ⟨s', hs'⟩ : ∃ s', s' = s.fill ⟨mk, mf, mt, m3, m4, m5, m6, mc, mm⟩ := ⟨_, rfl⟩
  rw [← hs']
  have HS' : Hid (s' = if gd = true then s.take ⟨mk, mf, mt, m3, m4, m5, m6, mc, mm⟩ else s) := hide (by rw [hs', hgd]; rfl)
  have HGD := hide hgd
  clear h hc hgd hs'
  go_enter Tryz.func134, Tryz.ntmps134
  go_upto_region 1 with (fail)
  obtain ⟨W0, hW0⟩ : ∃ W0, W0 = w.alloc (Obj.cells #[.int .i64 mk, .int .i64 mf, .int .i64 mt, .int .i64 m3, .int .i64 m4, .int .i64 m5, .int .i64 m6, .slice z0 z1 z2, .slice y0 y1 y2] 109) := ⟨_, rfl⟩
  rw [← hW0]
  have hb0 : Below w.heap.size w W0 := by rw [hW0]; exact (Below.refl _ _).alloc (Nat.le_refl _) _
  have bm0 : Blk (fun _ => 0) W0 0 w.heap.size 109 [.int .i64 mk, .int .i64 mf, .int .i64 mt, .int .i64 m3, .int .i64 m4, .int .i64 m5, .int .i64 m6, .slice z0 z1 z2, .slice y0 y1 y2] := ⟨by rw [hW0]; exact heap_alloc_new w _, rfl⟩
  have HH := hide hW0
  clear hW0
  have HK : Hid (∀ W, Below W0.heap.size W0 W → Evo k k (fun c => c = cX) w W ∧ SegW k W px r i o s (.slice c0 c1 c2) ∧ Blk (fun _ => 0) W 0 w.heap.size 109 [.int .i64 mk, .int .i64 mf, .int .i64 mt, .int .i64 m3, .int .i64 m4, .int .i64 m5, .int .i64 m6, .slice z0 z1 z2, .slice y0 y1 y2] ∧ (W.cell? ⟨px, o + 2, none⟩ = some (.slice c0 c1 c2) ∧ W.cell? ⟨w.heap.size, 4, none⟩ = some (.int .i64 m4) ∧ W.cell? ⟨w.heap.size, 3, none⟩ = some (.int .i64 m3))) := hide fun W hW => by
    have hbW : Below w.heap.size w W := hb0.trans (hW.mono hb0.size)
    have a := HW.out.below hbW
    have b : Blk (fun _ => 0) W 0 w.heap.size 109 [.int .i64 mk, .int .i64 mf, .int .i64 mt, .int .i64 m3, .int .i64 m4, .int .i64 m5, .int .i64 m6, .slice z0 z1 z2, .slice y0 y1 y2] := bm0.evo (Evo.of_below (C := noC) hW) (noC_not _)
    exact ⟨Evo.of_below hbW, a, b, a.at_.cell 2 (by omega), b.cell 4, b.cell 3⟩
  have HG : Hid (∀ W, Below W0.heap.size W0 W → Calls Tryz.prog 142 #[.slice c0 c1 c2, .int .i64 m4, .int .i64 m3] W fun e w' => e = .returned (.bool gd) ∧ Below W.heap.size W w') := hide fun W hW => by
    rw [HGD.out]
    exact xgood_any _ _ (HC.out.evo (HK.out W hW).1 (by decide)) (by omega)
  have HS0 := hide (HK.out W0.drew (Below.drew (Below.refl _ _))).2.2.2
  have bl0 := bm0.lt
  have hpl : px < W0.heap.size := Nat.lt_of_lt_of_le hbl hb0.size
  clear bm0 hb0
  go_region_held3 (fun W => W.cell? ⟨px, o + 2, none⟩ = some (.slice c0 c1 c2) ∧ W.cell? ⟨w.heap.size, 4, none⟩ = some (.int .i64 m4) ∧ W.cell? ⟨w.heap.size, 3, none⟩ = some (.int .i64 m3)) (first | with_reducible exact HS0.out | with_reducible exact HSy)
    (first | (go_at_call 142; refine (HG.out _ (Below.drew (Below.refl _ _))).mono ?_; rintro e5 w5 ⟨rfl, hb5⟩; have hb5x : Below W0.heap.size W0 w5 := (Below.drew (Below.refl _ _)).trans hb5; have HSy := (HK.out w5 hb5x).2.2.2))
  have H5 := hide (HK.out w5 hb5x)
  clear HSy HS0 bl0 hpl
  cases gd
  · have HE : Hid (s' = s) := HS'
    go_wp2_with fail
    go_end0
    exact ⟨rfl, H5.out.1, by rw [HE.out]; exact H5.out.2.1⟩
  · have HE : Hid (s' = s.take ⟨mk, mf, mt, m3, m4, m5, m6, mc, mm⟩) := HS'
    have HTk := hide (stake_any H5.out.2.1 ⟨mk, mf, mt, m3, m4, m5, m6, mc, mm⟩ z0 y0 z1 z2 y1 y2)
    obtain ⟨⟨a0, a1, a2, a3, a4, a5, a6, a7, a8⟩, -, bl6⟩ := cells9m H5.out.2.2.1.1
    go_wp2_with fail
    refine HTk.out.mono ?_
    rintro e7 w7 ⟨rfl, ev7, hS7⟩
    go_wp2_with fail
    go_end0
    exact ⟨rfl, H5.out.1.trans ev7, by rw [HE.out]; exact hS7⟩

theorem synced_eq (s : XSeg) : s.synced = { s with places := s.places.map syncAt } := rfl

set_option maxRecDepth 3000 in
set_option maxHeartbeats 4000000 in
theorem ssync_any {k : Nat → Nat} {w : World} {px : Nat} {r : VR} {i o : Nat} {s : XSeg} {c0 : Option Addr} {c1 c2 : Nat} (h : SegW k w px r i o s (.slice c0 c1 c2)) (hc : CutsIm k w (.slice c0 c1 c2) s.cuts) (hcl : s.cuts.length ≤ 1000) (n : Int) :
    Calls Tryz.prog 86 #[.pointer (some ⟨px, o, none⟩), .int .i64 n] w fun e w' => ∃ v, e = .returned v ∧ SegOut k w w' px r i o (s.sync n).1 (fun k' => OAns k' w' (s.sync n).2 v) := by
  have hk := h.col
  have hl := h.pl
  have hbl := h.lt
  have hbn : ¬ px = w.heap.size := by omega
  have HC := hide hc
  obtain ⟨tp, htp⟩ : ∃ tp, tp = topOf s.cuts := ⟨_, rfl⟩
  have HTP := hide htp
  obtain ⟨xo, hxo⟩ : ∃ xo, xo = s.sync n := ⟨_, rfl⟩
  rw [← hxo]
  have HXO : Hid (xo = if s.epoch = 0 ∨ s.epoch ≠ tp then (s.synced, none) else (s.synced, some (s.synced.status n s.epoch))) := hide (by rw [hxo, htp]; rfl)
  obtain ⟨kn, hkn⟩ : ∃ kn, kn = kNew k w.heap.size := ⟨_, rfl⟩
  have hkpx : kn px = cX := by rw [hkn, kNew_old _ _ _ hbl]; exact hk
  have hk1 : kn w.heap.size = 0 := by rw [hkn]; exact kNew_two _ _ _ (by omega) (by omega)
  have HN : Hid (Evo k kn (fun c => c = cX) w (w.alloc (Obj.cells #[.int .i64 0, .int .i64 0, .int .i64 0, .int .i64 0, .int .i64 0, .int .i64 0, .int .i64 0, .slice none 0 0, .slice none 0 0] 109)) ∧ SegW kn (w.alloc (Obj.cells #[.int .i64 0, .int .i64 0, .int .i64 0, .int .i64 0, .int .i64 0, .int .i64 0, .int .i64 0, .slice none 0 0, .slice none 0 0] 109)) px r i o { s with places := mapTo syncAt s.places 0 } (.slice c0 c1 c2) ∧ Blk kn (w.alloc (Obj.cells #[.int .i64 0, .int .i64 0, .int .i64 0, .int .i64 0, .int .i64 0, .int .i64 0, .int .i64 0, .slice none 0 0, .slice none 0 0] 109)) 0 w.heap.size 109 [.int .i64 0, .int .i64 0, .int .i64 0, .int .i64 0, .int .i64 0, .int .i64 0, .int .i64 0, .slice none 0 0, .slice none 0 0]) := by
    have hb0 : Below w.heap.size w (w.alloc (Obj.cells #[.int .i64 0, .int .i64 0, .int .i64 0, .int .i64 0, .int .i64 0, .int .i64 0, .int .i64 0, .slice none 0 0, .slice none 0 0] 109)) := (Below.refl _ _).alloc (Nat.le_refl _) _
    exact hide ⟨(Evo.refl k _ w).then_below hb0 (fun i hi => by rw [hkn]; exact kNew_old _ _ _ hi), by rw [mapTo_zero]; exact h.then_below hb0 hbl hkpx, heap_alloc_new w _, hk1⟩
  clear h hc htp hxo hkn
  go_enter Tryz.func86, Tryz.ntmps86
  go_wp2_with fail
  go_loopw [6] (fun i' wr => ∃ j : Nat, j ≤ 40 ∧ i' = .int .i64 j ∧ Hid (Evo k kn (fun c => c = cX) w wr ∧ SegW kn wr px r i o { s with places := mapTo syncAt s.places j } (.slice c0 c1 c2) ∧ Blk kn wr 0 w.heap.size 109 [.int .i64 0, .int .i64 0, .int .i64 0, .int .i64 0, .int .i64 0, .int .i64 0, .int .i64 0, .slice none 0 0, .slice none 0 0])) (fun i' _ => 40 - (intOf i').toNat)
  case atStart => exact ⟨0, by omega, rfl, HN⟩
  case round =>
    obtain ⟨j, hj, rfl, hst⟩ := hrel
    obtain ⟨ev, hS, hB⟩ := hst.out
    by_cases hlt : j < 40
    · have hd : decide ((j : Int) < 40) = true := by simp; omega
      have hj40 : (j : Int) < 40 := by omega
      have hjl : j < s.places.length := by omega
      have hml : j < (mapTo syncAt s.places j).length := by rw [mapTo_len]; exact hjl
      obtain ⟨q0, -, -⟩ := hS.at_.place j hml
      simp only [mapTo_get syncAt s.places j hjl] at q0
      have g0 := hS.free (o + 3 + j * 3)
      have hpl := hS.lt
      have hP := hS.state j hml 2
      simp only [mapTo_get syncAt s.places j hjl] at hP
      have evS : Evo kn kn (fun c => c = cX) wr (wr.setCell ⟨px, o + 3 + j * 3, none⟩ (.int .i64 2)) := (Evo.refl _ _ _).setCell _ _ (fun _ => hkpx)
      have HP := hide (And.intro (ev.trans evS) (And.intro hP (hB.evo evS (by decide))))
      have HSu : Hid (∀ q, syncAt s.places[j] = q → mapTo syncAt s.places (j + 1) = (mapTo syncAt s.places j).set j q) := hide fun q e => by rw [mapTo_succ syncAt s.places j hjl, e]
      have HSa : Hid (syncAt s.places[j] = s.places[j] → mapTo syncAt s.places (j + 1) = mapTo syncAt s.places j) := hide fun e => mapTo_same syncAt s.places j hjl e
      generalize s.places[j] = pj at *
      clear hP hS ev hml hB evS
      cases hz : (pj.1 == 1)
      · have HE := hide (HSa.out (by unfold syncAt; rw [if_neg (by simpa using hz)]))
        go_wp2_with fail
        go_roundw
        case rel => exact ⟨j + 1, by omega, by go_num, by rw [HE.out]; exact hst⟩
        case measure => simp [intOf]; omega
      · have HE := hide (HSu.out (2, pj.2) (by unfold syncAt; rw [if_pos (by simpa using hz)]))
        go_wp2_with fail
        go_roundw
        case rel => exact ⟨j + 1, by omega, by go_num, by rw [HE.out]; exact HP⟩
        case measure => simp [intOf]; omega
    · have hd : decide ((j : Int) < 40) = false := by simp; omega
      have hE : mapTo syncAt s.places j = s.places.map syncAt := mapTo_all _ _ _ (by omega)
      rw [hE, ← synced_eq] at hS
      have p1 : wr.cell? ⟨px, o + 1, none⟩ = some (.int .i64 s.epoch) := hS.at_.cell 1 (by omega)
      have p2 : wr.cell? ⟨px, o + 2, none⟩ = some (.slice c0 c1 c2) := hS.at_.cell 2 (by omega)
      have hpl := hS.lt
      have bl0 := hB.lt
      have HTOP : Hid (∀ W, W.heap = wr.heap → Calls Tryz.prog 110 #[.slice c0 c1 c2] W fun e w' => e = .returned (.int .i64 tp) ∧ w' = W) := hide fun W hW => by
        rw [HTP.out]
        exact xtop_any (Rows.of_heap hW (HC.out.evo ev (by decide))) (by omega)
      have HK : Hid (∀ W, Below wr.heap.size wr W → Evo k kn (fun c => c = cX) w W ∧ SegW kn W px r i o s.synced (.slice c0 c1 c2) ∧ Blk kn W 0 w.heap.size 109 [.int .i64 0, .int .i64 0, .int .i64 0, .int .i64 0, .int .i64 0, .int .i64 0, .int .i64 0, .slice none 0 0, .slice none 0 0]) := hide fun W hW => ⟨ev.trans (Evo.of_below hW), hS.below hW, hB.evo (Evo.of_below (C := noC) hW) (noC_not _)⟩
      clear hst hS ev hB hE
      by_cases h0 : s.epoch = 0
      · have HE : Hid (xo = (s.synced, none)) := hide (by rw [HXO.out, if_pos (.inl h0)])
        have hd2 : (s.epoch == 0) = true := by simpa using h0
        clear h0
        go_wp2_with fail
        go_quiet (fail)
        have H5 := hide (HK.out (wr.drewN nq) (below_drewN (Below.refl _ _) _))
        clear hpl bl0 p1 p2
        generalize wr.drewN nq = w5 at *
        obtain ⟨⟨r0, r1, r2, r3, r4, r5, r6, r7, r8⟩, ⟨f0, f1, f2, f3, f4, f5, f6, f7, f8⟩, hlr⟩ := cells9m H5.out.2.2.1
        go_wp2_with fail
        refine bodyPost_ret (v := .tuple #[.agg #[.int .i64 0, .int .i64 0, .int .i64 0, .int .i64 0, .int .i64 0, .int .i64 0, .int .i64 0, .slice none 0 0, .slice none 0 0], .bool false]) (by simp [results, Tryz.results86, go_sem, r0, r1, r2, r3, r4, r5, r6, r7, r8]) rfl ⟨_, rfl, ?_⟩
        rw [HE.out]
        exact SegOut.at9 H5.out.1 H5.out.2.1 (HC.out.evo H5.out.1 (by decide)) hbl (Nat.le_refl _) _ _ _ _ _ _ _ _ _ hk1 (OAns.none _ _)
      · have hd2 : (s.epoch == 0) = false := by simpa using h0
        by_cases ht : s.epoch = tp
        · have HE : Hid (xo = (s.synced, some (s.synced.status n s.epoch))) := hide (by rw [HXO.out, if_neg (fun h => h.elim h0 (fun a => a ht))])
          have hd3 : (s.epoch != tp) = false := by simpa using ht
          clear h0 ht
          go_wp2_with fail
          go_quiet ((go_at_call 110; exact Calls.quiet_of_same (HTOP.out _ rfl)))
          have H5 := hide (HK.out (wr.drewN nq) (below_drewN (Below.refl _ _) _))
          clear hpl bl0 p1 p2
          generalize wr.drewN nq = w5 at *
          have p1 : w5.cell? ⟨px, o + 1, none⟩ = some (.int .i64 s.epoch) := H5.out.2.1.at_.cell 1 (by omega)
          have hpl := H5.out.2.1.lt
          have HSt := hide (sstatus_any H5.out.2.1.at_ n s.epoch)
          go_wp2_with fail
          refine HSt.out.mono ?_
          rintro e7 w7 ⟨rfl, hb7⟩
          obtain ⟨⟨r0, r1, r2, r3, r4, r5, r6, r7, r8⟩, ⟨f0, f1, f2, f3, f4, f5, f6, f7, f8⟩, hlr⟩ := cells9m (H5.out.2.2.evo (Evo.of_below (C := noC) hb7) (noC_not _)).1
          have HF := hide (And.intro (H5.out.1.trans (Evo.of_below hb7)) (H5.out.2.1.below hb7))
          clear hb7 p1 hpl
          go_wp2_with fail
          refine bodyPost_ret (v := .tuple #[.agg #[.int .i64 4, .int .i64 n, .int .i64 s.epoch, .int .i64 s.epoch, .int .i64 0, .int .i64 0, .int .i64 (xscl s.synced), .slice none 0 0, .slice none 0 0], .bool true]) (by simp [results, Tryz.results86, go_sem, r0, r1, r2, r3, r4, r5, r6, r7, r8]) rfl ⟨_, rfl, ?_⟩
          rw [HE.out]
          exact SegOut.at9 HF.out.1 HF.out.2 (HC.out.evo HF.out.1 (by decide)) hbl (Nat.le_refl _) _ _ _ _ _ _ _ _ _ hk1 ⟨s.synced.status n s.epoch, none, 0, 0, none, 0, 0, rfl, Rows.nil _ _ _ _ _, Rows.nil _ _ _ _ _, fun m' hm' => (Option.some.inj hm').symm⟩
        · have HE : Hid (xo = (s.synced, none)) := hide (by rw [HXO.out, if_pos (.inr ht)])
          have hd3 : (s.epoch != tp) = true := by simpa using ht
          clear h0 ht
          go_wp2_with fail
          go_quiet ((go_at_call 110; exact Calls.quiet_of_same (HTOP.out _ rfl)))
          have H5 := hide (HK.out (wr.drewN nq) (below_drewN (Below.refl _ _) _))
          clear hpl bl0 p1 p2
          generalize wr.drewN nq = w5 at *
          obtain ⟨⟨r0, r1, r2, r3, r4, r5, r6, r7, r8⟩, ⟨f0, f1, f2, f3, f4, f5, f6, f7, f8⟩, hlr⟩ := cells9m H5.out.2.2.1
          go_wp2_with fail
          refine bodyPost_ret (v := .tuple #[.agg #[.int .i64 0, .int .i64 0, .int .i64 0, .int .i64 0, .int .i64 0, .int .i64 0, .int .i64 0, .slice none 0 0, .slice none 0 0], .bool false]) (by simp [results, Tryz.results86, go_sem, r0, r1, r2, r3, r4, r5, r6, r7, r8]) rfl ⟨_, rfl, ?_⟩
          rw [HE.out]
          exact SegOut.at9 H5.out.1 H5.out.2.1 (HC.out.evo H5.out.1 (by decide)) hbl (Nat.le_refl _) _ _ _ _ _ _ _ _ _ hk1 (OAns.none _ _)
end Go.Proofs.YtfpbkghcjaonlaaGreat
