import Derived.Test.YtfpbkghcjaonlaaGreatJ27
/-
  The program: a segment: write.
-/
namespace Go.Proofs.YtfpbkghcjaonlaaGreat
open Go.RowKit

set_option maxRecDepth 3000 in
set_option maxHeartbeats 2000000 in
theorem swrite_ref {k : Nat → Nat} {w : World} {px : Nat} {r : VR} {i o : Nat} {s : XSeg} {c0 : Option Addr} {c1 c2 : Nat} (h : SegW k w px r i o s (.slice c0 c1 c2)) (hc : CutsIm k w (.slice c0 c1 c2) s.cuts) (_hcl : s.cuts.length ≤ 1000) (m : Msg) (z0 y0 : Option Addr) (z1 z2 y1 y2 : Nat) (hlt : m.epoch < s.epoch) :
    Calls Tryz.prog 132 #[.pointer (some ⟨px, o, none⟩), .agg #[.int .i64 m.kind, .int .i64 m.frm, .int .i64 m.to_, .int .i64 m.epoch, .int .i64 m.lsn, .int .i64 m.value, .int .i64 m.scl, .slice z0 z1 z2, .slice y0 y1 y2]] w fun e w' => ∃ v, e = .returned v ∧ SegOut k w w' px r i o (s.write m).1 (fun k' => OAns k' w' (s.write m).2 v) := by
  have hk := h.col
  have hbl := h.lt
  have hbn : ¬ px = w.heap.size := by omega
  have hbn1 : ¬ px = w.heap.size + 1 := by omega
  obtain ⟨mk, mf, mt, m3, m4, m5, m6, mc, mm⟩ := m
  dsimp only at *
  have HW := hide h
  have HC := hide hc
  have q1 : w.cell? ⟨px, o + 1, none⟩ = some (.int .i64 s.epoch) := h.at_.cell 1 (by omega)
  have HE : Hid (s.write ⟨mk, mf, mt, m3, m4, m5, m6, mc, mm⟩ = (s, some ⟨5, mt, mf, s.epoch, 0, 0, 0, [], []⟩)) := hide (by unfold XSeg.write; rw [if_pos hlt]; rfl)
  have hd : decide (m3 < s.epoch) = true := by simpa using hlt
  have HRf : Hid (∀ W, Below w.heap.size w W → Calls Tryz.prog 138 #[.pointer (some ⟨px, o, none⟩), .agg #[.int .i64 mk, .int .i64 mf, .int .i64 mt, .int .i64 m3, .int .i64 m4, .int .i64 m5, .int .i64 m6, .slice z0 z1 z2, .slice y0 y1 y2]] W fun e w' => e = .returned (.agg #[.int .i64 5, .int .i64 mt, .int .i64 mf, .int .i64 s.epoch, .int .i64 0, .int .i64 0, .int .i64 0, .slice none 0 0, .slice none 0 0]) ∧ Below W.heap.size W w') := hide fun W hW => refusal_any (h.at_.below hW) mk mf mt m3 m4 m5 m6 z0 y0 z1 z2 y1 y2
  clear h hc hlt
  rw [HE.out]
  dsimp only
  go_enter Tryz.func132, Tryz.ntmps132
  go_wp2_with fail
  obtain ⟨W0, hW0⟩ : ∃ W0, W0 = (w.alloc (Obj.cells #[.int .i64 mk, .int .i64 mf, .int .i64 mt, .int .i64 m3, .int .i64 m4, .int .i64 m5, .int .i64 m6, .slice z0 z1 z2, .slice y0 y1 y2] 109)).alloc (Obj.cells #[.int .i64 0, .int .i64 0, .int .i64 0, .int .i64 0, .int .i64 0, .int .i64 0, .int .i64 0, .slice none 0 0, .slice none 0 0] 109) := ⟨_, rfl⟩
  rw [← hW0]
  obtain ⟨bm0, br0, hb0, ev0⟩ := two_new w k [.int .i64 mk, .int .i64 mf, .int .i64 mt, .int .i64 m3, .int .i64 m4, .int .i64 m5, .int .i64 m6, .slice z0 z1 z2, .slice y0 y1 y2] [.int .i64 0, .int .i64 0, .int .i64 0, .int .i64 0, .int .i64 0, .int .i64 0, .int .i64 0, .slice none 0 0, .slice none 0 0] 109 109
  rw [show (w.alloc (Obj.cells ([.int .i64 mk, .int .i64 mf, .int .i64 mt, .int .i64 m3, .int .i64 m4, .int .i64 m5, .int .i64 m6, .slice z0 z1 z2, .slice y0 y1 y2] : List Value).toArray 109)).alloc (Obj.cells ([.int .i64 0, .int .i64 0, .int .i64 0, .int .i64 0, .int .i64 0, .int .i64 0, .int .i64 0, .slice none 0 0, .slice none 0 0] : List Value).toArray 109) = W0 from hW0.symm] at bm0 br0 hb0 ev0
  obtain ⟨kn, hkn⟩ : ∃ kn, kn = kNew k w.heap.size := ⟨_, rfl⟩
  rw [← hkn] at bm0 br0 ev0
  have HH := hide (And.intro hW0 hkn)
  have hkpx : kn px = cX := by rw [hkn, kNew_old _ _ _ hbl]; exact hk
  have hk1 : kn (w.heap.size + 1) = 0 := by rw [hkn]; exact kNew_two _ _ _ (by omega) (by omega)
  clear hW0 hkn
  have p1 : W0.cell? ⟨px, o + 1, none⟩ = some (.int .i64 s.epoch) := (hb0.cell (p := ⟨px, o + 1, none⟩) hbl).trans q1
  have b3 : W0.cell? ⟨w.heap.size, 3, none⟩ = some (.int .i64 m3) := bm0.cell 3
  have bl0 := bm0.lt
  have bl1 := br0.lt
  have hpl : px < W0.heap.size := Nat.lt_of_lt_of_le hbl hb0.size
  go_quiet (fail)
  have eq : Evo kn kn noC W0 (W0.drewN nq) := (Evo.refl kn noC W0).drewN nq
  have bm9 := bm0.evo eq (noC_not _)
  have br9 := br0.evo eq (noC_not _)
  have ev9 := ev0.drewN nq
  have hb9 : Below w.heap.size w (W0.drewN nq) := ⟨hb0.os, hb0.tape, hb0.output, hb0.size, hb0.block⟩
  clear eq bm0 br0 ev0 hb0 p1 b3 bl0 bl1 hpl HH
  generalize W0.drewN nq = W9 at *
  have hS9 : SegW kn W9 px r i o s (.slice c0 c1 c2) := HW.out.then_below hb9 hbl hkpx
  have hpl := hS9.lt
  have bl0 := bm9.lt
  have bl1 := br9.lt
  obtain ⟨⟨a0, a1, a2, a3, a4, a5, a6, a7, a8⟩, -, al⟩ := cells9m bm9.1
  have HX := hide (And.intro ev9 (And.intro hS9 br9))
  clear bm9 br9 ev9 hS9 bl0 bl1
  go_wp2_with fail
  refine (HRf.out _ hb9).mono ?_
  rintro e1 w1 ⟨rfl, hb1⟩
  obtain ⟨⟨r0, r1, r2, r3, r4, r5, r6, r7, r8⟩, ⟨f0, f1, f2, f3, f4, f5, f6, f7, f8⟩, hlr⟩ := cells9m (HX.out.2.2.evo (Evo.of_below (C := noC) hb1) (noC_not _)).1
  have HF := hide (And.intro (HX.out.1.trans (Evo.of_below hb1)) (HX.out.2.1.below hb1))
  clear hb1 a0 a1 a2 a3 a4 a5 a6 a7 a8
  go_wp2_with fail
  refine bodyPost_ret (v := .tuple #[.agg #[.int .i64 5, .int .i64 mt, .int .i64 mf, .int .i64 s.epoch, .int .i64 0, .int .i64 0, .int .i64 0, .slice none 0 0, .slice none 0 0], .bool true]) (by simp [results, Tryz.results132, go_sem, r0, r1, r2, r3, r4, r5, r6, r7, r8]) rfl ⟨_, rfl, ?_⟩
  exact SegOut.answer HF.out.1 HF.out.2 (HC.out.evo HF.out.1 (by decide)) hbl _ _ _ _ _ _ _ _ _ hk1 ⟨⟨5, mt, mf, s.epoch, 0, 0, 0, [], []⟩, none, 0, 0, none, 0, 0, rfl, Rows.nil _ _ _ _ _, Rows.nil _ _ _ _ _, fun m' hm' => (Option.some.inj hm').symm⟩

set_option maxRecDepth 3000 in
set_option maxHeartbeats 2000000 in
theorem swrite_epoch {k : Nat → Nat} {w : World} {px : Nat} {r : VR} {i o : Nat} {s : XSeg} {c0 : Option Addr} {c1 c2 : Nat} (h : SegW k w px r i o s (.slice c0 c1 c2)) (hc : CutsIm k w (.slice c0 c1 c2) s.cuts) (_hcl : s.cuts.length ≤ 1000) (m : Msg) (z0 y0 : Option Addr) (z1 z2 y1 y2 : Nat) (hlt : ¬ m.epoch < s.epoch) (hne : m.epoch ≠ s.epoch) :
    Calls Tryz.prog 132 #[.pointer (some ⟨px, o, none⟩), .agg #[.int .i64 m.kind, .int .i64 m.frm, .int .i64 m.to_, .int .i64 m.epoch, .int .i64 m.lsn, .int .i64 m.value, .int .i64 m.scl, .slice z0 z1 z2, .slice y0 y1 y2]] w fun e w' => ∃ v, e = .returned v ∧ SegOut k w w' px r i o (s.write m).1 (fun k' => OAns k' w' (s.write m).2 v) := by
  have hk := h.col
  have hbl := h.lt
  have hbn : ¬ px = w.heap.size := by omega
  have hbn1 : ¬ px = w.heap.size + 1 := by omega
  obtain ⟨mk, mf, mt, m3, m4, m5, m6, mc, mm⟩ := m
  dsimp only at *
  have HW := hide h
  have HC := hide hc
  have q1 : w.cell? ⟨px, o + 1, none⟩ = some (.int .i64 s.epoch) := h.at_.cell 1 (by omega)
  have HE : Hid (s.write ⟨mk, mf, mt, m3, m4, m5, m6, mc, mm⟩ = (s, none)) := hide (by unfold XSeg.write; rw [if_neg hlt, if_pos (.inl hne)])
  have hd : decide (m3 < s.epoch) = false := by simpa using hlt
  have hd2 : (m3 != s.epoch) = true := by simpa using hne
  clear h hc hlt hne
  rw [HE.out]
  dsimp only
  go_enter Tryz.func132, Tryz.ntmps132
  go_wp2_with fail
  obtain ⟨W0, hW0⟩ : ∃ W0, W0 = (w.alloc (Obj.cells #[.int .i64 mk, .int .i64 mf, .int .i64 mt, .int .i64 m3, .int .i64 m4, .int .i64 m5, .int .i64 m6, .slice z0 z1 z2, .slice y0 y1 y2] 109)).alloc (Obj.cells #[.int .i64 0, .int .i64 0, .int .i64 0, .int .i64 0, .int .i64 0, .int .i64 0, .int .i64 0, .slice none 0 0, .slice none 0 0] 109) := ⟨_, rfl⟩
  rw [← hW0]
  obtain ⟨bm0, br0, hb0, ev0⟩ := two_new w k [.int .i64 mk, .int .i64 mf, .int .i64 mt, .int .i64 m3, .int .i64 m4, .int .i64 m5, .int .i64 m6, .slice z0 z1 z2, .slice y0 y1 y2] [.int .i64 0, .int .i64 0, .int .i64 0, .int .i64 0, .int .i64 0, .int .i64 0, .int .i64 0, .slice none 0 0, .slice none 0 0] 109 109
  rw [show (w.alloc (Obj.cells ([.int .i64 mk, .int .i64 mf, .int .i64 mt, .int .i64 m3, .int .i64 m4, .int .i64 m5, .int .i64 m6, .slice z0 z1 z2, .slice y0 y1 y2] : List Value).toArray 109)).alloc (Obj.cells ([.int .i64 0, .int .i64 0, .int .i64 0, .int .i64 0, .int .i64 0, .int .i64 0, .int .i64 0, .slice none 0 0, .slice none 0 0] : List Value).toArray 109) = W0 from hW0.symm] at bm0 br0 hb0 ev0
  obtain ⟨kn, hkn⟩ : ∃ kn, kn = kNew k w.heap.size := ⟨_, rfl⟩
  rw [← hkn] at bm0 br0 ev0
  have HH := hide (And.intro hW0 hkn)
  have hkpx : kn px = cX := by rw [hkn, kNew_old _ _ _ hbl]; exact hk
  have hk1 : kn (w.heap.size + 1) = 0 := by rw [hkn]; exact kNew_two _ _ _ (by omega) (by omega)
  clear hW0 hkn
  have p1 : W0.cell? ⟨px, o + 1, none⟩ = some (.int .i64 s.epoch) := (hb0.cell (p := ⟨px, o + 1, none⟩) hbl).trans q1
  have b3 : W0.cell? ⟨w.heap.size, 3, none⟩ = some (.int .i64 m3) := bm0.cell 3
  have bl0 := bm0.lt
  have bl1 := br0.lt
  have hpl : px < W0.heap.size := Nat.lt_of_lt_of_le hbl hb0.size
  go_quiet (fail)
  have eq : Evo kn kn noC W0 (W0.drewN nq) := (Evo.refl kn noC W0).drewN nq
  have bm9 := bm0.evo eq (noC_not _)
  have br9 := br0.evo eq (noC_not _)
  have ev9 := ev0.drewN nq
  have hb9 : Below w.heap.size w (W0.drewN nq) := ⟨hb0.os, hb0.tape, hb0.output, hb0.size, hb0.block⟩
  clear eq bm0 br0 ev0 hb0 p1 b3 bl0 bl1 hpl HH
  generalize W0.drewN nq = W9 at *
  have hS9 : SegW kn W9 px r i o s (.slice c0 c1 c2) := HW.out.then_below hb9 hbl hkpx
  have hpl := hS9.lt
  have bl0 := bm9.lt
  have bl1 := br9.lt
  have HK : Hid (∀ W, Below W9.heap.size W9 W → Evo k kn (fun c => c = cX) w W ∧ SegW kn W px r i o s (.slice c0 c1 c2) ∧ Blk kn W 0 w.heap.size 109 [.int .i64 mk, .int .i64 mf, .int .i64 mt, .int .i64 m3, .int .i64 m4, .int .i64 m5, .int .i64 m6, .slice z0 z1 z2, .slice y0 y1 y2] ∧ Blk kn W 0 (w.heap.size + 1) 109 [.int .i64 0, .int .i64 0, .int .i64 0, .int .i64 0, .int .i64 0, .int .i64 0, .int .i64 0, .slice none 0 0, .slice none 0 0] ∧ (W.cell? ⟨w.heap.size, 3, none⟩ = some (.int .i64 m3) ∧ W.cell? ⟨px, o + 1, none⟩ = some (.int .i64 s.epoch) ∧ W.cell? ⟨px, o + 2, none⟩ = some (.slice c0 c1 c2))) := hide fun W hW => by
    have e0 : Evo kn kn noC W9 W := Evo.of_below hW
    have a := hS9.evo e0 (noC_not _)
    have b := bm9.evo e0 (noC_not _)
    exact ⟨ev9.trans (Evo.of_below hW), a, b, br9.evo e0 (noC_not _), b.cell 3, a.at_.cell 1 (by omega), a.at_.cell 2 (by omega)⟩
  have b3 : W9.cell? ⟨w.heap.size, 3, none⟩ = some (.int .i64 m3) := bm9.cell 3
  have p1 : W9.cell? ⟨px, o + 1, none⟩ = some (.int .i64 s.epoch) := hS9.at_.cell 1 (by omega)
  have p2 : W9.cell? ⟨px, o + 2, none⟩ = some (.slice c0 c1 c2) := hS9.at_.cell 2 (by omega)
  clear bm9 br9 ev9 hS9
  go_wp2_with fail
  go_quiet (fail)
  have H5 := hide (HK.out (W9.drewN nq) (below_drewN (Below.refl _ _) _))
  clear hpl bl0 bl1 b3 p1 p2
  generalize W9.drewN nq = w5 at *
  obtain ⟨⟨r0, r1, r2, r3, r4, r5, r6, r7, r8⟩, ⟨f0, f1, f2, f3, f4, f5, f6, f7, f8⟩, hlr⟩ := cells9m H5.out.2.2.2.1.1
  go_wp2_with fail
  refine bodyPost_ret (v := .tuple #[.agg #[.int .i64 0, .int .i64 0, .int .i64 0, .int .i64 0, .int .i64 0, .int .i64 0, .int .i64 0, .slice none 0 0, .slice none 0 0], .bool false]) (by simp [results, Tryz.results132, go_sem, r0, r1, r2, r3, r4, r5, r6, r7, r8]) rfl ⟨_, rfl, ?_⟩
  exact SegOut.answer H5.out.1 H5.out.2.1 (HC.out.evo H5.out.1 (by decide)) hbl _ _ _ _ _ _ _ _ _ hk1 (OAns.none _ _)

set_option maxRecDepth 3000 in
set_option maxHeartbeats 2000000 in
theorem swrite_top {k : Nat → Nat} {w : World} {px : Nat} {r : VR} {i o : Nat} {s : XSeg} {c0 : Option Addr} {c1 c2 : Nat} (h : SegW k w px r i o s (.slice c0 c1 c2)) (hc : CutsIm k w (.slice c0 c1 c2) s.cuts) (hcl : s.cuts.length ≤ 1000) (m : Msg) (z0 y0 : Option Addr) (z1 z2 y1 y2 : Nat) (hlt : ¬ m.epoch < s.epoch) (hne : m.epoch = s.epoch) (htn : m.epoch ≠ topOf s.cuts) :
    Calls Tryz.prog 132 #[.pointer (some ⟨px, o, none⟩), .agg #[.int .i64 m.kind, .int .i64 m.frm, .int .i64 m.to_, .int .i64 m.epoch, .int .i64 m.lsn, .int .i64 m.value, .int .i64 m.scl, .slice z0 z1 z2, .slice y0 y1 y2]] w fun e w' => ∃ v, e = .returned v ∧ SegOut k w w' px r i o (s.write m).1 (fun k' => OAns k' w' (s.write m).2 v) := by
  have hk := h.col
  have hbl := h.lt
  have hbn : ¬ px = w.heap.size := by omega
  have hbn1 : ¬ px = w.heap.size + 1 := by omega
  obtain ⟨mk, mf, mt, m3, m4, m5, m6, mc, mm⟩ := m
  dsimp only at *
  have HW := hide h
  have HC := hide hc
  have q1 : w.cell? ⟨px, o + 1, none⟩ = some (.int .i64 s.epoch) := h.at_.cell 1 (by omega)
  obtain ⟨tp, htp⟩ : ∃ tp, tp = topOf s.cuts := ⟨_, rfl⟩
  have HTP := hide htp
  have HE : Hid (s.write ⟨mk, mf, mt, m3, m4, m5, m6, mc, mm⟩ = (s, none)) := hide (by unfold XSeg.write; rw [if_neg hlt, if_pos (.inr htn)])
  have hd : decide (m3 < s.epoch) = false := by simpa using hlt
  have hd2 : (m3 != s.epoch) = false := by simpa using hne
  have hd3 : (m3 != tp) = true := by rw [htp]; simpa using htn
  clear h hc hlt hne htn htp
  rw [HE.out]
  dsimp only
  go_enter Tryz.func132, Tryz.ntmps132
  go_wp2_with fail
  obtain ⟨W0, hW0⟩ : ∃ W0, W0 = (w.alloc (Obj.cells #[.int .i64 mk, .int .i64 mf, .int .i64 mt, .int .i64 m3, .int .i64 m4, .int .i64 m5, .int .i64 m6, .slice z0 z1 z2, .slice y0 y1 y2] 109)).alloc (Obj.cells #[.int .i64 0, .int .i64 0, .int .i64 0, .int .i64 0, .int .i64 0, .int .i64 0, .int .i64 0, .slice none 0 0, .slice none 0 0] 109) := ⟨_, rfl⟩
  rw [← hW0]
  obtain ⟨bm0, br0, hb0, ev0⟩ := two_new w k [.int .i64 mk, .int .i64 mf, .int .i64 mt, .int .i64 m3, .int .i64 m4, .int .i64 m5, .int .i64 m6, .slice z0 z1 z2, .slice y0 y1 y2] [.int .i64 0, .int .i64 0, .int .i64 0, .int .i64 0, .int .i64 0, .int .i64 0, .int .i64 0, .slice none 0 0, .slice none 0 0] 109 109
  rw [show (w.alloc (Obj.cells ([.int .i64 mk, .int .i64 mf, .int .i64 mt, .int .i64 m3, .int .i64 m4, .int .i64 m5, .int .i64 m6, .slice z0 z1 z2, .slice y0 y1 y2] : List Value).toArray 109)).alloc (Obj.cells ([.int .i64 0, .int .i64 0, .int .i64 0, .int .i64 0, .int .i64 0, .int .i64 0, .int .i64 0, .slice none 0 0, .slice none 0 0] : List Value).toArray 109) = W0 from hW0.symm] at bm0 br0 hb0 ev0
  obtain ⟨kn, hkn⟩ : ∃ kn, kn = kNew k w.heap.size := ⟨_, rfl⟩
  rw [← hkn] at bm0 br0 ev0
  have HH := hide (And.intro hW0 hkn)
  have hkpx : kn px = cX := by rw [hkn, kNew_old _ _ _ hbl]; exact hk
  have hk1 : kn (w.heap.size + 1) = 0 := by rw [hkn]; exact kNew_two _ _ _ (by omega) (by omega)
  clear hW0 hkn
  have p1 : W0.cell? ⟨px, o + 1, none⟩ = some (.int .i64 s.epoch) := (hb0.cell (p := ⟨px, o + 1, none⟩) hbl).trans q1
  have b3 : W0.cell? ⟨w.heap.size, 3, none⟩ = some (.int .i64 m3) := bm0.cell 3
  have bl0 := bm0.lt
  have bl1 := br0.lt
  have hpl : px < W0.heap.size := Nat.lt_of_lt_of_le hbl hb0.size
  go_quiet (fail)
  have eq : Evo kn kn noC W0 (W0.drewN nq) := (Evo.refl kn noC W0).drewN nq
  have bm9 := bm0.evo eq (noC_not _)
  have br9 := br0.evo eq (noC_not _)
  have ev9 := ev0.drewN nq
  have hb9 : Below w.heap.size w (W0.drewN nq) := ⟨hb0.os, hb0.tape, hb0.output, hb0.size, hb0.block⟩
  clear eq bm0 br0 ev0 hb0 p1 b3 bl0 bl1 hpl HH
  generalize W0.drewN nq = W9 at *
  have hS9 : SegW kn W9 px r i o s (.slice c0 c1 c2) := HW.out.then_below hb9 hbl hkpx
  have hpl := hS9.lt
  have bl0 := bm9.lt
  have bl1 := br9.lt
  have HK : Hid (∀ W, Below W9.heap.size W9 W → Evo k kn (fun c => c = cX) w W ∧ SegW kn W px r i o s (.slice c0 c1 c2) ∧ Blk kn W 0 w.heap.size 109 [.int .i64 mk, .int .i64 mf, .int .i64 mt, .int .i64 m3, .int .i64 m4, .int .i64 m5, .int .i64 m6, .slice z0 z1 z2, .slice y0 y1 y2] ∧ Blk kn W 0 (w.heap.size + 1) 109 [.int .i64 0, .int .i64 0, .int .i64 0, .int .i64 0, .int .i64 0, .int .i64 0, .int .i64 0, .slice none 0 0, .slice none 0 0] ∧ (W.cell? ⟨w.heap.size, 3, none⟩ = some (.int .i64 m3) ∧ W.cell? ⟨px, o + 1, none⟩ = some (.int .i64 s.epoch) ∧ W.cell? ⟨px, o + 2, none⟩ = some (.slice c0 c1 c2))) := hide fun W hW => by
    have e0 : Evo kn kn noC W9 W := Evo.of_below hW
    have a := hS9.evo e0 (noC_not _)
    have b := bm9.evo e0 (noC_not _)
    exact ⟨ev9.trans (Evo.of_below hW), a, b, br9.evo e0 (noC_not _), b.cell 3, a.at_.cell 1 (by omega), a.at_.cell 2 (by omega)⟩
  have HTOP : Hid (∀ W, W.heap = W9.heap → Calls Tryz.prog 110 #[.slice c0 c1 c2] W fun e w' => e = .returned (.int .i64 tp) ∧ w' = W) := hide fun W hW => by
    rw [HTP.out]
    exact xtop_any (Rows.of_heap hW (HC.out.evo ev9 (by decide))) (by omega)
  have b3 : W9.cell? ⟨w.heap.size, 3, none⟩ = some (.int .i64 m3) := bm9.cell 3
  have p1 : W9.cell? ⟨px, o + 1, none⟩ = some (.int .i64 s.epoch) := hS9.at_.cell 1 (by omega)
  have p2 : W9.cell? ⟨px, o + 2, none⟩ = some (.slice c0 c1 c2) := hS9.at_.cell 2 (by omega)
  clear bm9 br9 ev9 hS9
  go_wp2_with fail
  go_quiet ((go_at_call 110; exact Calls.quiet_of_same (HTOP.out _ rfl)))
  have H5 := hide (HK.out (W9.drewN nq) (below_drewN (Below.refl _ _) _))
  clear hpl bl0 bl1 b3 p1 p2
  generalize W9.drewN nq = w5 at *
  obtain ⟨⟨r0, r1, r2, r3, r4, r5, r6, r7, r8⟩, ⟨f0, f1, f2, f3, f4, f5, f6, f7, f8⟩, hlr⟩ := cells9m H5.out.2.2.2.1.1
  go_wp2_with fail
  refine bodyPost_ret (v := .tuple #[.agg #[.int .i64 0, .int .i64 0, .int .i64 0, .int .i64 0, .int .i64 0, .int .i64 0, .int .i64 0, .slice none 0 0, .slice none 0 0], .bool false]) (by simp [results, Tryz.results132, go_sem, r0, r1, r2, r3, r4, r5, r6, r7, r8]) rfl ⟨_, rfl, ?_⟩
  exact SegOut.answer H5.out.1 H5.out.2.1 (HC.out.evo H5.out.1 (by decide)) hbl _ _ _ _ _ _ _ _ _ hk1 (OAns.none _ _)

set_option maxRecDepth 3000 in
set_option maxHeartbeats 2000000 in
theorem swrite_kept {k : Nat → Nat} {w : World} {px : Nat} {r : VR} {i o : Nat} {s : XSeg} {c0 : Option Addr} {c1 c2 : Nat} (h : SegW k w px r i o s (.slice c0 c1 c2)) (hc : CutsIm k w (.slice c0 c1 c2) s.cuts) (hcl : s.cuts.length ≤ 1000) (m : Msg) (z0 y0 : Option Addr) (z1 z2 y1 y2 : Nat) (hlt : ¬ m.epoch < s.epoch) (hne : m.epoch = s.epoch) (htn : m.epoch = topOf s.cuts) (hst : (s.at_ m.lsn).1 = 2) :
    Calls Tryz.prog 132 #[.pointer (some ⟨px, o, none⟩), .agg #[.int .i64 m.kind, .int .i64 m.frm, .int .i64 m.to_, .int .i64 m.epoch, .int .i64 m.lsn, .int .i64 m.value, .int .i64 m.scl, .slice z0 z1 z2, .slice y0 y1 y2]] w fun e w' => ∃ v, e = .returned v ∧ SegOut k w w' px r i o (s.write m).1 (fun k' => OAns k' w' (s.write m).2 v) := by
  have hk := h.col
  have hbl := h.lt
  have hbn : ¬ px = w.heap.size := by omega
  have hbn1 : ¬ px = w.heap.size + 1 := by omega
  obtain ⟨mk, mf, mt, m3, m4, m5, m6, mc, mm⟩ := m
  dsimp only at *
  have HW := hide h
  have HC := hide hc
  have q1 : w.cell? ⟨px, o + 1, none⟩ = some (.int .i64 s.epoch) := h.at_.cell 1 (by omega)
  obtain ⟨tp, htp⟩ : ∃ tp, tp = topOf s.cuts := ⟨_, rfl⟩
  have HTP := hide htp
  have HE : Hid (s.write ⟨mk, mf, mt, m3, m4, m5, m6, mc, mm⟩ = (s, some (s.status mt mf))) := hide (by unfold XSeg.write; rw [if_neg hlt, if_neg (fun h => h.elim (fun a => a hne) (fun a => a htn)), if_pos hst])
  have hd : decide (m3 < s.epoch) = false := by simpa using hlt
  have hd2 : (m3 != s.epoch) = false := by simpa using hne
  have hd3 : (m3 != tp) = false := by rw [htp]; simpa using htn
  obtain ⟨p, hp⟩ : ∃ p, p = s.at_ m4 := ⟨_, rfl⟩
  rw [← hp] at hst
  have hd4 : (p.1 == 2) = true := by simpa using hst
  have HP := hide hp
  clear h hc hlt hne htn htp hp hst
  rw [HE.out]
  dsimp only
  go_enter Tryz.func132, Tryz.ntmps132
  go_wp2_with fail
  obtain ⟨W0, hW0⟩ : ∃ W0, W0 = (w.alloc (Obj.cells #[.int .i64 mk, .int .i64 mf, .int .i64 mt, .int .i64 m3, .int .i64 m4, .int .i64 m5, .int .i64 m6, .slice z0 z1 z2, .slice y0 y1 y2] 109)).alloc (Obj.cells #[.int .i64 0, .int .i64 0, .int .i64 0, .int .i64 0, .int .i64 0, .int .i64 0, .int .i64 0, .slice none 0 0, .slice none 0 0] 109) := ⟨_, rfl⟩
  rw [← hW0]
  obtain ⟨bm0, br0, hb0, ev0⟩ := two_new w k [.int .i64 mk, .int .i64 mf, .int .i64 mt, .int .i64 m3, .int .i64 m4, .int .i64 m5, .int .i64 m6, .slice z0 z1 z2, .slice y0 y1 y2] [.int .i64 0, .int .i64 0, .int .i64 0, .int .i64 0, .int .i64 0, .int .i64 0, .int .i64 0, .slice none 0 0, .slice none 0 0] 109 109
  rw [show (w.alloc (Obj.cells ([.int .i64 mk, .int .i64 mf, .int .i64 mt, .int .i64 m3, .int .i64 m4, .int .i64 m5, .int .i64 m6, .slice z0 z1 z2, .slice y0 y1 y2] : List Value).toArray 109)).alloc (Obj.cells ([.int .i64 0, .int .i64 0, .int .i64 0, .int .i64 0, .int .i64 0, .int .i64 0, .int .i64 0, .slice none 0 0, .slice none 0 0] : List Value).toArray 109) = W0 from hW0.symm] at bm0 br0 hb0 ev0
  obtain ⟨kn, hkn⟩ : ∃ kn, kn = kNew k w.heap.size := ⟨_, rfl⟩
  rw [← hkn] at bm0 br0 ev0
  have HH := hide (And.intro hW0 hkn)
  have hkpx : kn px = cX := by rw [hkn, kNew_old _ _ _ hbl]; exact hk
  have hk1 : kn (w.heap.size + 1) = 0 := by rw [hkn]; exact kNew_two _ _ _ (by omega) (by omega)
  clear hW0 hkn
  have p1 : W0.cell? ⟨px, o + 1, none⟩ = some (.int .i64 s.epoch) := (hb0.cell (p := ⟨px, o + 1, none⟩) hbl).trans q1
  have b3 : W0.cell? ⟨w.heap.size, 3, none⟩ = some (.int .i64 m3) := bm0.cell 3
  have bl0 := bm0.lt
  have bl1 := br0.lt
  have hpl : px < W0.heap.size := Nat.lt_of_lt_of_le hbl hb0.size
  go_quiet (fail)
  have eq : Evo kn kn noC W0 (W0.drewN nq) := (Evo.refl kn noC W0).drewN nq
  have bm9 := bm0.evo eq (noC_not _)
  have br9 := br0.evo eq (noC_not _)
  have ev9 := ev0.drewN nq
  have hb9 : Below w.heap.size w (W0.drewN nq) := ⟨hb0.os, hb0.tape, hb0.output, hb0.size, hb0.block⟩
  clear eq bm0 br0 ev0 hb0 p1 b3 bl0 bl1 hpl HH
  generalize W0.drewN nq = W9 at *
  have hS9 : SegW kn W9 px r i o s (.slice c0 c1 c2) := HW.out.then_below hb9 hbl hkpx
  have hpl := hS9.lt
  have bl0 := bm9.lt
  have bl1 := br9.lt
  have HK : Hid (∀ W, Below W9.heap.size W9 W → Evo k kn (fun c => c = cX) w W ∧ SegW kn W px r i o s (.slice c0 c1 c2) ∧ Blk kn W 0 w.heap.size 109 [.int .i64 mk, .int .i64 mf, .int .i64 mt, .int .i64 m3, .int .i64 m4, .int .i64 m5, .int .i64 m6, .slice z0 z1 z2, .slice y0 y1 y2] ∧ Blk kn W 0 (w.heap.size + 1) 109 [.int .i64 0, .int .i64 0, .int .i64 0, .int .i64 0, .int .i64 0, .int .i64 0, .int .i64 0, .slice none 0 0, .slice none 0 0] ∧ (W.cell? ⟨w.heap.size, 3, none⟩ = some (.int .i64 m3) ∧ W.cell? ⟨px, o + 1, none⟩ = some (.int .i64 s.epoch) ∧ W.cell? ⟨px, o + 2, none⟩ = some (.slice c0 c1 c2))) := hide fun W hW => by
    have e0 : Evo kn kn noC W9 W := Evo.of_below hW
    have a := hS9.evo e0 (noC_not _)
    have b := bm9.evo e0 (noC_not _)
    exact ⟨ev9.trans (Evo.of_below hW), a, b, br9.evo e0 (noC_not _), b.cell 3, a.at_.cell 1 (by omega), a.at_.cell 2 (by omega)⟩
  have HTOP : Hid (∀ W, W.heap = W9.heap → Calls Tryz.prog 110 #[.slice c0 c1 c2] W fun e w' => e = .returned (.int .i64 tp) ∧ w' = W) := hide fun W hW => by
    rw [HTP.out]
    exact xtop_any (Rows.of_heap hW (HC.out.evo ev9 (by decide))) (by omega)
  have b3 : W9.cell? ⟨w.heap.size, 3, none⟩ = some (.int .i64 m3) := bm9.cell 3
  have p1 : W9.cell? ⟨px, o + 1, none⟩ = some (.int .i64 s.epoch) := hS9.at_.cell 1 (by omega)
  have p2 : W9.cell? ⟨px, o + 2, none⟩ = some (.slice c0 c1 c2) := hS9.at_.cell 2 (by omega)
  clear bm9 br9 ev9 hS9
  go_wp2_with fail
  go_quiet ((go_at_call 110; exact Calls.quiet_of_same (HTOP.out _ rfl)))
  have H5 := hide (HK.out (W9.drewN nq) (below_drewN (Below.refl _ _) _))
  clear hpl bl0 bl1 b3 p1 p2
  generalize W9.drewN nq = w5 at *
  have HA : Hid (Calls Tryz.prog 108 #[.pointer (some ⟨px, o, none⟩), .int .i64 m4] w5 fun e w' => e = .returned (.agg #[.int .i64 p.1, .int .i64 p.2.1, .int .i64 p.2.2]) ∧ Below w5.heap.size w5 w') := hide (by have := sat_any H5.out.2.1.at_ m4; rw [← HP.out] at this; exact this)
  have b4 : w5.cell? ⟨w.heap.size, 4, none⟩ = some (.int .i64 m4) := H5.out.2.2.1.cell 4
  have bl5 := H5.out.2.2.1.lt
  go_wp2_with fail
  refine HA.out.mono ?_
  rintro e6 w6 ⟨rfl, hb6⟩
  have e06 : Evo kn kn noC w5 w6 := Evo.of_below hb6
  have H6 := hide (And.intro (H5.out.1.trans (Evo.of_below hb6)) (And.intro (H5.out.2.1.evo e06 (noC_not _)) (And.intro (H5.out.2.2.1.evo e06 (noC_not _)) (H5.out.2.2.2.1.evo e06 (noC_not _)))))
  have b1 : w6.cell? ⟨w.heap.size, 1, none⟩ = some (.int .i64 mf) := H6.out.2.2.1.cell 1
  have b2 : w6.cell? ⟨w.heap.size, 2, none⟩ = some (.int .i64 mt) := H6.out.2.2.1.cell 2
  have bl6 := H6.out.2.2.1.lt
  have HSt : Hid (∀ W, Below w6.heap.size w6 W → Calls Tryz.prog 111 #[.pointer (some ⟨px, o, none⟩), .int .i64 mt, .int .i64 mf] W fun e w' => e = .returned (.agg #[.int .i64 4, .int .i64 mt, .int .i64 mf, .int .i64 mf, .int .i64 0, .int .i64 0, .int .i64 (xscl s), .slice none 0 0, .slice none 0 0]) ∧ Below W.heap.size W w') := hide fun W hW => sstatus_any (H6.out.2.1.at_.below hW) mt mf
  clear hb6 e06 b4 bl5
  go_wp2_with fail
  have hb67 : Below w6.heap.size w6 (w6.alloc (Obj.cells #[.int .i64 p.1, .int .i64 p.2.1, .int .i64 p.2.2] 70)) := (Below.refl _ _).alloc (Nat.le_refl _) _
  refine (HSt.out _ hb67).mono ?_
  rintro e7 w7 ⟨rfl, hb7⟩
  have hb7x : Below w6.heap.size w6 w7 := hb67.trans (hb7.mono (by simp))
  obtain ⟨⟨r0, r1, r2, r3, r4, r5, r6, r7, r8⟩, ⟨f0, f1, f2, f3, f4, f5, f6, f7, f8⟩, hlr⟩ := cells9m (H6.out.2.2.2.evo (Evo.of_below (C := noC) hb7x) (noC_not _)).1
  have HF := hide (And.intro (H6.out.1.trans (Evo.of_below hb7x)) (H6.out.2.1.below hb7x))
  clear hb7 hb67 hb7x b1 b2 bl6
  go_wp2_with fail
  refine bodyPost_ret (v := .tuple #[.agg #[.int .i64 4, .int .i64 mt, .int .i64 mf, .int .i64 mf, .int .i64 0, .int .i64 0, .int .i64 (xscl s), .slice none 0 0, .slice none 0 0], .bool true]) (by simp [results, Tryz.results132, go_sem, r0, r1, r2, r3, r4, r5, r6, r7, r8]) rfl ⟨_, rfl, ?_⟩
  exact SegOut.answer HF.out.1 HF.out.2 (HC.out.evo HF.out.1 (by decide)) hbl _ _ _ _ _ _ _ _ _ hk1 ⟨s.status mt mf, none, 0, 0, none, 0, 0, rfl, Rows.nil _ _ _ _ _, Rows.nil _ _ _ _ _, fun m' hm' => (Option.some.inj hm').symm⟩

set_option maxRecDepth 3000 in
set_option maxHeartbeats 2000000 in
theorem swrite_take {k : Nat → Nat} {w : World} {px : Nat} {r : VR} {i o : Nat} {s : XSeg} {c0 : Option Addr} {c1 c2 : Nat} (h : SegW k w px r i o s (.slice c0 c1 c2)) (hc : CutsIm k w (.slice c0 c1 c2) s.cuts) (hcl : s.cuts.length ≤ 1000) (m : Msg) (z0 y0 : Option Addr) (z1 z2 y1 y2 : Nat) (hlt : ¬ m.epoch < s.epoch) (hne : m.epoch = s.epoch) (htn : m.epoch = topOf s.cuts) (hst : ¬ (s.at_ m.lsn).1 = 2) :
    Calls Tryz.prog 132 #[.pointer (some ⟨px, o, none⟩), .agg #[.int .i64 m.kind, .int .i64 m.frm, .int .i64 m.to_, .int .i64 m.epoch, .int .i64 m.lsn, .int .i64 m.value, .int .i64 m.scl, .slice z0 z1 z2, .slice y0 y1 y2]] w fun e w' => ∃ v, e = .returned v ∧ SegOut k w w' px r i o (s.write m).1 (fun k' => OAns k' w' (s.write m).2 v) := by
  have hk := h.col
  have hbl := h.lt
  have hbn : ¬ px = w.heap.size := by omega
  have hbn1 : ¬ px = w.heap.size + 1 := by omega
  obtain ⟨mk, mf, mt, m3, m4, m5, m6, mc, mm⟩ := m
  dsimp only at *
  have HW := hide h
  have HC := hide hc
  have q1 : w.cell? ⟨px, o + 1, none⟩ = some (.int .i64 s.epoch) := h.at_.cell 1 (by omega)
  obtain ⟨tp, htp⟩ : ∃ tp, tp = topOf s.cuts := ⟨_, rfl⟩
  have HTP := hide htp
  have HE : Hid (s.write ⟨mk, mf, mt, m3, m4, m5, m6, mc, mm⟩ = (s.take ⟨mk, mf, mt, m3, m4, m5, m6, mc, mm⟩, none)) := hide (by unfold XSeg.write; rw [if_neg hlt, if_neg (fun h => h.elim (fun a => a hne) (fun a => a htn)), if_neg hst])
  have hd : decide (m3 < s.epoch) = false := by simpa using hlt
  have hd2 : (m3 != s.epoch) = false := by simpa using hne
  have hd3 : (m3 != tp) = false := by rw [htp]; simpa using htn
  obtain ⟨p, hp⟩ : ∃ p, p = s.at_ m4 := ⟨_, rfl⟩
  rw [← hp] at hst
  have hd4 : (p.1 == 2) = false := by simpa using hst
  have HP := hide hp
  have hcuts : (s.take ⟨mk, mf, mt, m3, m4, m5, m6, mc, mm⟩).cuts = s.cuts := by unfold XSeg.take; split; rfl; split <;> rfl
  have HCs := hide hcuts
  clear h hc hlt hne htn htp hp hst hcuts
  rw [HE.out]
  dsimp only
  go_enter Tryz.func132, Tryz.ntmps132
  go_wp2_with fail
  obtain ⟨W0, hW0⟩ : ∃ W0, W0 = (w.alloc (Obj.cells #[.int .i64 mk, .int .i64 mf, .int .i64 mt, .int .i64 m3, .int .i64 m4, .int .i64 m5, .int .i64 m6, .slice z0 z1 z2, .slice y0 y1 y2] 109)).alloc (Obj.cells #[.int .i64 0, .int .i64 0, .int .i64 0, .int .i64 0, .int .i64 0, .int .i64 0, .int .i64 0, .slice none 0 0, .slice none 0 0] 109) := ⟨_, rfl⟩
  rw [← hW0]
  obtain ⟨bm0, br0, hb0, ev0⟩ := two_new w k [.int .i64 mk, .int .i64 mf, .int .i64 mt, .int .i64 m3, .int .i64 m4, .int .i64 m5, .int .i64 m6, .slice z0 z1 z2, .slice y0 y1 y2] [.int .i64 0, .int .i64 0, .int .i64 0, .int .i64 0, .int .i64 0, .int .i64 0, .int .i64 0, .slice none 0 0, .slice none 0 0] 109 109
  rw [show (w.alloc (Obj.cells ([.int .i64 mk, .int .i64 mf, .int .i64 mt, .int .i64 m3, .int .i64 m4, .int .i64 m5, .int .i64 m6, .slice z0 z1 z2, .slice y0 y1 y2] : List Value).toArray 109)).alloc (Obj.cells ([.int .i64 0, .int .i64 0, .int .i64 0, .int .i64 0, .int .i64 0, .int .i64 0, .int .i64 0, .slice none 0 0, .slice none 0 0] : List Value).toArray 109) = W0 from hW0.symm] at bm0 br0 hb0 ev0
  obtain ⟨kn, hkn⟩ : ∃ kn, kn = kNew k w.heap.size := ⟨_, rfl⟩
  rw [← hkn] at bm0 br0 ev0
  have HH := hide (And.intro hW0 hkn)
  have hkpx : kn px = cX := by rw [hkn, kNew_old _ _ _ hbl]; exact hk
  have hk1 : kn (w.heap.size + 1) = 0 := by rw [hkn]; exact kNew_two _ _ _ (by omega) (by omega)
  clear hW0 hkn
  have p1 : W0.cell? ⟨px, o + 1, none⟩ = some (.int .i64 s.epoch) := (hb0.cell (p := ⟨px, o + 1, none⟩) hbl).trans q1
  have b3 : W0.cell? ⟨w.heap.size, 3, none⟩ = some (.int .i64 m3) := bm0.cell 3
  have bl0 := bm0.lt
  have bl1 := br0.lt
  have hpl : px < W0.heap.size := Nat.lt_of_lt_of_le hbl hb0.size
  go_quiet (fail)
  have eq : Evo kn kn noC W0 (W0.drewN nq) := (Evo.refl kn noC W0).drewN nq
  have bm9 := bm0.evo eq (noC_not _)
  have br9 := br0.evo eq (noC_not _)
  have ev9 := ev0.drewN nq
  have hb9 : Below w.heap.size w (W0.drewN nq) := ⟨hb0.os, hb0.tape, hb0.output, hb0.size, hb0.block⟩
  clear eq bm0 br0 ev0 hb0 p1 b3 bl0 bl1 hpl HH
  generalize W0.drewN nq = W9 at *
  have hS9 : SegW kn W9 px r i o s (.slice c0 c1 c2) := HW.out.then_below hb9 hbl hkpx
  have hpl := hS9.lt
  have bl0 := bm9.lt
  have bl1 := br9.lt
  have HK : Hid (∀ W, Below W9.heap.size W9 W → Evo k kn (fun c => c = cX) w W ∧ SegW kn W px r i o s (.slice c0 c1 c2) ∧ Blk kn W 0 w.heap.size 109 [.int .i64 mk, .int .i64 mf, .int .i64 mt, .int .i64 m3, .int .i64 m4, .int .i64 m5, .int .i64 m6, .slice z0 z1 z2, .slice y0 y1 y2] ∧ Blk kn W 0 (w.heap.size + 1) 109 [.int .i64 0, .int .i64 0, .int .i64 0, .int .i64 0, .int .i64 0, .int .i64 0, .int .i64 0, .slice none 0 0, .slice none 0 0] ∧ (W.cell? ⟨w.heap.size, 3, none⟩ = some (.int .i64 m3) ∧ W.cell? ⟨px, o + 1, none⟩ = some (.int .i64 s.epoch) ∧ W.cell? ⟨px, o + 2, none⟩ = some (.slice c0 c1 c2))) := hide fun W hW => by
    have e0 : Evo kn kn noC W9 W := Evo.of_below hW
    have a := hS9.evo e0 (noC_not _)
    have b := bm9.evo e0 (noC_not _)
    exact ⟨ev9.trans (Evo.of_below hW), a, b, br9.evo e0 (noC_not _), b.cell 3, a.at_.cell 1 (by omega), a.at_.cell 2 (by omega)⟩
  have HTOP : Hid (∀ W, W.heap = W9.heap → Calls Tryz.prog 110 #[.slice c0 c1 c2] W fun e w' => e = .returned (.int .i64 tp) ∧ w' = W) := hide fun W hW => by
    rw [HTP.out]
    exact xtop_any (Rows.of_heap hW (HC.out.evo ev9 (by decide))) (by omega)
  have b3 : W9.cell? ⟨w.heap.size, 3, none⟩ = some (.int .i64 m3) := bm9.cell 3
  have p1 : W9.cell? ⟨px, o + 1, none⟩ = some (.int .i64 s.epoch) := hS9.at_.cell 1 (by omega)
  have p2 : W9.cell? ⟨px, o + 2, none⟩ = some (.slice c0 c1 c2) := hS9.at_.cell 2 (by omega)
  clear bm9 br9 ev9 hS9
  go_wp2_with fail
  go_quiet ((go_at_call 110; exact Calls.quiet_of_same (HTOP.out _ rfl)))
  have H5 := hide (HK.out (W9.drewN nq) (below_drewN (Below.refl _ _) _))
  clear hpl bl0 bl1 b3 p1 p2
  generalize W9.drewN nq = w5 at *
  have HA : Hid (Calls Tryz.prog 108 #[.pointer (some ⟨px, o, none⟩), .int .i64 m4] w5 fun e w' => e = .returned (.agg #[.int .i64 p.1, .int .i64 p.2.1, .int .i64 p.2.2]) ∧ Below w5.heap.size w5 w') := hide (by have := sat_any H5.out.2.1.at_ m4; rw [← HP.out] at this; exact this)
  have b4 : w5.cell? ⟨w.heap.size, 4, none⟩ = some (.int .i64 m4) := H5.out.2.2.1.cell 4
  have bl5 := H5.out.2.2.1.lt
  go_wp2_with fail
  refine HA.out.mono ?_
  rintro e6 w6 ⟨rfl, hb6⟩
  have e06 : Evo kn kn noC w5 w6 := Evo.of_below hb6
  have H6 := hide (And.intro (H5.out.1.trans (Evo.of_below hb6)) (And.intro (H5.out.2.1.evo e06 (noC_not _)) (And.intro (H5.out.2.2.1.evo e06 (noC_not _)) (H5.out.2.2.2.1.evo e06 (noC_not _)))))
  obtain ⟨⟨a0, a1, a2, a3, a4, a5, a6, a7, a8⟩, -, bl6⟩ := cells9m H6.out.2.2.1.1
  have bl6' := H6.out.2.2.2.lt
  have HTk : Hid (∀ W, Below w6.heap.size w6 W → Calls Tryz.prog 141 #[.pointer (some ⟨px, o, none⟩), .agg #[.int .i64 mk, .int .i64 mf, .int .i64 mt, .int .i64 m3, .int .i64 m4, .int .i64 m5, .int .i64 m6, .slice z0 z1 z2, .slice y0 y1 y2]] W fun e w' => e = .returned (.tuple #[]) ∧ Evo kn kn (fun c => c = cX) W w' ∧ SegW kn w' px r i o (s.take ⟨mk, mf, mt, m3, m4, m5, m6, mc, mm⟩) (.slice c0 c1 c2)) := hide fun W hW => stake_any (H6.out.2.1.below hW) ⟨mk, mf, mt, m3, m4, m5, m6, mc, mm⟩ z0 y0 z1 z2 y1 y2
  clear hb6 e06 b4 bl5
  go_wp2_with fail
  have hb67 : Below w6.heap.size w6 (w6.alloc (Obj.cells #[.int .i64 p.1, .int .i64 p.2.1, .int .i64 p.2.2] 70)) := (Below.refl _ _).alloc (Nat.le_refl _) _
  refine (HTk.out _ hb67).mono ?_
  rintro e7 w7 ⟨rfl, ev7, hS7⟩
  have ev67 : Evo kn kn (fun c => c = cX) w6 w7 := (Evo.of_below hb67).trans ev7
  obtain ⟨⟨r0, r1, r2, r3, r4, r5, r6, r7, r8⟩, ⟨f0, f1, f2, f3, f4, f5, f6, f7, f8⟩, hlr⟩ := cells9m (H6.out.2.2.2.evo ev67 (by decide)).1
  have HF := hide (And.intro (H6.out.1.trans ev67) hS7)
  clear hb67 ev7 hS7 ev67 a0 a1 a2 a3 a4 a5 a6 a7 a8 bl6
  go_wp2_with fail
  refine bodyPost_ret (v := .tuple #[.agg #[.int .i64 0, .int .i64 0, .int .i64 0, .int .i64 0, .int .i64 0, .int .i64 0, .int .i64 0, .slice none 0 0, .slice none 0 0], .bool false]) (by simp [results, Tryz.results132, go_sem, r0, r1, r2, r3, r4, r5, r6, r7, r8]) rfl ⟨_, rfl, ?_⟩
  exact SegOut.answer HF.out.1 HF.out.2 (by rw [HCs.out]; exact HC.out.evo HF.out.1 (by decide)) hbl _ _ _ _ _ _ _ _ _ hk1 (OAns.none _ _)

theorem swrite_any {k : Nat → Nat} {w : World} {px : Nat} {r : VR} {i o : Nat} {s : XSeg} {c0 : Option Addr} {c1 c2 : Nat} (h : SegW k w px r i o s (.slice c0 c1 c2)) (hc : CutsIm k w (.slice c0 c1 c2) s.cuts) (hcl : s.cuts.length ≤ 1000) (m : Msg) (z0 y0 : Option Addr) (z1 z2 y1 y2 : Nat) :
    Calls Tryz.prog 132 #[.pointer (some ⟨px, o, none⟩), .agg #[.int .i64 m.kind, .int .i64 m.frm, .int .i64 m.to_, .int .i64 m.epoch, .int .i64 m.lsn, .int .i64 m.value, .int .i64 m.scl, .slice z0 z1 z2, .slice y0 y1 y2]] w fun e w' => ∃ v, e = .returned v ∧ SegOut k w w' px r i o (s.write m).1 (fun k' => OAns k' w' (s.write m).2 v) := by
  by_cases h1 : m.epoch < s.epoch
  · exact swrite_ref h hc hcl m z0 y0 z1 z2 y1 y2 h1
  · by_cases h2 : m.epoch = s.epoch
    · by_cases h3 : m.epoch = topOf s.cuts
      · by_cases h4 : (s.at_ m.lsn).1 = 2
        · exact swrite_kept h hc hcl m z0 y0 z1 z2 y1 y2 h1 h2 h3 h4
        · exact swrite_take h hc hcl m z0 y0 z1 z2 y1 y2 h1 h2 h3 h4
      · exact swrite_top h hc hcl m z0 y0 z1 z2 y1 y2 h1 h2 h3
    · exact swrite_epoch h hc hcl m z0 y0 z1 z2 y1 y2 h1 h2
end Go.Proofs.YtfpbkghcjaonlaaGreat
