import Derived.Test.YtfpbkghcjaonlaaGreatJ29
import Derived.Test.YtfpbkghcjaonlaaGreatJ24
/-
  The program: a segment: Arrive.
-/
namespace Go.Proofs.YtfpbkghcjaonlaaGreat
open Go.RowKit

theorem MAns.evo {k k' : Nat → Nat} {w w' : World} {m : Msg} {v : Value} {C : Nat → Prop} (h : MAns k w m v) (g : Evo k k' C w w') (hi : ¬ C IM) : MAns k' w' m v := by
  obtain ⟨z0, z1, z2, y0, y1, y2, rfl, h1, h2⟩ := h
  exact ⟨z0, z1, z2, y0, y1, y2, rfl, h1.evo g hi, h2.evo g hi⟩
theorem OAns.evo {k k' : Nat → Nat} {w w' : World} {m : Option Msg} {v : Value} {C : Nat → Prop} (h : OAns k w m v) (g : Evo k k' C w w') (hi : ¬ C IM) : OAns k' w' m v := by
  obtain ⟨mm, z0, z1, z2, y0, y1, y2, rfl, h1, h2, h3⟩ := h
  exact ⟨mm, z0, z1, z2, y0, y1, y2, rfl, h1.evo g hi, h2.evo g hi, h3⟩

set_option maxRecDepth 3000 in
set_option maxHeartbeats 2000000 in
theorem sarrive_down {k : Nat → Nat} {w : World} {px : Nat} {r : VR} {i o : Nat} {s : XSeg} {c0 : Option Addr} {c1 c2 : Nat} (h : SegW k w px r i o s (.slice c0 c1 c2)) (hc : CutsIm k w (.slice c0 c1 c2) s.cuts) (m : Msg) (z0 y0 : Option Addr) (z1 z2 y1 y2 : Nat) (hup : s.up = false) :
    Calls Tryz.prog 124 #[.pointer (some ⟨px, o, none⟩), .agg #[.int .i64 m.kind, .int .i64 m.frm, .int .i64 m.to_, .int .i64 m.epoch, .int .i64 m.lsn, .int .i64 m.value, .int .i64 m.scl, .slice z0 z1 z2, .slice y0 y1 y2]] w fun e w' => ∃ v, e = .returned v ∧ SegOut k w w' px r i o (s.arrive m).1 (fun k' => OAns k' w' (s.arrive m).2 v) := by
  have hk := h.col
  have hbl := h.lt
  have hbn : ¬ px = w.heap.size := by omega
  have hbn1 : ¬ px = w.heap.size + 1 := by omega
  obtain ⟨mk, mf, mt, m3, m4, m5, m6, mc, mm⟩ := m
  dsimp only at *
  have HW := hide h
  have HC := hide hc
  obtain ⟨xo, hxo⟩ : ∃ xo, xo = s.arrive ⟨mk, mf, mt, m3, m4, m5, m6, mc, mm⟩ := ⟨_, rfl⟩
  rw [← hxo]
  have HE : Hid (xo = (s, none)) := hide (by rw [hxo]; unfold XSeg.arrive; rw [if_pos hup])
  clear h hc hxo
  obtain ⟨kn, hkn⟩ : ∃ kn, kn = kNew k w.heap.size := ⟨_, rfl⟩
  have hkpx : kn px = cX := by rw [hkn, kNew_old _ _ _ hbl]; exact hk
  have hk1 : kn (w.heap.size + 1) = 0 := by rw [hkn]; exact kNew_two _ _ _ (by omega) (by omega)
  go_enter Tryz.func124, Tryz.ntmps124
  go_upto_region 1 with (fail)
  obtain ⟨W0, hW0⟩ : ∃ W0, W0 = (w.alloc (Obj.cells #[.int .i64 mk, .int .i64 mf, .int .i64 mt, .int .i64 m3, .int .i64 m4, .int .i64 m5, .int .i64 m6, .slice z0 z1 z2, .slice y0 y1 y2] 109)).alloc (Obj.cells #[.int .i64 0, .int .i64 0, .int .i64 0, .int .i64 0, .int .i64 0, .int .i64 0, .int .i64 0, .slice none 0 0, .slice none 0 0] 109) := ⟨_, rfl⟩
  rw [← hW0]
  obtain ⟨bm0, br0, hb0, ev0⟩ := two_new w k [.int .i64 mk, .int .i64 mf, .int .i64 mt, .int .i64 m3, .int .i64 m4, .int .i64 m5, .int .i64 m6, .slice z0 z1 z2, .slice y0 y1 y2] [.int .i64 0, .int .i64 0, .int .i64 0, .int .i64 0, .int .i64 0, .int .i64 0, .int .i64 0, .slice none 0 0, .slice none 0 0] 109 109
  rw [show (w.alloc (Obj.cells ([.int .i64 mk, .int .i64 mf, .int .i64 mt, .int .i64 m3, .int .i64 m4, .int .i64 m5, .int .i64 m6, .slice z0 z1 z2, .slice y0 y1 y2] : List Value).toArray 109)).alloc (Obj.cells ([.int .i64 0, .int .i64 0, .int .i64 0, .int .i64 0, .int .i64 0, .int .i64 0, .int .i64 0, .slice none 0 0, .slice none 0 0] : List Value).toArray 109) = W0 from hW0.symm] at bm0 br0 hb0 ev0
  rw [← hkn] at bm0 br0 ev0
  have HH := hide (And.intro hW0 hkn)
  clear hW0 hkn
  have hS0 : SegW kn W0 px r i o s (.slice c0 c1 c2) := HW.out.then_below hb0 hbl hkpx
  have p0 : W0.cell? ⟨px, o, none⟩ = some (.bool s.up) := hS0.at_.cell 0 (by omega)
  rw [hup] at p0
  obtain ⟨⟨a0, a1, a2, a3, a4, a5, a6, a7, a8⟩, -, bl0⟩ := cells9m bm0.1
  have bl1 := br0.lt
  have hpl := hS0.lt
  obtain ⟨⟨r0, r1, r2, r3, r4, r5, r6, r7, r8⟩, ⟨f0, f1, f2, f3, f4, f5, f6, f7, f8⟩, hlr⟩ := cells9m br0.1
  have HX := hide (And.intro ev0 hS0)
  clear hS0 ev0 bm0 br0 hb0
  go_wp2_with fail
  refine bodyPost_ret (v := .tuple #[.agg #[.int .i64 0, .int .i64 0, .int .i64 0, .int .i64 0, .int .i64 0, .int .i64 0, .int .i64 0, .slice none 0 0, .slice none 0 0], .bool false]) (by simp [results, Tryz.results124, go_sem, r0, r1, r2, r3, r4, r5, r6, r7, r8]) rfl ⟨_, rfl, ?_⟩
  rw [HE.out]
  exact SegOut.at9 HX.out.1 HX.out.2 (HC.out.evo HX.out.1 (by decide)) hbl (by omega) _ _ _ _ _ _ _ _ _ hk1 (OAns.none _ _)

set_option maxRecDepth 3000 in
set_option maxHeartbeats 2000000 in
theorem sarrive_fence {k : Nat → Nat} {w : World} {px : Nat} {r : VR} {i o : Nat} {s : XSeg} {c0 : Option Addr} {c1 c2 : Nat} (h : SegW k w px r i o s (.slice c0 c1 c2)) (hc : CutsIm k w (.slice c0 c1 c2) s.cuts) (m : Msg) (z0 y0 : Option Addr) (z1 z2 y1 y2 : Nat) (hup : s.up = true) (hkd : m.kind = 1) :
    Calls Tryz.prog 124 #[.pointer (some ⟨px, o, none⟩), .agg #[.int .i64 m.kind, .int .i64 m.frm, .int .i64 m.to_, .int .i64 m.epoch, .int .i64 m.lsn, .int .i64 m.value, .int .i64 m.scl, .slice z0 z1 z2, .slice y0 y1 y2]] w fun e w' => ∃ v, e = .returned v ∧ SegOut k w w' px r i o (s.arrive m).1 (fun k' => OAns k' w' (s.arrive m).2 v) := by
  have hk := h.col
  have hbl := h.lt
  have hbn : ¬ px = w.heap.size := by omega
  have hbn1 : ¬ px = w.heap.size + 1 := by omega
  obtain ⟨mk, mf, mt, m3, m4, m5, m6, mc, mm⟩ := m
  dsimp only at *
  have HW := hide h
  have HC := hide hc
  obtain ⟨xo, hxo⟩ : ∃ xo, xo = s.arrive ⟨mk, mf, mt, m3, m4, m5, m6, mc, mm⟩ := ⟨_, rfl⟩
  rw [← hxo]
  subst hkd
  have HE : Hid (xo = ((s.fence ⟨1, mf, mt, m3, m4, m5, m6, mc, mm⟩).1, some (s.fence ⟨1, mf, mt, m3, m4, m5, m6, mc, mm⟩).2)) := hide (by rw [hxo]; exact Sim.arrive_1 hup rfl)
  clear h hc hxo
  obtain ⟨kn, hkn⟩ : ∃ kn, kn = kNew k w.heap.size := ⟨_, rfl⟩
  have hkpx : kn px = cX := by rw [hkn, kNew_old _ _ _ hbl]; exact hk
  have hk1 : kn (w.heap.size + 1) = 0 := by rw [hkn]; exact kNew_two _ _ _ (by omega) (by omega)
  go_enter Tryz.func124, Tryz.ntmps124
  go_upto_region 1 with (fail)
  obtain ⟨W0, hW0⟩ : ∃ W0, W0 = (w.alloc (Obj.cells #[.int .i64 1, .int .i64 mf, .int .i64 mt, .int .i64 m3, .int .i64 m4, .int .i64 m5, .int .i64 m6, .slice z0 z1 z2, .slice y0 y1 y2] 109)).alloc (Obj.cells #[.int .i64 0, .int .i64 0, .int .i64 0, .int .i64 0, .int .i64 0, .int .i64 0, .int .i64 0, .slice none 0 0, .slice none 0 0] 109) := ⟨_, rfl⟩
  rw [← hW0]
  obtain ⟨bm0, br0, hb0, ev0⟩ := two_new w k [.int .i64 1, .int .i64 mf, .int .i64 mt, .int .i64 m3, .int .i64 m4, .int .i64 m5, .int .i64 m6, .slice z0 z1 z2, .slice y0 y1 y2] [.int .i64 0, .int .i64 0, .int .i64 0, .int .i64 0, .int .i64 0, .int .i64 0, .int .i64 0, .slice none 0 0, .slice none 0 0] 109 109
  rw [show (w.alloc (Obj.cells ([.int .i64 1, .int .i64 mf, .int .i64 mt, .int .i64 m3, .int .i64 m4, .int .i64 m5, .int .i64 m6, .slice z0 z1 z2, .slice y0 y1 y2] : List Value).toArray 109)).alloc (Obj.cells ([.int .i64 0, .int .i64 0, .int .i64 0, .int .i64 0, .int .i64 0, .int .i64 0, .int .i64 0, .slice none 0 0, .slice none 0 0] : List Value).toArray 109) = W0 from hW0.symm] at bm0 br0 hb0 ev0
  rw [← hkn] at bm0 br0 ev0
  have HH := hide (And.intro hW0 hkn)
  clear hW0 hkn
  have hS0 : SegW kn W0 px r i o s (.slice c0 c1 c2) := HW.out.then_below hb0 hbl hkpx
  have p0 : W0.cell? ⟨px, o, none⟩ = some (.bool s.up) := hS0.at_.cell 0 (by omega)
  rw [hup] at p0
  obtain ⟨⟨a0, a1, a2, a3, a4, a5, a6, a7, a8⟩, -, bl0⟩ := cells9m bm0.1
  have bl1 := br0.lt
  have hpl := hS0.lt
  have HCall := hide (sfence_any hS0 (HC.out.evo ev0 (by decide)) ⟨1, mf, mt, m3, m4, m5, m6, mc, mm⟩ z0 y0 z1 z2 y1 y2)
  go_wp2_with fail
  refine HCall.out.mono ?_
  rintro e2 w2 HY
  obtain ⟨vv, rfl, k2, d0, d1, d2, ev2, hS2, hC2, hA2⟩ := HY
  obtain ⟨u0, u1, u2, v0, v1, v2, rfl, hz2, hy2⟩ := hA2
  have br2 := br0.evo ev2 (by decide)
  have hk2 : k2 (w.heap.size + 1) = 0 := br2.2
  obtain ⟨⟨r0, r1, r2, r3, r4, r5, r6, r7, r8⟩, ⟨f0, f1, f2, f3, f4, f5, f6, f7, f8⟩, hlr⟩ := cells9m br2.1
  have HX := hide (And.intro (ev0.trans ev2) (And.intro hS2 (And.intro hC2 (And.intro hz2 hy2))))
  clear ev2 hS2 hC2 hz2 hy2 br2 hS0 ev0 bm0 br0 hb0 a0 a1 a2 a3 a4 a5 a6 a7 a8 p0 bl0 bl1 hpl
  generalize (s.fence ⟨1, mf, mt, m3, m4, m5, m6, mc, mm⟩).1 = s2 at *
  generalize (s.fence ⟨1, mf, mt, m3, m4, m5, m6, mc, mm⟩).2 = ms at *
  obtain ⟨nk, nf, nt, n3, n4, n5, n6, nc, nm⟩ := ms
  dsimp only at *
  go_wp2_with fail
  refine bodyPost_ret (v := .tuple #[.agg #[.int .i64 nk, .int .i64 nf, .int .i64 nt, .int .i64 n3, .int .i64 n4, .int .i64 n5, .int .i64 n6, .slice u0 u1 u2, .slice v0 v1 v2], .bool true]) (by simp [results, Tryz.results124, go_sem, r0, r1, r2, r3, r4, r5, r6, r7, r8]) rfl ⟨_, rfl, ?_⟩
  rw [HE.out]
  obtain ⟨evf, hSf, hCf, hzf, hyf⟩ := HX.out
  have e9 := ev_set9 (w := w2) hk2 (.int .i64 nk) (.int .i64 nf) (.int .i64 nt) (.int .i64 n3) (.int .i64 n4) (.int .i64 n5) (.int .i64 n6) (.slice u0 u1 u2) (.slice v0 v1 v2)
  exact SegOut.at9 evf hSf hCf hbl (by omega) _ _ _ _ _ _ _ _ _ hk2 ⟨⟨nk, nf, nt, n3, n4, n5, n6, nc, nm⟩, u0, u1, u2, v0, v1, v2, rfl, hzf.evo e9 (by decide), hyf.evo e9 (by decide), fun m' hm' => (Option.some.inj hm').symm⟩

set_option maxRecDepth 3000 in
set_option maxHeartbeats 2000000 in
theorem sarrive_cut {k : Nat → Nat} {w : World} {px : Nat} {r : VR} {i o : Nat} {s : XSeg} {c0 : Option Addr} {c1 c2 : Nat} (h : SegW k w px r i o s (.slice c0 c1 c2)) (hc : CutsIm k w (.slice c0 c1 c2) s.cuts) (m : Msg) (z0 y0 : Option Addr) (z1 z2 y1 y2 : Nat) (hup : s.up = true) (hkd : m.kind = 3) (hcl : s.cuts.length ≤ 1000) (hcz : CutsIm k w (.slice z0 z1 z2) m.cuts) (hml : m.cuts.length ≤ 1000) :
    Calls Tryz.prog 124 #[.pointer (some ⟨px, o, none⟩), .agg #[.int .i64 m.kind, .int .i64 m.frm, .int .i64 m.to_, .int .i64 m.epoch, .int .i64 m.lsn, .int .i64 m.value, .int .i64 m.scl, .slice z0 z1 z2, .slice y0 y1 y2]] w fun e w' => ∃ v, e = .returned v ∧ SegOut k w w' px r i o (s.arrive m).1 (fun k' => OAns k' w' (s.arrive m).2 v) := by
  have hk := h.col
  have hbl := h.lt
  have hbn : ¬ px = w.heap.size := by omega
  have hbn1 : ¬ px = w.heap.size + 1 := by omega
  obtain ⟨mk, mf, mt, m3, m4, m5, m6, mc, mm⟩ := m
  dsimp only at *
  have HW := hide h
  have HC := hide hc
  obtain ⟨xo, hxo⟩ : ∃ xo, xo = s.arrive ⟨mk, mf, mt, m3, m4, m5, m6, mc, mm⟩ := ⟨_, rfl⟩
  rw [← hxo]
  subst hkd
  have HE : Hid (xo = ((s.cut ⟨3, mf, mt, m3, m4, m5, m6, mc, mm⟩).1, some (s.cut ⟨3, mf, mt, m3, m4, m5, m6, mc, mm⟩).2)) := hide (by rw [hxo]; exact Sim.arrive_3 hup rfl)
  clear h hc hxo
  obtain ⟨kn, hkn⟩ : ∃ kn, kn = kNew k w.heap.size := ⟨_, rfl⟩
  have hkpx : kn px = cX := by rw [hkn, kNew_old _ _ _ hbl]; exact hk
  have hk1 : kn (w.heap.size + 1) = 0 := by rw [hkn]; exact kNew_two _ _ _ (by omega) (by omega)
  go_enter Tryz.func124, Tryz.ntmps124
  go_upto_region 1 with (fail)
  obtain ⟨W0, hW0⟩ : ∃ W0, W0 = (w.alloc (Obj.cells #[.int .i64 3, .int .i64 mf, .int .i64 mt, .int .i64 m3, .int .i64 m4, .int .i64 m5, .int .i64 m6, .slice z0 z1 z2, .slice y0 y1 y2] 109)).alloc (Obj.cells #[.int .i64 0, .int .i64 0, .int .i64 0, .int .i64 0, .int .i64 0, .int .i64 0, .int .i64 0, .slice none 0 0, .slice none 0 0] 109) := ⟨_, rfl⟩
  rw [← hW0]
  obtain ⟨bm0, br0, hb0, ev0⟩ := two_new w k [.int .i64 3, .int .i64 mf, .int .i64 mt, .int .i64 m3, .int .i64 m4, .int .i64 m5, .int .i64 m6, .slice z0 z1 z2, .slice y0 y1 y2] [.int .i64 0, .int .i64 0, .int .i64 0, .int .i64 0, .int .i64 0, .int .i64 0, .int .i64 0, .slice none 0 0, .slice none 0 0] 109 109
  rw [show (w.alloc (Obj.cells ([.int .i64 3, .int .i64 mf, .int .i64 mt, .int .i64 m3, .int .i64 m4, .int .i64 m5, .int .i64 m6, .slice z0 z1 z2, .slice y0 y1 y2] : List Value).toArray 109)).alloc (Obj.cells ([.int .i64 0, .int .i64 0, .int .i64 0, .int .i64 0, .int .i64 0, .int .i64 0, .int .i64 0, .slice none 0 0, .slice none 0 0] : List Value).toArray 109) = W0 from hW0.symm] at bm0 br0 hb0 ev0
  rw [← hkn] at bm0 br0 ev0
  have HH := hide (And.intro hW0 hkn)
  clear hW0 hkn
  have hS0 : SegW kn W0 px r i o s (.slice c0 c1 c2) := HW.out.then_below hb0 hbl hkpx
  have p0 : W0.cell? ⟨px, o, none⟩ = some (.bool s.up) := hS0.at_.cell 0 (by omega)
  rw [hup] at p0
  obtain ⟨⟨a0, a1, a2, a3, a4, a5, a6, a7, a8⟩, -, bl0⟩ := cells9m bm0.1
  have bl1 := br0.lt
  have hpl := hS0.lt
  have HCall := hide (scut_any hS0 (HC.out.evo ev0 (by decide)) hcl ⟨3, mf, mt, m3, m4, m5, m6, mc, mm⟩ z0 y0 z1 z2 y1 y2 (hcz.evo ev0 (by decide)) hml)
  clear hcz
  go_wp2_with fail
  refine HCall.out.mono ?_
  rintro e2 w2 HY
  obtain ⟨vv, rfl, k2, d0, d1, d2, ev2, hS2, hC2, hA2⟩ := HY
  obtain ⟨u0, u1, u2, v0, v1, v2, rfl, hz2, hy2⟩ := hA2
  have br2 := br0.evo ev2 (by decide)
  have hk2 : k2 (w.heap.size + 1) = 0 := br2.2
  obtain ⟨⟨r0, r1, r2, r3, r4, r5, r6, r7, r8⟩, ⟨f0, f1, f2, f3, f4, f5, f6, f7, f8⟩, hlr⟩ := cells9m br2.1
  have HX := hide (And.intro (ev0.trans ev2) (And.intro hS2 (And.intro hC2 (And.intro hz2 hy2))))
  clear ev2 hS2 hC2 hz2 hy2 br2 hS0 ev0 bm0 br0 hb0 a0 a1 a2 a3 a4 a5 a6 a7 a8 p0 bl0 bl1 hpl
  generalize (s.cut ⟨3, mf, mt, m3, m4, m5, m6, mc, mm⟩).1 = s2 at *
  generalize (s.cut ⟨3, mf, mt, m3, m4, m5, m6, mc, mm⟩).2 = ms at *
  obtain ⟨nk, nf, nt, n3, n4, n5, n6, nc, nm⟩ := ms
  dsimp only at *
  go_wp2_with fail
  refine bodyPost_ret (v := .tuple #[.agg #[.int .i64 nk, .int .i64 nf, .int .i64 nt, .int .i64 n3, .int .i64 n4, .int .i64 n5, .int .i64 n6, .slice u0 u1 u2, .slice v0 v1 v2], .bool true]) (by simp [results, Tryz.results124, go_sem, r0, r1, r2, r3, r4, r5, r6, r7, r8]) rfl ⟨_, rfl, ?_⟩
  rw [HE.out]
  obtain ⟨evf, hSf, hCf, hzf, hyf⟩ := HX.out
  have e9 := ev_set9 (w := w2) hk2 (.int .i64 nk) (.int .i64 nf) (.int .i64 nt) (.int .i64 n3) (.int .i64 n4) (.int .i64 n5) (.int .i64 n6) (.slice u0 u1 u2) (.slice v0 v1 v2)
  exact SegOut.at9 evf hSf hCf hbl (by omega) _ _ _ _ _ _ _ _ _ hk2 ⟨⟨nk, nf, nt, n3, n4, n5, n6, nc, nm⟩, u0, u1, u2, v0, v1, v2, rfl, hzf.evo e9 (by decide), hyf.evo e9 (by decide), fun m' hm' => (Option.some.inj hm').symm⟩

set_option maxRecDepth 3000 in
set_option maxHeartbeats 2000000 in
theorem sarrive_write {k : Nat → Nat} {w : World} {px : Nat} {r : VR} {i o : Nat} {s : XSeg} {c0 : Option Addr} {c1 c2 : Nat} (h : SegW k w px r i o s (.slice c0 c1 c2)) (hc : CutsIm k w (.slice c0 c1 c2) s.cuts) (m : Msg) (z0 y0 : Option Addr) (z1 z2 y1 y2 : Nat) (hup : s.up = true) (hkd : m.kind = 6) (hcl : s.cuts.length ≤ 1000) :
    Calls Tryz.prog 124 #[.pointer (some ⟨px, o, none⟩), .agg #[.int .i64 m.kind, .int .i64 m.frm, .int .i64 m.to_, .int .i64 m.epoch, .int .i64 m.lsn, .int .i64 m.value, .int .i64 m.scl, .slice z0 z1 z2, .slice y0 y1 y2]] w fun e w' => ∃ v, e = .returned v ∧ SegOut k w w' px r i o (s.arrive m).1 (fun k' => OAns k' w' (s.arrive m).2 v) := by
  have hk := h.col
  have hbl := h.lt
  have hbn : ¬ px = w.heap.size := by omega
  have hbn1 : ¬ px = w.heap.size + 1 := by omega
  obtain ⟨mk, mf, mt, m3, m4, m5, m6, mc, mm⟩ := m
  dsimp only at *
  have HW := hide h
  have HC := hide hc
  obtain ⟨xo, hxo⟩ : ∃ xo, xo = s.arrive ⟨mk, mf, mt, m3, m4, m5, m6, mc, mm⟩ := ⟨_, rfl⟩
  rw [← hxo]
  subst hkd
  have HE : Hid (xo = s.write ⟨6, mf, mt, m3, m4, m5, m6, mc, mm⟩) := hide (by rw [hxo]; exact Sim.arrive_6 hup rfl)
  clear h hc hxo
  obtain ⟨kn, hkn⟩ : ∃ kn, kn = kNew k w.heap.size := ⟨_, rfl⟩
  have hkpx : kn px = cX := by rw [hkn, kNew_old _ _ _ hbl]; exact hk
  have hk1 : kn (w.heap.size + 1) = 0 := by rw [hkn]; exact kNew_two _ _ _ (by omega) (by omega)
  go_enter Tryz.func124, Tryz.ntmps124
  go_upto_region 1 with (fail)
  obtain ⟨W0, hW0⟩ : ∃ W0, W0 = (w.alloc (Obj.cells #[.int .i64 6, .int .i64 mf, .int .i64 mt, .int .i64 m3, .int .i64 m4, .int .i64 m5, .int .i64 m6, .slice z0 z1 z2, .slice y0 y1 y2] 109)).alloc (Obj.cells #[.int .i64 0, .int .i64 0, .int .i64 0, .int .i64 0, .int .i64 0, .int .i64 0, .int .i64 0, .slice none 0 0, .slice none 0 0] 109) := ⟨_, rfl⟩
  rw [← hW0]
  obtain ⟨bm0, br0, hb0, ev0⟩ := two_new w k [.int .i64 6, .int .i64 mf, .int .i64 mt, .int .i64 m3, .int .i64 m4, .int .i64 m5, .int .i64 m6, .slice z0 z1 z2, .slice y0 y1 y2] [.int .i64 0, .int .i64 0, .int .i64 0, .int .i64 0, .int .i64 0, .int .i64 0, .int .i64 0, .slice none 0 0, .slice none 0 0] 109 109
  rw [show (w.alloc (Obj.cells ([.int .i64 6, .int .i64 mf, .int .i64 mt, .int .i64 m3, .int .i64 m4, .int .i64 m5, .int .i64 m6, .slice z0 z1 z2, .slice y0 y1 y2] : List Value).toArray 109)).alloc (Obj.cells ([.int .i64 0, .int .i64 0, .int .i64 0, .int .i64 0, .int .i64 0, .int .i64 0, .int .i64 0, .slice none 0 0, .slice none 0 0] : List Value).toArray 109) = W0 from hW0.symm] at bm0 br0 hb0 ev0
  rw [← hkn] at bm0 br0 ev0
  have HH := hide (And.intro hW0 hkn)
  clear hW0 hkn
  have hS0 : SegW kn W0 px r i o s (.slice c0 c1 c2) := HW.out.then_below hb0 hbl hkpx
  have p0 : W0.cell? ⟨px, o, none⟩ = some (.bool s.up) := hS0.at_.cell 0 (by omega)
  rw [hup] at p0
  obtain ⟨⟨a0, a1, a2, a3, a4, a5, a6, a7, a8⟩, -, bl0⟩ := cells9m bm0.1
  have bl1 := br0.lt
  have hpl := hS0.lt
  have HCall := hide (swrite_any hS0 (HC.out.evo ev0 (by decide)) hcl ⟨6, mf, mt, m3, m4, m5, m6, mc, mm⟩ z0 y0 z1 z2 y1 y2)
  generalize s.write ⟨6, mf, mt, m3, m4, m5, m6, mc, mm⟩ = xw at *
  obtain ⟨s2, ow⟩ := xw
  dsimp only at *
  go_wp2_with fail
  refine HCall.out.mono ?_
  rintro e2 w2 HY
  obtain ⟨vv, rfl, k2, d0, d1, d2, ev2, hS2, hC2, hA2⟩ := HY
  obtain ⟨⟨nk, nf, nt, n3, n4, n5, n6, nc, nm⟩, u0, u1, u2, v0, v1, v2, rfl, hz2, hy2, hm2⟩ := hA2
  dsimp only at *
  have br2 := br0.evo ev2 (by decide)
  have hk2 : k2 (w.heap.size + 1) = 0 := br2.2
  obtain ⟨⟨r0, r1, r2, r3, r4, r5, r6, r7, r8⟩, ⟨f0, f1, f2, f3, f4, f5, f6, f7, f8⟩, hlr⟩ := cells9m br2.1
  have HX := hide (And.intro (ev0.trans ev2) (And.intro hS2 (And.intro hC2 (And.intro hz2 (And.intro hy2 hm2)))))
  clear ev2 hS2 hC2 hz2 hy2 br2 hS0 ev0 bm0 br0 hb0 hm2 a0 a1 a2 a3 a4 a5 a6 a7 a8 p0 bl0 bl1 hpl
  go_wp2_with fail
  refine bodyPost_ret (v := .tuple #[.agg #[.int .i64 nk, .int .i64 nf, .int .i64 nt, .int .i64 n3, .int .i64 n4, .int .i64 n5, .int .i64 n6, .slice u0 u1 u2, .slice v0 v1 v2], .bool ow.isSome]) (by simp [results, Tryz.results124, go_sem, r0, r1, r2, r3, r4, r5, r6, r7, r8]) rfl ⟨_, rfl, ?_⟩
  rw [HE.out]
  obtain ⟨evf, hSf, hCf, hzf, hyf, hmf⟩ := HX.out
  have e9 := ev_set9 (w := w2) hk2 (.int .i64 nk) (.int .i64 nf) (.int .i64 nt) (.int .i64 n3) (.int .i64 n4) (.int .i64 n5) (.int .i64 n6) (.slice u0 u1 u2) (.slice v0 v1 v2)
  exact SegOut.at9 evf hSf hCf hbl (by omega) _ _ _ _ _ _ _ _ _ hk2 ⟨⟨nk, nf, nt, n3, n4, n5, n6, nc, nm⟩, u0, u1, u2, v0, v1, v2, rfl, hzf.evo e9 (by decide), hyf.evo e9 (by decide), hmf⟩

set_option maxRecDepth 3000 in
set_option maxHeartbeats 2000000 in
theorem sarrive_give {k : Nat → Nat} {w : World} {px : Nat} {r : VR} {i o : Nat} {s : XSeg} {c0 : Option Addr} {c1 c2 : Nat} (h : SegW k w px r i o s (.slice c0 c1 c2)) (hc : CutsIm k w (.slice c0 c1 c2) s.cuts) (m : Msg) (z0 y0 : Option Addr) (z1 z2 y1 y2 : Nat) (hup : s.up = true) (hkd : m.kind = 7) :
    Calls Tryz.prog 124 #[.pointer (some ⟨px, o, none⟩), .agg #[.int .i64 m.kind, .int .i64 m.frm, .int .i64 m.to_, .int .i64 m.epoch, .int .i64 m.lsn, .int .i64 m.value, .int .i64 m.scl, .slice z0 z1 z2, .slice y0 y1 y2]] w fun e w' => ∃ v, e = .returned v ∧ SegOut k w w' px r i o (s.arrive m).1 (fun k' => OAns k' w' (s.arrive m).2 v) := by
  have hk := h.col
  have hbl := h.lt
  have hbn : ¬ px = w.heap.size := by omega
  have hbn1 : ¬ px = w.heap.size + 1 := by omega
  obtain ⟨mk, mf, mt, m3, m4, m5, m6, mc, mm⟩ := m
  dsimp only at *
  have HW := hide h
  have HC := hide hc
  obtain ⟨xo, hxo⟩ : ∃ xo, xo = s.arrive ⟨mk, mf, mt, m3, m4, m5, m6, mc, mm⟩ := ⟨_, rfl⟩
  rw [← hxo]
  subst hkd
  have HE : Hid (xo = (s, s.give ⟨7, mf, mt, m3, m4, m5, m6, mc, mm⟩)) := hide (by rw [hxo]; exact Sim.arrive_7 hup rfl)
  clear h hc hxo
  obtain ⟨kn, hkn⟩ : ∃ kn, kn = kNew k w.heap.size := ⟨_, rfl⟩
  have hkpx : kn px = cX := by rw [hkn, kNew_old _ _ _ hbl]; exact hk
  have hk1 : kn (w.heap.size + 1) = 0 := by rw [hkn]; exact kNew_two _ _ _ (by omega) (by omega)
  go_enter Tryz.func124, Tryz.ntmps124
  go_upto_region 1 with (fail)
  obtain ⟨W0, hW0⟩ : ∃ W0, W0 = (w.alloc (Obj.cells #[.int .i64 7, .int .i64 mf, .int .i64 mt, .int .i64 m3, .int .i64 m4, .int .i64 m5, .int .i64 m6, .slice z0 z1 z2, .slice y0 y1 y2] 109)).alloc (Obj.cells #[.int .i64 0, .int .i64 0, .int .i64 0, .int .i64 0, .int .i64 0, .int .i64 0, .int .i64 0, .slice none 0 0, .slice none 0 0] 109) := ⟨_, rfl⟩
  rw [← hW0]
  obtain ⟨bm0, br0, hb0, ev0⟩ := two_new w k [.int .i64 7, .int .i64 mf, .int .i64 mt, .int .i64 m3, .int .i64 m4, .int .i64 m5, .int .i64 m6, .slice z0 z1 z2, .slice y0 y1 y2] [.int .i64 0, .int .i64 0, .int .i64 0, .int .i64 0, .int .i64 0, .int .i64 0, .int .i64 0, .slice none 0 0, .slice none 0 0] 109 109
  rw [show (w.alloc (Obj.cells ([.int .i64 7, .int .i64 mf, .int .i64 mt, .int .i64 m3, .int .i64 m4, .int .i64 m5, .int .i64 m6, .slice z0 z1 z2, .slice y0 y1 y2] : List Value).toArray 109)).alloc (Obj.cells ([.int .i64 0, .int .i64 0, .int .i64 0, .int .i64 0, .int .i64 0, .int .i64 0, .int .i64 0, .slice none 0 0, .slice none 0 0] : List Value).toArray 109) = W0 from hW0.symm] at bm0 br0 hb0 ev0
  rw [← hkn] at bm0 br0 ev0
  have HH := hide (And.intro hW0 hkn)
  clear hW0 hkn
  have hS0 : SegW kn W0 px r i o s (.slice c0 c1 c2) := HW.out.then_below hb0 hbl hkpx
  have p0 : W0.cell? ⟨px, o, none⟩ = some (.bool s.up) := hS0.at_.cell 0 (by omega)
  rw [hup] at p0
  obtain ⟨⟨a0, a1, a2, a3, a4, a5, a6, a7, a8⟩, -, bl0⟩ := cells9m bm0.1
  have bl1 := br0.lt
  have hpl := hS0.lt
  have HCall := hide (sgive_any hS0.at_ ⟨7, mf, mt, m3, m4, m5, m6, mc, mm⟩ z0 y0 z1 z2 y1 y2)
  generalize s.give ⟨7, mf, mt, m3, m4, m5, m6, mc, mm⟩ = ow at *
  dsimp only at *
  go_wp2_with fail
  refine HCall.out.mono ?_
  rintro e2 w2 ⟨⟨vv, rfl, hA2⟩, hb2⟩
  obtain ⟨⟨nk, nf, nt, n3, n4, n5, n6, nc, nm⟩, u0, u1, u2, v0, v1, v2, rfl, hz2, hy2, hm2⟩ := hA2 kn w2
  dsimp only at *
  have ev2 : Evo kn kn (fun c => c = cX) W0 w2 := Evo.of_below hb2
  have br2 := br0.evo ev2 (by decide)
  obtain ⟨⟨r0, r1, r2, r3, r4, r5, r6, r7, r8⟩, ⟨f0, f1, f2, f3, f4, f5, f6, f7, f8⟩, hlr⟩ := cells9m br2.1
  have HX := hide (And.intro (ev0.trans ev2) (And.intro (hS0.below hb2) (And.intro hz2 (And.intro hy2 hm2))))
  clear ev2 hz2 hy2 br2 hS0 ev0 bm0 br0 hb0 hm2 hb2 hA2 a0 a1 a2 a3 a4 a5 a6 a7 a8 p0 bl0 bl1 hpl
  go_wp2_with fail
  refine bodyPost_ret (v := .tuple #[.agg #[.int .i64 nk, .int .i64 nf, .int .i64 nt, .int .i64 n3, .int .i64 n4, .int .i64 n5, .int .i64 n6, .slice u0 u1 u2, .slice v0 v1 v2], .bool ow.isSome]) (by simp [results, Tryz.results124, go_sem, r0, r1, r2, r3, r4, r5, r6, r7, r8]) rfl ⟨_, rfl, ?_⟩
  rw [HE.out]
  obtain ⟨evf, hSf, hzf, hyf, hmf⟩ := HX.out
  have e9 := ev_set9 (w := w2) hk1 (.int .i64 nk) (.int .i64 nf) (.int .i64 nt) (.int .i64 n3) (.int .i64 n4) (.int .i64 n5) (.int .i64 n6) (.slice u0 u1 u2) (.slice v0 v1 v2)
  exact SegOut.at9 evf hSf (HC.out.evo evf (by decide)) hbl (by omega) _ _ _ _ _ _ _ _ _ hk1 ⟨⟨nk, nf, nt, n3, n4, n5, n6, nc, nm⟩, u0, u1, u2, v0, v1, v2, rfl, hzf.evo e9 (by decide), hyf.evo e9 (by decide), hmf⟩

set_option maxRecDepth 3000 in
set_option maxHeartbeats 2000000 in
theorem sarrive_fill {k : Nat → Nat} {w : World} {px : Nat} {r : VR} {i o : Nat} {s : XSeg} {c0 : Option Addr} {c1 c2 : Nat} (h : SegW k w px r i o s (.slice c0 c1 c2)) (hc : CutsIm k w (.slice c0 c1 c2) s.cuts) (m : Msg) (z0 y0 : Option Addr) (z1 z2 y1 y2 : Nat) (hup : s.up = true) (hkd : m.kind = 8) (hcl : s.cuts.length ≤ 1000) :
    Calls Tryz.prog 124 #[.pointer (some ⟨px, o, none⟩), .agg #[.int .i64 m.kind, .int .i64 m.frm, .int .i64 m.to_, .int .i64 m.epoch, .int .i64 m.lsn, .int .i64 m.value, .int .i64 m.scl, .slice z0 z1 z2, .slice y0 y1 y2]] w fun e w' => ∃ v, e = .returned v ∧ SegOut k w w' px r i o (s.arrive m).1 (fun k' => OAns k' w' (s.arrive m).2 v) := by
  have hk := h.col
  have hbl := h.lt
  have hbn : ¬ px = w.heap.size := by omega
  have hbn1 : ¬ px = w.heap.size + 1 := by omega
  obtain ⟨mk, mf, mt, m3, m4, m5, m6, mc, mm⟩ := m
  dsimp only at *
  have HW := hide h
  have HC := hide hc
  obtain ⟨xo, hxo⟩ : ∃ xo, xo = s.arrive ⟨mk, mf, mt, m3, m4, m5, m6, mc, mm⟩ := ⟨_, rfl⟩
  rw [← hxo]
  subst hkd
  have HE : Hid (xo = (s.fill ⟨8, mf, mt, m3, m4, m5, m6, mc, mm⟩, none)) := hide (by rw [hxo]; exact Sim.arrive_8 hup rfl)
  have HCs : Hid ((s.fill ⟨8, mf, mt, m3, m4, m5, m6, mc, mm⟩).cuts = s.cuts) := hide (by unfold XSeg.fill XSeg.take; split; split; rfl; split <;> rfl; rfl)
  clear h hc hxo
  obtain ⟨kn, hkn⟩ : ∃ kn, kn = kNew k w.heap.size := ⟨_, rfl⟩
  have hkpx : kn px = cX := by rw [hkn, kNew_old _ _ _ hbl]; exact hk
  have hk1 : kn (w.heap.size + 1) = 0 := by rw [hkn]; exact kNew_two _ _ _ (by omega) (by omega)
  go_enter Tryz.func124, Tryz.ntmps124
  go_upto_region 1 with (fail)
  obtain ⟨W0, hW0⟩ : ∃ W0, W0 = (w.alloc (Obj.cells #[.int .i64 8, .int .i64 mf, .int .i64 mt, .int .i64 m3, .int .i64 m4, .int .i64 m5, .int .i64 m6, .slice z0 z1 z2, .slice y0 y1 y2] 109)).alloc (Obj.cells #[.int .i64 0, .int .i64 0, .int .i64 0, .int .i64 0, .int .i64 0, .int .i64 0, .int .i64 0, .slice none 0 0, .slice none 0 0] 109) := ⟨_, rfl⟩
  rw [← hW0]
  obtain ⟨bm0, br0, hb0, ev0⟩ := two_new w k [.int .i64 8, .int .i64 mf, .int .i64 mt, .int .i64 m3, .int .i64 m4, .int .i64 m5, .int .i64 m6, .slice z0 z1 z2, .slice y0 y1 y2] [.int .i64 0, .int .i64 0, .int .i64 0, .int .i64 0, .int .i64 0, .int .i64 0, .int .i64 0, .slice none 0 0, .slice none 0 0] 109 109
  rw [show (w.alloc (Obj.cells ([.int .i64 8, .int .i64 mf, .int .i64 mt, .int .i64 m3, .int .i64 m4, .int .i64 m5, .int .i64 m6, .slice z0 z1 z2, .slice y0 y1 y2] : List Value).toArray 109)).alloc (Obj.cells ([.int .i64 0, .int .i64 0, .int .i64 0, .int .i64 0, .int .i64 0, .int .i64 0, .int .i64 0, .slice none 0 0, .slice none 0 0] : List Value).toArray 109) = W0 from hW0.symm] at bm0 br0 hb0 ev0
  rw [← hkn] at bm0 br0 ev0
  have HH := hide (And.intro hW0 hkn)
  clear hW0 hkn
  have hS0 : SegW kn W0 px r i o s (.slice c0 c1 c2) := HW.out.then_below hb0 hbl hkpx
  have p0 : W0.cell? ⟨px, o, none⟩ = some (.bool s.up) := hS0.at_.cell 0 (by omega)
  rw [hup] at p0
  obtain ⟨⟨a0, a1, a2, a3, a4, a5, a6, a7, a8⟩, -, bl0⟩ := cells9m bm0.1
  have bl1 := br0.lt
  have hpl := hS0.lt
  have HCall := hide (sfill_any hS0 (HC.out.evo ev0 (by decide)) hcl ⟨8, mf, mt, m3, m4, m5, m6, mc, mm⟩ z0 y0 z1 z2 y1 y2)
  go_wp2_with fail
  refine HCall.out.mono ?_
  rintro e2 w2 ⟨rfl, ev2, hS2⟩
  have br2 := br0.evo ev2 (by decide)
  obtain ⟨⟨r0, r1, r2, r3, r4, r5, r6, r7, r8⟩, ⟨f0, f1, f2, f3, f4, f5, f6, f7, f8⟩, hlr⟩ := cells9m br2.1
  have HX := hide (And.intro (ev0.trans ev2) hS2)
  clear ev2 hS2 br2 hS0 ev0 bm0 br0 hb0 a0 a1 a2 a3 a4 a5 a6 a7 a8 p0 bl0 bl1 hpl
  go_wp2_with fail
  refine bodyPost_ret (v := .tuple #[.agg #[.int .i64 0, .int .i64 0, .int .i64 0, .int .i64 0, .int .i64 0, .int .i64 0, .int .i64 0, .slice none 0 0, .slice none 0 0], .bool false]) (by simp [results, Tryz.results124, go_sem, r0, r1, r2, r3, r4, r5, r6, r7, r8]) rfl ⟨_, rfl, ?_⟩
  rw [HE.out]
  exact SegOut.at9 HX.out.1 HX.out.2 (by rw [HCs.out]; exact HC.out.evo HX.out.1 (by decide)) hbl (by omega) _ _ _ _ _ _ _ _ _ hk1 (OAns.none _ _)

set_option maxRecDepth 3000 in
set_option maxHeartbeats 2000000 in
theorem sarrive_other {k : Nat → Nat} {w : World} {px : Nat} {r : VR} {i o : Nat} {s : XSeg} {c0 : Option Addr} {c1 c2 : Nat} (h : SegW k w px r i o s (.slice c0 c1 c2)) (hc : CutsIm k w (.slice c0 c1 c2) s.cuts) (m : Msg) (z0 y0 : Option Addr) (z1 z2 y1 y2 : Nat) (hup : s.up = true) (n1 : m.kind ≠ 1) (n3 : m.kind ≠ 3) (n6 : m.kind ≠ 6) (n7 : m.kind ≠ 7) (n8 : m.kind ≠ 8) :
    Calls Tryz.prog 124 #[.pointer (some ⟨px, o, none⟩), .agg #[.int .i64 m.kind, .int .i64 m.frm, .int .i64 m.to_, .int .i64 m.epoch, .int .i64 m.lsn, .int .i64 m.value, .int .i64 m.scl, .slice z0 z1 z2, .slice y0 y1 y2]] w fun e w' => ∃ v, e = .returned v ∧ SegOut k w w' px r i o (s.arrive m).1 (fun k' => OAns k' w' (s.arrive m).2 v) := by
  have hk := h.col
  have hbl := h.lt
  have hbn : ¬ px = w.heap.size := by omega
  have hbn1 : ¬ px = w.heap.size + 1 := by omega
  obtain ⟨mk, mf, mt, m3, m4, m5, m6, mc, mm⟩ := m
  dsimp only at *
  have HW := hide h
  have HC := hide hc
  obtain ⟨xo, hxo⟩ : ∃ xo, xo = s.arrive ⟨mk, mf, mt, m3, m4, m5, m6, mc, mm⟩ := ⟨_, rfl⟩
  rw [← hxo]
  have HE : Hid (xo = (s, none)) := hide (by rw [hxo]; unfold XSeg.arrive; rw [if_neg (by rw [hup]; simp), if_neg n1, if_neg n3, if_neg n6, if_neg n7, if_neg n8])
  have d1 : (mk == 1) = false := by simpa using n1
  have d3 : (mk == 3) = false := by simpa using n3
  have d6 : (mk == 6) = false := by simpa using n6
  have d7 : (mk == 7) = false := by simpa using n7
  have d8 : (mk == 8) = false := by simpa using n8
  clear h hc hxo n1 n3 n6 n7 n8
  obtain ⟨kn, hkn⟩ : ∃ kn, kn = kNew k w.heap.size := ⟨_, rfl⟩
  have hkpx : kn px = cX := by rw [hkn, kNew_old _ _ _ hbl]; exact hk
  have hk1 : kn (w.heap.size + 1) = 0 := by rw [hkn]; exact kNew_two _ _ _ (by omega) (by omega)
  go_enter Tryz.func124, Tryz.ntmps124
  go_upto_region 1 with (fail)
  obtain ⟨W0, hW0⟩ : ∃ W0, W0 = (w.alloc (Obj.cells #[.int .i64 mk, .int .i64 mf, .int .i64 mt, .int .i64 m3, .int .i64 m4, .int .i64 m5, .int .i64 m6, .slice z0 z1 z2, .slice y0 y1 y2] 109)).alloc (Obj.cells #[.int .i64 0, .int .i64 0, .int .i64 0, .int .i64 0, .int .i64 0, .int .i64 0, .int .i64 0, .slice none 0 0, .slice none 0 0] 109) := ⟨_, rfl⟩
  rw [← hW0]
  obtain ⟨bm0, br0, hb0, ev0⟩ := two_new w k [.int .i64 mk, .int .i64 mf, .int .i64 mt, .int .i64 m3, .int .i64 m4, .int .i64 m5, .int .i64 m6, .slice z0 z1 z2, .slice y0 y1 y2] [.int .i64 0, .int .i64 0, .int .i64 0, .int .i64 0, .int .i64 0, .int .i64 0, .int .i64 0, .slice none 0 0, .slice none 0 0] 109 109
  rw [show (w.alloc (Obj.cells ([.int .i64 mk, .int .i64 mf, .int .i64 mt, .int .i64 m3, .int .i64 m4, .int .i64 m5, .int .i64 m6, .slice z0 z1 z2, .slice y0 y1 y2] : List Value).toArray 109)).alloc (Obj.cells ([.int .i64 0, .int .i64 0, .int .i64 0, .int .i64 0, .int .i64 0, .int .i64 0, .int .i64 0, .slice none 0 0, .slice none 0 0] : List Value).toArray 109) = W0 from hW0.symm] at bm0 br0 hb0 ev0
  rw [← hkn] at bm0 br0 ev0
  have HH := hide (And.intro hW0 hkn)
  clear hW0 hkn
  have hS0 : SegW kn W0 px r i o s (.slice c0 c1 c2) := HW.out.then_below hb0 hbl hkpx
  have p0 : W0.cell? ⟨px, o, none⟩ = some (.bool s.up) := hS0.at_.cell 0 (by omega)
  rw [hup] at p0
  obtain ⟨⟨a0, a1, a2, a3, a4, a5, a6, a7, a8⟩, -, bl0⟩ := cells9m bm0.1
  have bl1 := br0.lt
  have hpl := hS0.lt
  obtain ⟨⟨r0, r1, r2, r3, r4, r5, r6, r7, r8⟩, ⟨f0, f1, f2, f3, f4, f5, f6, f7, f8⟩, hlr⟩ := cells9m br0.1
  have HX := hide (And.intro ev0 hS0)
  clear hS0 ev0 bm0 br0 hb0
  go_wp2_with fail
  refine bodyPost_ret (v := .tuple #[.agg #[.int .i64 0, .int .i64 0, .int .i64 0, .int .i64 0, .int .i64 0, .int .i64 0, .int .i64 0, .slice none 0 0, .slice none 0 0], .bool false]) (by simp [results, Tryz.results124, go_sem, r0, r1, r2, r3, r4, r5, r6, r7, r8]) rfl ⟨_, rfl, ?_⟩
  rw [HE.out]
  exact SegOut.at9 HX.out.1 HX.out.2 (HC.out.evo HX.out.1 (by decide)) hbl (by omega) _ _ _ _ _ _ _ _ _ hk1 (OAns.none _ _)

theorem sarrive_any {k : Nat → Nat} {w : World} {px : Nat} {r : VR} {i o : Nat} {s : XSeg} {c0 : Option Addr} {c1 c2 : Nat} (h : SegW k w px r i o s (.slice c0 c1 c2)) (hc : CutsIm k w (.slice c0 c1 c2) s.cuts) (hcl : s.cuts.length ≤ 1000) (m : Msg) (z0 y0 : Option Addr) (z1 z2 y1 y2 : Nat) (hcz : CutsIm k w (.slice z0 z1 z2) m.cuts) (hml : m.cuts.length ≤ 1000) :
    Calls Tryz.prog 124 #[.pointer (some ⟨px, o, none⟩), .agg #[.int .i64 m.kind, .int .i64 m.frm, .int .i64 m.to_, .int .i64 m.epoch, .int .i64 m.lsn, .int .i64 m.value, .int .i64 m.scl, .slice z0 z1 z2, .slice y0 y1 y2]] w fun e w' => ∃ v, e = .returned v ∧ SegOut k w w' px r i o (s.arrive m).1 (fun k' => OAns k' w' (s.arrive m).2 v) := by
  cases hup : s.up with
  | false => exact sarrive_down h hc m z0 y0 z1 z2 y1 y2 hup
  | true =>
    by_cases n1 : m.kind = 1
    · exact sarrive_fence h hc m z0 y0 z1 z2 y1 y2 hup n1
    · by_cases n3 : m.kind = 3
      · exact sarrive_cut h hc m z0 y0 z1 z2 y1 y2 hup n3 hcl hcz hml
      · by_cases n6 : m.kind = 6
        · exact sarrive_write h hc m z0 y0 z1 z2 y1 y2 hup n6 hcl
        · by_cases n7 : m.kind = 7
          · exact sarrive_give h hc m z0 y0 z1 z2 y1 y2 hup n7
          · by_cases n8 : m.kind = 8
            · exact sarrive_fill h hc m z0 y0 z1 z2 y1 y2 hup n8 hcl
            · exact sarrive_other h hc m z0 y0 z1 z2 y1 y2 hup n1 n3 n6 n7 n8
end Go.Proofs.YtfpbkghcjaonlaaGreat

/-
  The program: Crash, Restart.
-/
namespace Go.Proofs.YtfpbkghcjaonlaaGreat
open Go.RowKit

theorem segs6 {k : Nat → Nat} {w : World} {px : Nat} {x : XVol} (hx : XVolIs k w px x) : x.segs.length = 6 := by obtain ⟨_, _, _, _, _, _, hS, _⟩ := hx.ex; exact hS.l2

set_option maxRecDepth 3000 in
set_option maxHeartbeats 2000000 in
theorem xcrash_any {k : Nat → Nat} {w : World} {px : Nat} {x : XVol} (hx : XVolIs k w px x) (n : Int) :
    Calls Tryz.prog 40 #[.pointer (some ⟨px, 0, none⟩), .int .i64 n] w fun e w' => e = .returned (.int .i64 (x.crash n).2) ∧ ∃ k', Evo k k' cXS w w' ∧ XVolIs k' w' px (x.crash n).1 := by
  have h6 := segs6 hx
  have HI := hide (fun W => isSegment_any W n)
  by_cases hn : 0 ≤ n ∧ n < 6
  · rw [show (decide (0 ≤ n) && decide (n < 6)) = true from by simp; omega] at HI
    obtain ⟨i, rfl⟩ := Int.eq_ofNat_of_zero_le hn.1
    have hi6 : i < 6 := by omega
    obtain ⟨r, c0, c1, c2, hl, hS, hC, back⟩ := seg_write hx i hi6
    have hat : x.segAt (i : Int) = some x.segs[i] := by unfold XVol.segAt; rw [if_neg (by omega), Int.toNat_natCast, List.getElem?_eq_getElem hl]
    have hpl := hS.lt
    have hi6' : (i : Int) < 6 := by omega
    have hi0 : ¬ (i : Int) < 0 := by omega
    have HD := hide (sdown_any hS.at_)
    cases hu : x.segs[i].up
    · have HE : Hid (x.crash (i : Int) = (x, 9)) := hide (by unfold XVol.crash; rw [hat]; simp [hu])
      have HXV := hide hx
      rw [hu] at HD
      clear hx hS hC back hat hn hu
      go_enter Tryz.func40, Tryz.ntmps40
      go_wp2_with fail
      refine (HI.out _).mono ?_
      rintro e1 w1 ⟨rfl, hw⟩
      have hw2 := hw.symm
      subst hw2
      go_wp2_with fail
      refine HD.out.mono ?_
      rintro e1 w1 ⟨rfl, hw⟩
      have hw2 := hw.symm
      subst hw2
      go_wp2_with fail
      go_ret
      exact ⟨by rw [HE.out]; rfl, k, Evo.refl _ _ _, by rw [HE.out]; exact HXV.out⟩
    · have HE : Hid (x.crash (i : Int) = (x.setSeg i x.segs[i].crash, 0)) := hide (by unfold XVol.crash; rw [hat]; simp [hu])
      have HCr : Hid (Calls Tryz.prog 93 #[.pointer (some ⟨px, 3 + i * 123, none⟩)] w fun e w' => e = .returned (.tuple #[]) ∧ ∃ k', Evo k k' cXS w w' ∧ XVolIs k' w' px (x.setSeg i x.segs[i].crash)) := hide (by
        refine (scrash_any hS).mono ?_
        rintro e w' ⟨rfl, ev, hS'⟩
        exact ⟨rfl, k, ev.mono (fun c h => by unfold cX at h; unfold cXS; omega), back k w' _ _ ev hS' (hC.evo ev (by decide))⟩)
      rw [hu] at HD
      clear hx hS hC back hat hn hu
      go_enter Tryz.func40, Tryz.ntmps40
      go_wp2_with fail
      refine (HI.out _).mono ?_
      rintro e1 w1 ⟨rfl, hw⟩
      have hw2 := hw.symm
      subst hw2
      go_wp2_with fail
      refine HD.out.mono ?_
      rintro e1 w1 ⟨rfl, hw⟩
      have hw2 := hw.symm
      subst hw2
      go_wp2_with fail
      refine HCr.out.mono ?_
      rintro e1 w1 ⟨rfl, HY⟩
      go_wp2_with fail
      go_ret
      exact ⟨by rw [HE.out]; rfl, by rw [HE.out]; exact HY⟩
  · rw [show (decide (0 ≤ n) && decide (n < 6)) = false from by rw [Bool.and_eq_false_iff]; simp; omega] at HI
    have HE : Hid (x.crash n = (x, 11)) := hide (by
      unfold XVol.crash XVol.segAt
      by_cases h0 : n < 0
      · rw [if_pos h0]
      · rw [if_neg h0, List.getElem?_eq_none (by omega)])
    clear hn
    go_enter Tryz.func40, Tryz.ntmps40
    go_wp2_with fail
    refine (HI.out _).mono ?_
    rintro e1 w1 ⟨rfl, hw⟩
    have hw2 := hw.symm
    subst hw2
    go_wp2_with fail
    go_ret
    exact ⟨by rw [HE.out]; rfl, k, Evo.refl _ _ _, by rw [HE.out]; exact hx⟩

set_option maxRecDepth 3000 in
set_option maxHeartbeats 2000000 in
theorem xrestart_any {k : Nat → Nat} {w : World} {px : Nat} {x : XVol} (hx : XVolIs k w px x) (n : Int) :
    Calls Tryz.prog 42 #[.pointer (some ⟨px, 0, none⟩), .int .i64 n] w fun e w' => e = .returned (.int .i64 (x.restart n).2) ∧ ∃ k', Evo k k' cXS w w' ∧ XVolIs k' w' px (x.restart n).1 := by
  have h6 := segs6 hx
  have HI := hide (fun W => isSegment_any W n)
  by_cases hn : 0 ≤ n ∧ n < 6
  · rw [show (decide (0 ≤ n) && decide (n < 6)) = true from by simp; omega] at HI
    obtain ⟨i, rfl⟩ := Int.eq_ofNat_of_zero_le hn.1
    have hi6 : i < 6 := by omega
    obtain ⟨r, c0, c1, c2, hl, hS, hC, back⟩ := seg_write hx i hi6
    have hat : x.segAt (i : Int) = some x.segs[i] := by unfold XVol.segAt; rw [if_neg (by omega), Int.toNat_natCast, List.getElem?_eq_getElem hl]
    have hpl := hS.lt
    have hi6' : (i : Int) < 6 := by omega
    have hi0 : ¬ (i : Int) < 0 := by omega
    have HD := hide (sdown_any hS.at_)
    cases hu : x.segs[i].up
    · have HE : Hid (x.restart (i : Int) = (x.setSeg i x.segs[i].restart, 0)) := hide (by unfold XVol.restart; rw [hat]; simp [hu])
      have HCr : Hid (Calls Tryz.prog 94 #[.pointer (some ⟨px, 3 + i * 123, none⟩)] w fun e w' => e = .returned (.tuple #[]) ∧ ∃ k', Evo k k' cXS w w' ∧ XVolIs k' w' px (x.setSeg i x.segs[i].restart)) := hide (by
        refine (srestart_any hS).mono ?_
        rintro e w' ⟨rfl, ev, hS'⟩
        exact ⟨rfl, k, ev.mono (fun c h => by unfold cX at h; unfold cXS; omega), back k w' _ _ ev hS' (hC.evo ev (by decide))⟩)
      rw [hu] at HD
      clear hx hS hC back hat hn hu
      go_enter Tryz.func42, Tryz.ntmps42
      go_wp2_with fail
      refine (HI.out _).mono ?_
      rintro e1 w1 ⟨rfl, hw⟩
      have hw2 := hw.symm
      subst hw2
      go_wp2_with fail
      refine HD.out.mono ?_
      rintro e1 w1 ⟨rfl, hw⟩
      have hw2 := hw.symm
      subst hw2
      go_wp2_with fail
      refine HCr.out.mono ?_
      rintro e1 w1 ⟨rfl, HY⟩
      go_wp2_with fail
      go_ret
      exact ⟨by rw [HE.out]; rfl, by rw [HE.out]; exact HY⟩
    · have HE : Hid (x.restart (i : Int) = (x, 10)) := hide (by unfold XVol.restart; rw [hat]; simp [hu])
      have HXV := hide hx
      rw [hu] at HD
      clear hx hS hC back hat hn hu
      go_enter Tryz.func42, Tryz.ntmps42
      go_wp2_with fail
      refine (HI.out _).mono ?_
      rintro e1 w1 ⟨rfl, hw⟩
      have hw2 := hw.symm
      subst hw2
      go_wp2_with fail
      refine HD.out.mono ?_
      rintro e1 w1 ⟨rfl, hw⟩
      have hw2 := hw.symm
      subst hw2
      go_wp2_with fail
      go_ret
      exact ⟨by rw [HE.out]; rfl, k, Evo.refl _ _ _, by rw [HE.out]; exact HXV.out⟩
  · rw [show (decide (0 ≤ n) && decide (n < 6)) = false from by rw [Bool.and_eq_false_iff]; simp; omega] at HI
    have HE : Hid (x.restart n = (x, 11)) := hide (by
      unfold XVol.restart XVol.segAt
      by_cases h0 : n < 0
      · rw [if_pos h0]
      · rw [if_neg h0, List.getElem?_eq_none (by omega)])
    clear hn
    go_enter Tryz.func42, Tryz.ntmps42
    go_wp2_with fail
    refine (HI.out _).mono ?_
    rintro e1 w1 ⟨rfl, hw⟩
    have hw2 := hw.symm
    subst hw2
    go_wp2_with fail
    go_ret
    exact ⟨by rw [HE.out]; rfl, k, Evo.refl _ _ _, by rw [HE.out]; exact hx⟩
end Go.Proofs.YtfpbkghcjaonlaaGreat

/-
  The program: Sync, Gossip.
-/
namespace Go.Proofs.YtfpbkghcjaonlaaGreat
open Go.RowKit

theorem segs6' {k : Nat → Nat} {w : World} {px : Nat} {x : XVol} (hx : XVolIs k w px x) : x.segs.length = 6 := by obtain ⟨_, _, _, _, _, _, hS, _⟩ := hx.ex; exact hS.l2

/-- A message of our own is sent. -/
theorem send_of {k k1 : Nat → Nat} {w w1 : World} {px : Nat} {x : XVol} {C : Nat → Prop} (hC : ∀ c, C c → cXS c) (ev : Evo k k1 C w w1) (hv : XVolIs k1 w1 px x) (hok : XOk x) (mm : Msg) (hmk : MsgOk mm) {z0 y0 : Option Addr} {z1 z2 y1 y2 : Nat} (hz : CutsIm k1 w1 (.slice z0 z1 z2) mm.cuts) (hy : IntsIm k1 w1 (.slice y0 y1 y2) mm.marks) :
    ∀ W, Below w1.heap.size w1 W → Calls Tryz.prog 87 #[.pointer (some ⟨px, 1, none⟩), .agg #[.int .i64 mm.kind, .int .i64 mm.frm, .int .i64 mm.to_, .int .i64 mm.epoch, .int .i64 mm.lsn, .int .i64 mm.value, .int .i64 mm.scl, .slice z0 z1 z2, .slice y0 y1 y2]] W fun e w' => e = .returned (.tuple #[]) ∧ ∃ k', Evo k k' cXS w w' ∧ XVolIs k' w' px (x.send mm) := fun W hW => by
  have e0 : Evo k1 k1 noC w1 W := Evo.of_below hW
  refine (xsend_any mm (hv.evo e0 (noC_not _) (fun c _ _ => noC_not c)) hok (hz.evo e0 (noC_not _)) (hy.evo e0 (noC_not _)) hmk).mono ?_
  rintro e w' ⟨rfl, k2, ev2, h2⟩
  exact ⟨rfl, k2, ((ev.mono hC).trans (e0.mono (fun _ h => h.elim))).trans (ev2.mono (fun c h => by unfold cXN cX cXM at h; unfold cXS; omega)), h2⟩

set_option maxRecDepth 3000 in
set_option maxHeartbeats 2000000 in
theorem xsync_any {k : Nat → Nat} {w : World} {px : Nat} {x : XVol} (hx : XVolIs k w px x) (hok : XOk x) (n : Int) :
    Calls Tryz.prog 36 #[.pointer (some ⟨px, 0, none⟩), .int .i64 n] w fun e w' => e = .returned (.int .i64 (x.sync n).2) ∧ ∃ k', Evo k k' cXS w w' ∧ XVolIs k' w' px (x.sync n).1 := by
  have h6 := segs6' hx
  have HI := hide (fun W => isSegment_any W n)

  by_cases hn : 0 ≤ n ∧ n < 6
  · rw [show (decide (0 ≤ n) && decide (n < 6)) = true from by simp; omega] at HI
    obtain ⟨i, rfl⟩ := Int.eq_ofNat_of_zero_le hn.1
    have hi6 : i < 6 := by omega
    obtain ⟨r, c0, c1, c2, hl, hS, hC, back⟩ := seg_write hx i hi6
    have hat : x.segs[i]? = some x.segs[i] := List.getElem?_eq_getElem hl
    have hpl := hS.lt
    have hcl := hok.sk _ (List.getElem_mem hl)
    have hi6' : (i : Int) < 6 := by omega
    have hi0 : ¬ (i : Int) < 0 := by omega
    have HD := hide (sdown_any hS.at_)
    cases hu : x.segs[i].up
    · have HE : Hid (x.sync (i : Int) = (x, 9)) := hide (by unfold XVol.sync; rw [if_neg (by omega), Int.toNat_natCast, hat]; simp [hu])
      have HXV := hide hx
      rw [hu] at HD
      clear hx hS hC back hat hn hu
      go_enter Tryz.func36, Tryz.ntmps36
      go_wp2_with fail
      refine (HI.out _).mono ?_
      rintro e1 w1 ⟨rfl, hw⟩
      have hw2 := hw.symm
      subst hw2
      go_wp2_with fail
      refine HD.out.mono ?_
      rintro e1 w1 ⟨rfl, hw⟩
      have hw2 := hw.symm
      subst hw2
      go_wp2_with fail
      go_ret
      exact ⟨by rw [HE.out]; rfl, k, Evo.refl _ _ _, by rw [HE.out]; exact HXV.out⟩
    · have HE : Hid (x.sync (i : Int) = ((x.setSeg i (x.segs[i].sync (i : Int)).1).sendO (x.segs[i].sync (i : Int)).2, 0)) := hide (by unfold XVol.sync; rw [if_neg (by omega), Int.toNat_natCast, hat]; simp [hu])
      have hcuts : (x.segs[i].sync (i : Int)).1.cuts = x.segs[i].cuts := by unfold XSeg.sync; simp only; split <;> rfl
      have hmo : ∀ m', (x.segs[i].sync (i : Int)).2 = some m' → MsgOk m' := by
        intro m' hm'
        unfold XSeg.sync at hm'
        simp only at hm'
        split at hm'
        · simp at hm'
        · rw [← Option.some.inj hm']; exact ⟨by simp [XSeg.status], by simp [XSeg.status]⟩
      have hok2 : XOk (x.setSeg i (x.segs[i].sync (i : Int)).1) := ⟨hok.rm, hok.ml, hok.mo, fun s hs => by
        rcases List.mem_or_eq_of_mem_set hs with h1 | rfl
        · exact hok.sk s h1
        · rw [hcuts]; exact hcl, hok.wk⟩
      have HSy := hide (ssync_any hS hC hcl (i : Int))
      have HB := hide back
      have HM := hide hmo
      have HO2 := hide hok2
      rw [hu] at HD
      clear hx hS hC back hat hn hu hcuts hmo hok2
      generalize x.segs[i].sync (i : Int) = xs at *
      obtain ⟨s2, ow⟩ := xs
      dsimp only at *
      go_enter Tryz.func36, Tryz.ntmps36
      go_wp2_with fail
      refine (HI.out _).mono ?_
      rintro e1 w1 ⟨rfl, hw⟩
      have hw2 := hw.symm
      subst hw2
      go_wp2_with fail
      refine HD.out.mono ?_
      rintro e1 w1 ⟨rfl, hw⟩
      have hw2 := hw.symm
      subst hw2
      go_wp2_with fail
      refine HSy.out.mono ?_
      rintro e2 w2 ⟨vv, rfl, k2, d0, d1, d2, ev2, hS2, hC2, hA2⟩
      obtain ⟨mm, u0, u1, u2, v0, v1, v2, rfl, hz2, hy2, hm2⟩ := hA2
      have hV2 := HB.out k2 w2 s2 _ ev2 hS2 hC2
      have hpl2 := hS2.lt
      cases ow with
      | none =>
        have HX := hide (And.intro ev2 hV2)
        clear ev2 hS2 hC2 hz2 hy2 hm2 hV2
        simp only [Option.isSome]
        go_wp2_with fail
        go_ret
        exact ⟨by rw [HE.out]; rfl, k2, (HX.out.1.mono (fun c h => by unfold cX at h; unfold cXS; omega)).alloc _, by rw [HE.out]; exact HX.out.2.evo ((Evo.refl k2 noC _).alloc _) (noC_not _) (fun c _ _ => noC_not c)⟩
      | some m' =>
        have he := hm2 m' rfl
        subst he
        have HS := hide (send_of (fun c h => by unfold cX at h; unfold cXS; omega) ev2 hV2 HO2.out m' (HM.out m' rfl) hz2 hy2)
        clear ev2 hS2 hC2 hz2 hy2 hm2 hV2
        simp only [Option.isSome]
        go_wp2_with fail
        go_region_with (go_at_call 87; refine (HS.out _ (Below.drew ((Below.refl _ _).alloc (Nat.le_refl _) _))).mono ?_; rintro e3 w4 ⟨rfl, HY2⟩)
        all_goals go_wp2_with fail
        all_goals go_ret
        all_goals exact ⟨by rw [HE.out]; rfl, by rw [HE.out]; exact HY2⟩
  · rw [show (decide (0 ≤ n) && decide (n < 6)) = false from by rw [Bool.and_eq_false_iff]; simp; omega] at HI
    have HE : Hid (x.sync n = (x, 11)) := hide (by
      unfold XVol.sync
      by_cases h0 : n < 0
      · rw [if_pos h0]
      · rw [if_neg h0, List.getElem?_eq_none (by omega)])
    clear hn
    go_enter Tryz.func36, Tryz.ntmps36
    go_wp2_with fail
    refine (HI.out _).mono ?_
    rintro e1 w1 ⟨rfl, hw⟩
    have hw2 := hw.symm
    subst hw2
    go_wp2_with fail
    go_ret
    exact ⟨by rw [HE.out]; rfl, k, Evo.refl _ _ _, by rw [HE.out]; exact hx⟩
end Go.Proofs.YtfpbkghcjaonlaaGreat
