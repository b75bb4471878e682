import Derived.Test.YtfpbkghcjaonlaaGreatJ26
/-
  The program: a segment: cut.
-/
namespace Go.Proofs.YtfpbkghcjaonlaaGreat
open Go.RowKit

theorem Blk.then_below {k k' : Nat → Nat} {w w' : World} {B c b e : Nat} {cs : List Value} (h : Blk k w c b e cs) (hb : Below B w w') (hp : b < B) (hk : k' b = c) : Blk k' w' c b e cs := ⟨(hb.block b hp).trans h.1, hk⟩

/-- The colours: the message and the answer's room are ours, all else that is new is never written again. -/
def kNew (k : Nat → Nat) (n : Nat) : Nat → Nat := fun g => if g < n then k g else if g < n + 2 then 0 else IM
theorem kNew_old (k : Nat → Nat) (n i : Nat) (h : i < n) : kNew k n i = k i := if_pos h
theorem kNew_two (k : Nat → Nat) (n i : Nat) (h : n ≤ i) (h2 : i < n + 2) : kNew k n i = 0 := by unfold kNew; rw [if_neg (by omega), if_pos h2]
theorem kNew_new (k : Nat → Nat) (n i : Nat) (h : n + 2 ≤ i) : kNew k n i = IM := by unfold kNew; rw [if_neg (by omega), if_neg (by omega)]

/-- The message and the answer's room, both new. -/
theorem two_new (w : World) (k : Nat → Nat) (A B : List Value) (t u : Nat) :
    Blk (kNew k w.heap.size) ((w.alloc (Obj.cells A.toArray t)).alloc (Obj.cells B.toArray u)) 0 w.heap.size t A ∧ Blk (kNew k w.heap.size) ((w.alloc (Obj.cells A.toArray t)).alloc (Obj.cells B.toArray u)) 0 (w.heap.size + 1) u B ∧ Below w.heap.size w ((w.alloc (Obj.cells A.toArray t)).alloc (Obj.cells B.toArray u)) ∧ Evo k (kNew k w.heap.size) (fun c => c = cX) w ((w.alloc (Obj.cells A.toArray t)).alloc (Obj.cells B.toArray u)) := by
  have hb : Below w.heap.size w ((w.alloc (Obj.cells A.toArray t)).alloc (Obj.cells B.toArray u)) := ((Below.refl w.heap.size w).alloc (Nat.le_refl _) _).alloc (by simp) _
  refine ⟨⟨?_, kNew_two _ _ _ (Nat.le_refl _) (by omega)⟩, ⟨?_, kNew_two _ _ _ (by omega) (by omega)⟩, hb, (Evo.refl k _ w).then_below hb (fun i hi => kNew_old _ _ _ hi)⟩
  · rw [Below.heap_alloc _ _ _ (by simp)]; exact heap_alloc_new w _
  · rw [heap_alloc2_new]

set_option maxRecDepth 3000 in
set_option maxHeartbeats 2000000 in
theorem scut_no {k : Nat → Nat} {w : World} {px : Nat} {r : VR} {i o : Nat} {s : XSeg} {c0 : Option Addr} {c1 c2 : Nat} (h : SegW k w px r i o s (.slice c0 c1 c2)) (hc : CutsIm k w (.slice c0 c1 c2) s.cuts) (m : Msg) (z0 y0 : Option Addr) (z1 z2 y1 y2 : Nat) (hlt : m.epoch < s.epoch) :
    Calls Tryz.prog 131 #[.pointer (some ⟨px, o, none⟩), .agg #[.int .i64 m.kind, .int .i64 m.frm, .int .i64 m.to_, .int .i64 m.epoch, .int .i64 m.lsn, .int .i64 m.value, .int .i64 m.scl, .slice z0 z1 z2, .slice y0 y1 y2]] w fun e w' => ∃ v, e = .returned v ∧ SegOut k w w' px r i o (s.cut m).1 (fun k' => MAns k' w' (s.cut m).2 v) := by
  have hk := h.col
  have hbl := h.lt
  have hbn : ¬ px = w.heap.size := by omega
  have hbn1 : ¬ px = w.heap.size + 1 := by omega
  obtain ⟨mk, mf, mt, m3, m4, m5, m6, mc, mm⟩ := m
  dsimp only at *
  have HW := hide h
  have HC := hide hc
  have HE : Hid (s.cut ⟨mk, mf, mt, m3, m4, m5, m6, mc, mm⟩ = (s, ⟨5, mt, mf, s.epoch, 0, 0, 0, [], []⟩)) := hide (by unfold XSeg.cut; rw [if_pos hlt]; rfl)
  have hd : decide (m3 < s.epoch) = true := by simpa using hlt
  have HRf : Hid (∀ W, Below w.heap.size w W → Calls Tryz.prog 138 #[.pointer (some ⟨px, o, none⟩), .agg #[.int .i64 mk, .int .i64 mf, .int .i64 mt, .int .i64 m3, .int .i64 m4, .int .i64 m5, .int .i64 m6, .slice z0 z1 z2, .slice y0 y1 y2]] W fun e w' => e = .returned (.agg #[.int .i64 5, .int .i64 mt, .int .i64 mf, .int .i64 s.epoch, .int .i64 0, .int .i64 0, .int .i64 0, .slice none 0 0, .slice none 0 0]) ∧ Below W.heap.size W w') := hide fun W hW => refusal_any (h.at_.below hW) mk mf mt m3 m4 m5 m6 z0 y0 z1 z2 y1 y2
  have q1 : w.cell? ⟨px, o + 1, none⟩ = some (.int .i64 s.epoch) := h.at_.cell 1 (by omega)
  clear h hc hlt
  rw [HE.out]
  dsimp only
  go_enter Tryz.func131, Tryz.ntmps131
  go_wp2_with fail
  obtain ⟨W0, hW0⟩ : ∃ W0, W0 = (w.alloc (Obj.cells #[.int .i64 mk, .int .i64 mf, .int .i64 mt, .int .i64 m3, .int .i64 m4, .int .i64 m5, .int .i64 m6, .slice z0 z1 z2, .slice y0 y1 y2] 109)).alloc (Obj.cells #[.int .i64 0, .int .i64 0, .int .i64 0, .int .i64 0, .int .i64 0, .int .i64 0, .int .i64 0, .slice none 0 0, .slice none 0 0] 109) := ⟨_, rfl⟩
  rw [← hW0]
  obtain ⟨bm0, br0, hb0, -⟩ := two_new w k [.int .i64 mk, .int .i64 mf, .int .i64 mt, .int .i64 m3, .int .i64 m4, .int .i64 m5, .int .i64 m6, .slice z0 z1 z2, .slice y0 y1 y2] [.int .i64 0, .int .i64 0, .int .i64 0, .int .i64 0, .int .i64 0, .int .i64 0, .int .i64 0, .slice none 0 0, .slice none 0 0] 109 109
  rw [show (w.alloc (Obj.cells ([.int .i64 mk, .int .i64 mf, .int .i64 mt, .int .i64 m3, .int .i64 m4, .int .i64 m5, .int .i64 m6, .slice z0 z1 z2, .slice y0 y1 y2] : List Value).toArray 109)).alloc (Obj.cells ([.int .i64 0, .int .i64 0, .int .i64 0, .int .i64 0, .int .i64 0, .int .i64 0, .int .i64 0, .slice none 0 0, .slice none 0 0] : List Value).toArray 109) = W0 from hW0.symm] at bm0 br0 hb0
  have HH := hide hW0
  clear hW0
  have p1 : W0.cell? ⟨px, o + 1, none⟩ = some (.int .i64 s.epoch) := (hb0.cell (p := ⟨px, o + 1, none⟩) hbl).trans q1
  have b3 : W0.cell? ⟨w.heap.size, 3, none⟩ = some (.int .i64 m3) := bm0.cell 3
  have bl0 := bm0.lt
  have bl1 := br0.lt
  have hpl : px < W0.heap.size := Nat.lt_of_lt_of_le hbl hb0.size
  go_quiet (fail)
  have hb9 : Below w.heap.size w (W0.drewN nq) := ⟨hb0.os, hb0.tape, hb0.output, hb0.size, hb0.block⟩
  obtain ⟨⟨a0, a1, a2, a3, a4, a5, a6, a7, a8⟩, -, al⟩ := cells9m (show (W0.drewN nq).heap[w.heap.size]? = _ from bm0.1)
  have hr9 : (W0.drewN nq).heap[w.heap.size + 1]? = _ := br0.1
  generalize W0.drewN nq = W9 at *
  clear bm0 br0 hb0 p1 b3 bl0 bl1 HH
  go_wp2_with fail
  refine (HRf.out _ hb9).mono ?_
  rintro e1 w1 ⟨rfl, hb1⟩
  have hB1 : Below w.heap.size w w1 := hb9.trans (hb1.mono hb9.size)
  obtain ⟨⟨r0, r1, r2, r3, r4, r5, r6, r7, r8⟩, ⟨f0, f1, f2, f3, f4, f5, f6, f7, f8⟩, hlr⟩ := cells9m ((hb1.block _ (Array.getElem?_eq_some_iff.1 hr9).1).trans hr9)
  clear hb1 hr9 a0 a1 a2 a3 a4 a5 a6 a7 a8
  go_wp2_with fail
  refine bodyPost_ret (v := .agg #[.int .i64 5, .int .i64 mt, .int .i64 mf, .int .i64 s.epoch, .int .i64 0, .int .i64 0, .int .i64 0, .slice none 0 0, .slice none 0 0]) (by simp [results, Tryz.results131, go_sem, r0, r1, r2, r3, r4, r5, r6, r7, r8]) rfl ⟨_, rfl, SegOut.quiet HW.out HC.out (below9 hB1 (by omega) _ _ _ _ _ _ _ _ _) ?_⟩
  exact ⟨none, 0, 0, none, 0, 0, rfl, Rows.nil _ _ _ _ _, Rows.nil _ _ _ _ _⟩

/-- The answer is laid into its room. -/
theorem SegOut.answer {k k1 : Nat → Nat} {w w1 : World} {px : Nat} {r : VR} {i o : Nat} {s : XSeg} {d0 : Option Addr} {d1 d2 : Nat} {P : (Nat → Nat) → Prop} (ev1 : Evo k k1 (fun c => c = cX) w w1) (h1 : SegW k1 w1 px r i o s (.slice d0 d1 d2)) (hc1 : CutsIm k1 w1 (.slice d0 d1 d2) s.cuts) (hpx : px < w.heap.size)
    (a0 a1 a2 a3 a4 a5 a6 a7 a8 : Value) (hk : k1 (w.heap.size + 1) = 0) (hP : P k1) :
    SegOut k w (((((((((w1.setCell ⟨w.heap.size + 1, 0, none⟩ a0).setCell ⟨w.heap.size + 1, 1, none⟩ a1).setCell ⟨w.heap.size + 1, 2, none⟩ a2).setCell ⟨w.heap.size + 1, 3, none⟩ a3).setCell ⟨w.heap.size + 1, 4, none⟩ a4).setCell ⟨w.heap.size + 1, 5, none⟩ a5).setCell ⟨w.heap.size + 1, 6, none⟩ a6).setCell ⟨w.heap.size + 1, 7, none⟩ a7).setCell ⟨w.heap.size + 1, 8, none⟩ a8) px r i o s P := by
  have hBf := below9 (Below.refl w.heap.size w1) (show w.heap.size ≤ w.heap.size + 1 by omega) a0 a1 a2 a3 a4 a5 a6 a7 a8
  have evf := ev1.then_below (k' := k1) hBf (fun _ _ => rfl)
  have h2 := h1.then_below (k' := k1) hBf hpx h1.col
  refine ⟨k1, d0, d1, d2, evf, h2, ?_, hP⟩
  have ev0 : Evo k1 k1 (fun c => c = 0) w1 (((((((((w1.setCell ⟨w.heap.size + 1, 0, none⟩ a0).setCell ⟨w.heap.size + 1, 1, none⟩ a1).setCell ⟨w.heap.size + 1, 2, none⟩ a2).setCell ⟨w.heap.size + 1, 3, none⟩ a3).setCell ⟨w.heap.size + 1, 4, none⟩ a4).setCell ⟨w.heap.size + 1, 5, none⟩ a5).setCell ⟨w.heap.size + 1, 6, none⟩ a6).setCell ⟨w.heap.size + 1, 7, none⟩ a7).setCell ⟨w.heap.size + 1, 8, none⟩ a8) :=
    (((((((((Evo.refl k1 _ w1).setCell _ _ (fun _ => hk)).setCell _ _ (fun _ => hk)).setCell _ _ (fun _ => hk)).setCell _ _ (fun _ => hk)).setCell _ _ (fun _ => hk)).setCell _ _ (fun _ => hk)).setCell _ _ (fun _ => hk)).setCell _ _ (fun _ => hk)).setCell _ _ (fun _ => hk)
  exact hc1.evo ev0 (by decide)

set_option maxRecDepth 3000 in
set_option maxHeartbeats 4000000 in
theorem scut_yes {k : Nat → Nat} {w : World} {px : Nat} {r : VR} {i o : Nat} {s : XSeg} {c0 : Option Addr} {c1 c2 : Nat} (h : SegW k w px r i o s (.slice c0 c1 c2)) (hc : CutsIm k w (.slice c0 c1 c2) s.cuts) (hcl : s.cuts.length ≤ 1000) (m : Msg) (z0 y0 : Option Addr) (z1 z2 y1 y2 : Nat) (hcz : CutsIm k w (.slice z0 z1 z2) m.cuts) (hml : m.cuts.length ≤ 1000) (hlt : ¬ m.epoch < s.epoch) :
    Calls Tryz.prog 131 #[.pointer (some ⟨px, o, none⟩), .agg #[.int .i64 m.kind, .int .i64 m.frm, .int .i64 m.to_, .int .i64 m.epoch, .int .i64 m.lsn, .int .i64 m.value, .int .i64 m.scl, .slice z0 z1 z2, .slice y0 y1 y2]] w fun e w' => ∃ v, e = .returned v ∧ SegOut k w w' px r i o (s.cut m).1 (fun k' => MAns k' w' (s.cut m).2 v) := by
  have hk := h.col
  have hbl := h.lt
  have hbn : ¬ px = w.heap.size := by omega
  have hbn1 : ¬ px = w.heap.size + 1 := by omega
  obtain ⟨mk, mf, mt, m3, m4, m5, m6, mc, mm⟩ := m
  dsimp only at *
  have HW := hide h
  have HC := hide hc
  have HCz := hide hcz
  have hd : decide (m3 < s.epoch) = false := by simpa using hlt
  have q1 : w.cell? ⟨px, o + 1, none⟩ = some (.int .i64 s.epoch) := h.at_.cell 1 (by omega)
  obtain ⟨tp, htp⟩ : ∃ tp, tp = topOf s.cuts := ⟨_, rfl⟩
  have HTP := hide htp
  obtain ⟨xo, hxo⟩ : ∃ xo, xo = s.cut ⟨mk, mf, mt, m3, m4, m5, m6, mc, mm⟩ := ⟨_, rfl⟩
  rw [← hxo]
  have HXO := hide hxo
  have hcutu : s.cut ⟨mk, mf, mt, m3, m4, m5, m6, mc, mm⟩ = (if topOf s.cuts ≠ m3 then XSeg.forget { s with epoch := m3, cuts := mc } else { s with epoch := m3 }, (if topOf s.cuts ≠ m3 then XSeg.forget { s with epoch := m3, cuts := mc } else { s with epoch := m3 }).status mt mf) := by unfold XSeg.cut; rw [if_neg hlt]
  have HCU := hide hcutu
  clear h hc hcz hlt htp hxo hcutu
  go_enter Tryz.func131, Tryz.ntmps131
  go_wp2_with fail
  obtain ⟨W0, hW0⟩ : ∃ W0, W0 = (w.alloc (Obj.cells #[.int .i64 mk, .int .i64 mf, .int .i64 mt, .int .i64 m3, .int .i64 m4, .int .i64 m5, .int .i64 m6, .slice z0 z1 z2, .slice y0 y1 y2] 109)).alloc (Obj.cells #[.int .i64 0, .int .i64 0, .int .i64 0, .int .i64 0, .int .i64 0, .int .i64 0, .int .i64 0, .slice none 0 0, .slice none 0 0] 109) := ⟨_, rfl⟩
  rw [← hW0]
  obtain ⟨bm0, br0, hb0, ev0⟩ := two_new w k [.int .i64 mk, .int .i64 mf, .int .i64 mt, .int .i64 m3, .int .i64 m4, .int .i64 m5, .int .i64 m6, .slice z0 z1 z2, .slice y0 y1 y2] [.int .i64 0, .int .i64 0, .int .i64 0, .int .i64 0, .int .i64 0, .int .i64 0, .int .i64 0, .slice none 0 0, .slice none 0 0] 109 109
  rw [show (w.alloc (Obj.cells ([.int .i64 mk, .int .i64 mf, .int .i64 mt, .int .i64 m3, .int .i64 m4, .int .i64 m5, .int .i64 m6, .slice z0 z1 z2, .slice y0 y1 y2] : List Value).toArray 109)).alloc (Obj.cells ([.int .i64 0, .int .i64 0, .int .i64 0, .int .i64 0, .int .i64 0, .int .i64 0, .int .i64 0, .slice none 0 0, .slice none 0 0] : List Value).toArray 109) = W0 from hW0.symm] at bm0 br0 hb0 ev0
  obtain ⟨kn, hkn⟩ : ∃ kn, kn = kNew k w.heap.size := ⟨_, rfl⟩
  rw [← hkn] at bm0 br0 ev0
  have HH := hide (And.intro hW0 hkn)
  have hkpx : kn px = cX := by rw [hkn, kNew_old _ _ _ hbl]; exact hk
  have hk1 : kn (w.heap.size + 1) = 0 := by rw [hkn]; exact kNew_two _ _ _ (by omega) (by omega)
  have HKn : Hid (∀ g, w.heap.size + 2 ≤ g → kn g = IM) := hide (fun g hg => by rw [hkn]; exact kNew_new _ _ _ hg)
  clear hW0 hkn
  have p1 : W0.cell? ⟨px, o + 1, none⟩ = some (.int .i64 s.epoch) := (hb0.cell (p := ⟨px, o + 1, none⟩) hbl).trans q1
  have b3 : W0.cell? ⟨w.heap.size, 3, none⟩ = some (.int .i64 m3) := bm0.cell 3
  have bl0 := bm0.lt
  have bl1 := br0.lt
  have hpl : px < W0.heap.size := Nat.lt_of_lt_of_le hbl hb0.size
  go_quiet (fail)
  have eq : Evo kn kn noC W0 (W0.drewN nq) := (Evo.refl kn noC W0).drewN nq
  have bm9 := bm0.evo eq (noC_not _)
  have br9 := br0.evo eq (noC_not _)
  have ev9 := ev0.drewN nq
  have hb9 : Below w.heap.size w (W0.drewN nq) := ⟨hb0.os, hb0.tape, hb0.output, hb0.size, hb0.block⟩
  clear eq bm0 br0 ev0 hb0 p1 b3 bl0 bl1 hpl HH
  generalize W0.drewN nq = W9 at *
  have hS9 : SegW kn W9 px r i o s (.slice c0 c1 c2) := HW.out.then_below hb9 hbl hkpx
  have p1 : W9.cell? ⟨px, o + 1, none⟩ = some (.int .i64 s.epoch) := hS9.at_.cell 1 (by omega)
  have g1 := hS9.free (o + 1)
  have b3 : W9.cell? ⟨w.heap.size, 3, none⟩ = some (.int .i64 m3) := bm9.cell 3
  have bl0 := bm9.lt
  have hpl := hS9.lt
  have evA : Evo k kn (fun c => c = cX) w (W9.setCell ⟨px, o + 1, none⟩ (.int .i64 m3)) := ev9.setCell _ _ (fun _ => hkpx)
  have evS : Evo kn kn (fun c => c = cX) W9 (W9.setCell ⟨px, o + 1, none⟩ (.int .i64 m3)) := (Evo.refl _ _ _).setCell _ _ (fun _ => hkpx)
  have hS10 := hS9.set 1 (by omega) (.int .i64 m3) (xsegRow_epoch s _ m3) hS9.pl
  have bm10 := bm9.evo evS (by decide)
  have br10 := br9.evo evS (by decide)
  clear hS9 ev9 hb9 bm9 br9 evS HW
  go_upto_region 4 with (fail)
  clear p1 g1 b3 bl0 hpl
  generalize W9.setCell ⟨px, o + 1, none⟩ (.int .i64 m3) = W10 at *
  have HK : Hid (∀ W, Below W10.heap.size W10 W → Evo k kn (fun c => c = cX) w W ∧ SegW kn W px r i o { s with epoch := m3 } (.slice c0 c1 c2) ∧ Blk kn W 0 w.heap.size 109 [.int .i64 mk, .int .i64 mf, .int .i64 mt, .int .i64 m3, .int .i64 m4, .int .i64 m5, .int .i64 m6, .slice z0 z1 z2, .slice y0 y1 y2] ∧ Blk kn W 0 (w.heap.size + 1) 109 [.int .i64 0, .int .i64 0, .int .i64 0, .int .i64 0, .int .i64 0, .int .i64 0, .int .i64 0, .slice none 0 0, .slice none 0 0] ∧ (W.cell? ⟨px, o + 2, none⟩ = some (.slice c0 c1 c2) ∧ W.cell? ⟨w.heap.size, 3, none⟩ = some (.int .i64 m3))) := hide fun W hW => by
    have e0 : Evo kn kn noC W10 W := Evo.of_below hW
    have a := hS10.evo e0 (noC_not _)
    have b := bm10.evo e0 (noC_not _)
    exact ⟨evA.trans (Evo.of_below hW), a, b, br10.evo e0 (noC_not _), a.at_.cell 2 (by omega), b.cell 3⟩
  have HT : Hid (∀ W, Below W10.heap.size W10 W → Calls Tryz.prog 110 #[.slice c0 c1 c2] W fun e w' => e = .returned (.int .i64 tp) ∧ Below W.heap.size W w') := hide fun W hW => by
    rw [HTP.out]
    refine (xtop_any (HC.out.evo (evA.trans (Evo.of_below hW)) (by decide)) (by omega)).mono ?_
    rintro e w' ⟨rfl, rfl⟩
    exact ⟨rfl, Below.refl _ _⟩
  have HS0 := hide (HK.out W10.drew (Below.drew (Below.refl _ _))).2.2.2.2
  have hpl := hS10.lt
  have bl0 := bm10.lt
  clear hS10 bm10 br10 evA
  go_region_held3 (fun W => W.cell? ⟨px, o + 2, none⟩ = some (.slice c0 c1 c2) ∧ W.cell? ⟨w.heap.size, 3, none⟩ = some (.int .i64 m3)) (first | with_reducible exact HS0.out | with_reducible exact HSy)
    (first | (go_at_call 110; refine (HT.out _ (Below.drew (Below.refl _ _))).mono ?_; rintro e5 w5 ⟨rfl, hb5⟩; have hb5x : Below W10.heap.size W10 w5 := (Below.drew (Below.refl _ _)).trans hb5; have HSy := (HK.out w5 hb5x).2.2.2.2))
  have H5 := hide (HK.out w5 hb5x)
  clear HSy HS0 hpl bl0
  by_cases ht : tp = m3
  · have HE : Hid (xo = ({ s with epoch := m3 }, XSeg.status { s with epoch := m3 } mt mf)) := hide (by rw [HXO.out, HCU.out, ← HTP.out, if_neg (by simpa using ht)])
    have hd2 : (tp != m3) = false := by simpa using ht
    have HSt : Hid (∀ W, Below w5.heap.size w5 W → Calls Tryz.prog 111 #[.pointer (some ⟨px, o, none⟩), .int .i64 mt, .int .i64 mf] W fun e w' => e = .returned (.agg #[.int .i64 4, .int .i64 mt, .int .i64 mf, .int .i64 mf, .int .i64 0, .int .i64 0, .int .i64 (xscl { s with epoch := m3 }), .slice none 0 0, .slice none 0 0]) ∧ Below W.heap.size W w') := hide fun W hW => sstatus_any (H5.out.2.1.at_.below hW) mt mf
    have b1 : w5.cell? ⟨w.heap.size, 1, none⟩ = some (.int .i64 mf) := H5.out.2.2.1.cell 1
    have b2 : w5.cell? ⟨w.heap.size, 2, none⟩ = some (.int .i64 mt) := H5.out.2.2.1.cell 2
    have bl5 := H5.out.2.2.1.lt
    clear ht
    go_wp2_with fail
    refine (HSt.out _ (Below.refl _ _)).mono ?_
    rintro e6 w6 ⟨rfl, hb6⟩
    have br6 := H5.out.2.2.2.1.evo (Evo.of_below (C := noC) hb6) (noC_not _)
    obtain ⟨⟨r0, r1, r2, r3, r4, r5, r6, r7, r8⟩, ⟨f0, f1, f2, f3, f4, f5, f6, f7, f8⟩, hlr⟩ := cells9m br6.1
    have ev6 : Evo k kn (fun c => c = cX) w w6 := H5.out.1.trans (Evo.of_below hb6)
    have HF := hide (And.intro ev6 (H5.out.2.1.below hb6))
    clear b1 b2 bl5 br6 hb6 ev6
    go_wp2_with fail
    refine bodyPost_ret (v := .agg #[.int .i64 4, .int .i64 mt, .int .i64 mf, .int .i64 mf, .int .i64 0, .int .i64 0, .int .i64 (xscl { s with epoch := m3 }), .slice none 0 0, .slice none 0 0]) (by simp [results, Tryz.results131, go_sem, r0, r1, r2, r3, r4, r5, r6, r7, r8]) rfl ⟨_, rfl, ?_⟩
    rw [HE.out]
    exact SegOut.answer HF.out.1 HF.out.2 (HC.out.evo HF.out.1 (by decide)) hbl _ _ _ _ _ _ _ _ _ hk1 ⟨none, 0, 0, none, 0, 0, rfl, Rows.nil _ _ _ _ _, Rows.nil _ _ _ _ _⟩
  · have HE : Hid (xo = (XSeg.forget { s with epoch := m3, cuts := mc }, (XSeg.forget { s with epoch := m3, cuts := mc }).status mt mf)) := hide (by rw [HXO.out, HCU.out, ← HTP.out, if_pos (by simpa using ht)])
    have hd2 : (tp != m3) = true := by simpa using ht
    have HCp : Hid (Calls Tryz.prog 118 #[.slice z0 z1 z2] w5 fun e w' => (∃ z, e = .returned z ∧ Made w' w5.heap.size 53 2 z (mc.map cutRow)) ∧ Below w5.heap.size w5 w') := hide (copy_any (HCz.out.evo H5.out.1 (by decide)) (by omega))
    have b7 : w5.cell? ⟨w.heap.size, 7, none⟩ = some (.slice z0 z1 z2) := H5.out.2.2.1.cell 7
    have bl5 := H5.out.2.2.1.lt
    have bl5' := H5.out.2.2.2.1.lt
    clear ht
    go_wp2_with fail
    refine HCp.out.mono ?_
    rintro e6 w6 ⟨⟨z, rfl, hz⟩, hb6⟩
    obtain ⟨s0, s1, s2, hsz⟩ := made_shape hz
    subst hsz
    have e06 : Evo kn kn noC w5 w6 := Evo.of_below hb6
    have hS6 := H5.out.2.1.evo e06 (noC_not _)
    have ev6 : Evo k kn (fun c => c = cX) w w6 := H5.out.1.trans (Evo.of_below hb6)
    have bm6 := H5.out.2.2.1.evo e06 (noC_not _)
    have br6 := H5.out.2.2.2.1.evo e06 (noC_not _)
    have hZ6 : CutsIm kn w6 (.slice s0 s1 s2) mc := hz.colour (c := IM) (fun g hg => HKn.out g (by have := (Made.block hz g hg).1; omega))
    have p2 : w6.cell? ⟨px, o + 2, none⟩ = some (.slice c0 c1 c2) := hS6.at_.cell 2 (by omega)
    have g2 := hS6.free (o + 2)
    have hpl6 := hS6.lt
    have evS : Evo kn kn (fun c => c = cX) w6 (w6.setCell ⟨px, o + 2, none⟩ (.slice s0 s1 s2)) := (Evo.refl _ _ _).setCell _ _ (fun _ => hkpx)
    have hS7 := hS6.set 2 (by omega) (.slice s0 s1 s2) (xsegRow_cuts { s with epoch := m3 } _ _ mc) hS6.pl
    have HFg := hide (sforget_any hS7 (hZ6.evo evS (by decide)) hml)
    have HX7 := hide (And.intro (ev6.trans evS) (And.intro (bm6.evo evS (by decide)) (And.intro (br6.evo evS (by decide)) (hZ6.evo evS (by decide)))))
    clear hS6 hS7 ev6 bm6 br6 hZ6 evS e06 hz hb6 b7 bl5
    go_wp2_with fail
    refine HFg.out.mono ?_
    rintro e7 w7 ⟨rfl, ev7, hS8⟩
    have HX8 := hide (And.intro (HX7.out.1.trans ev7) (And.intro (HX7.out.2.1.evo ev7 (by decide)) (And.intro (HX7.out.2.2.1.evo ev7 (by decide)) (And.intro (HX7.out.2.2.2.evo ev7 (by decide)) hS8))))
    have b1 : w7.cell? ⟨w.heap.size, 1, none⟩ = some (.int .i64 mf) := HX8.out.2.1.cell 1
    have b2 : w7.cell? ⟨w.heap.size, 2, none⟩ = some (.int .i64 mt) := HX8.out.2.1.cell 2
    have bl7 := HX8.out.2.1.lt
    have HSt := hide (sstatus_any hS8.at_ mt mf)
    clear hS8 ev7 p2 g2 hpl6 bl5'
    go_wp2_with fail
    refine HSt.out.mono ?_
    rintro e9 w9 ⟨rfl, hb9⟩
    have br9 := HX8.out.2.2.1.evo (Evo.of_below (C := noC) hb9) (noC_not _)
    obtain ⟨⟨r0, r1, r2, r3, r4, r5, r6, r7, r8⟩, ⟨f0, f1, f2, f3, f4, f5, f6, f7, f8⟩, hlr⟩ := cells9m br9.1
    have HF := hide (And.intro (HX8.out.1.trans (Evo.of_below hb9)) (And.intro (HX8.out.2.2.2.2.below hb9) (HX8.out.2.2.2.1.evo (Evo.of_below (C := noC) hb9) (noC_not _))))
    clear b1 b2 bl7 br9 hb9
    go_wp2_with fail
    refine bodyPost_ret (v := .agg #[.int .i64 4, .int .i64 mt, .int .i64 mf, .int .i64 mf, .int .i64 0, .int .i64 0, .int .i64 (xscl (XSeg.forget { s with epoch := m3, cuts := mc })), .slice none 0 0, .slice none 0 0]) (by simp [results, Tryz.results131, go_sem, r0, r1, r2, r3, r4, r5, r6, r7, r8]) rfl ⟨_, rfl, ?_⟩
    rw [HE.out]
    exact SegOut.answer HF.out.1 HF.out.2.1 HF.out.2.2 hbl _ _ _ _ _ _ _ _ _ hk1 ⟨none, 0, 0, none, 0, 0, rfl, Rows.nil _ _ _ _ _, Rows.nil _ _ _ _ _⟩

theorem scut_any {k : Nat → Nat} {w : World} {px : Nat} {r : VR} {i o : Nat} {s : XSeg} {c0 : Option Addr} {c1 c2 : Nat} (h : SegW k w px r i o s (.slice c0 c1 c2)) (hc : CutsIm k w (.slice c0 c1 c2) s.cuts) (hcl : s.cuts.length ≤ 1000) (m : Msg) (z0 y0 : Option Addr) (z1 z2 y1 y2 : Nat) (hcz : CutsIm k w (.slice z0 z1 z2) m.cuts) (hml : m.cuts.length ≤ 1000) :
    Calls Tryz.prog 131 #[.pointer (some ⟨px, o, none⟩), .agg #[.int .i64 m.kind, .int .i64 m.frm, .int .i64 m.to_, .int .i64 m.epoch, .int .i64 m.lsn, .int .i64 m.value, .int .i64 m.scl, .slice z0 z1 z2, .slice y0 y1 y2]] w fun e w' => ∃ v, e = .returned v ∧ SegOut k w w' px r i o (s.cut m).1 (fun k' => MAns k' w' (s.cut m).2 v) := by
  by_cases hlt : m.epoch < s.epoch
  · exact scut_no h hc m z0 y0 z1 z2 y1 y2 hlt
  · exact scut_yes h hc hcl m z0 y0 z1 z2 y1 y2 hcz hml hlt
end Go.Proofs.YtfpbkghcjaonlaaGreat

/-
  The program: a segment: give.
-/
namespace Go.Proofs.YtfpbkghcjaonlaaGreat
open Go.RowKit

set_option maxRecDepth 3000 in
set_option maxHeartbeats 1000000 in
theorem sgive_any {w : World} {b o : Nat} {s : XSeg} {vc : Value} (h : SegAt w b o s vc) (m : Msg) (z0 y0 : Option Addr) (z1 z2 y1 y2 : Nat) :
    Calls Tryz.prog 133 #[.pointer (some ⟨b, o, none⟩), .agg #[.int .i64 m.kind, .int .i64 m.frm, .int .i64 m.to_, .int .i64 m.epoch, .int .i64 m.lsn, .int .i64 m.value, .int .i64 m.scl, .slice z0 z1 z2, .slice y0 y1 y2]] w fun e w' => (∃ v, e = .returned v ∧ ∀ k w2, OAns k w2 (s.give m) v) ∧ Below w.heap.size w w' := by
  have HA : Hid (∀ W, Below w.heap.size w W → Calls Tryz.prog 108 #[.pointer (some ⟨b, o, none⟩), .int .i64 m.lsn] W fun e w' => e = .returned (placeVal (s.at_ m.lsn)) ∧ Below W.heap.size W w') := hide fun W hW => sat_any (h.below hW) m.lsn
  unfold placeVal at HA
  have hbl := h.lt
  obtain ⟨og, hog⟩ : ∃ og, og = s.give m := ⟨_, rfl⟩
  rw [← hog]
  unfold XSeg.give at hog
  generalize s.at_ m.lsn = p at *
  obtain ⟨mk, mf, mt, m3, m4, m5, m6, mc, mm⟩ := m
  dsimp only at *
  have HO := hide hog
  clear h hog
  have HB : Hid (∀ w1, Below (w.heap.size + 1 + 1) ((w.alloc (Obj.cells #[.int .i64 mk, .int .i64 mf, .int .i64 mt, .int .i64 m3, .int .i64 m4, .int .i64 m5, .int .i64 m6, .slice z0 z1 z2, .slice y0 y1 y2] 109)).alloc (Obj.cells #[.int .i64 0, .int .i64 0, .int .i64 0, .int .i64 0, .int .i64 0, .int .i64 0, .int .i64 0, .slice none 0 0, .slice none 0 0] 109)) w1 →
      w1.heap[w.heap.size]? = some (.cells #[.int .i64 mk, .int .i64 mf, .int .i64 mt, .int .i64 m3, .int .i64 m4, .int .i64 m5, .int .i64 m6, .slice z0 z1 z2, .slice y0 y1 y2] 109 (0, 0)) ∧ w1.heap[w.heap.size + 1]? = some (.cells #[.int .i64 0, .int .i64 0, .int .i64 0, .int .i64 0, .int .i64 0, .int .i64 0, .int .i64 0, .slice none 0 0, .slice none 0 0] 109 (0, 0)) ∧ Below w.heap.size w w1) := hide fun w1 hb => by
    refine ⟨(hb.block _ (by omega)).trans ?_, (hb.block _ (by omega)).trans ?_, ?_⟩
    · rw [Below.heap_alloc _ _ _ (by simp)]; exact heap_alloc_new w _
    · rw [heap_alloc2_new]
    · exact (((Below.refl w.heap.size w).alloc (Nat.le_refl _) _).alloc (by simp) _).trans (hb.mono (by omega))
  by_cases h2 : p.1 = 2
  · have HE : Hid (og = some ⟨8, mt, mf, p.2.1, m4, p.2.2, 0, [], []⟩) := hide (by rw [HO.out, if_pos h2])
    have hd : (p.1 != 2) = false := by simpa using h2
    clear h2
    go_enter Tryz.func133, Tryz.ntmps133
    go_wp2_with fail
    refine (HA.out _ (((Below.refl w.heap.size w).alloc (Nat.le_refl _) _).alloc (by simp) _)).mono ?_
    rintro e1 w1 ⟨rfl, hb1⟩
    simp only [World.size_alloc] at hb1
    obtain ⟨hbm, hbr, hB1⟩ := HB.out w1 hb1
    obtain ⟨⟨c0, c1, c2, c3, c4, c5, c6, c7, c8⟩, -, hlm⟩ := cells9m hbm
    obtain ⟨⟨r0, r1, r2, r3, r4, r5, r6, r7, r8⟩, ⟨f0, f1, f2, f3, f4, f5, f6, f7, f8⟩, hlr⟩ := cells9m hbr
    clear hbm hbr hb1
    go_wp2_with fail
    refine bodyPost_ret (v := .tuple #[.agg #[.int .i64 8, .int .i64 mt, .int .i64 mf, .int .i64 p.2.1, .int .i64 m4, .int .i64 p.2.2, .int .i64 0, .slice none 0 0, .slice none 0 0], .bool true]) (by simp [results, Tryz.results133, go_sem, r0, r1, r2, r3, r4, r5, r6, r7, r8, hlr]) rfl ⟨⟨_, rfl, fun k w2 => ?_⟩, ?_⟩
    · rw [HE.out]
      exact ⟨⟨8, mt, mf, p.2.1, m4, p.2.2, 0, [], []⟩, none, 0, 0, none, 0, 0, rfl, Rows.nil _ _ _ _ _, Rows.nil _ _ _ _ _, fun m' hm' => by simpa using hm'.symm⟩
    · have b9 := below9 hB1 (show w.heap.size ≤ w.heap.size + 1 by omega) (.int .i64 8) (.int .i64 mt) (.int .i64 mf) (.int .i64 p.2.1) (.int .i64 m4) (.int .i64 p.2.2) (.int .i64 0) (.slice none 0 0) (.slice none 0 0)
      exact b9.alloc b9.size _
  · have HE : Hid (og = none) := hide (by rw [HO.out, if_neg h2])
    have hd : (p.1 != 2) = true := by simpa using h2
    clear h2
    go_enter Tryz.func133, Tryz.ntmps133
    go_wp2_with fail
    refine (HA.out _ (((Below.refl w.heap.size w).alloc (Nat.le_refl _) _).alloc (by simp) _)).mono ?_
    rintro e1 w1 ⟨rfl, hb1⟩
    simp only [World.size_alloc] at hb1
    obtain ⟨hbm, hbr, hB1⟩ := HB.out w1 hb1
    obtain ⟨⟨r0, r1, r2, r3, r4, r5, r6, r7, r8⟩, ⟨f0, f1, f2, f3, f4, f5, f6, f7, f8⟩, hlr⟩ := cells9m hbr
    clear hbm hbr hb1
    go_wp2_with fail
    refine bodyPost_ret (v := .tuple #[.agg #[.int .i64 0, .int .i64 0, .int .i64 0, .int .i64 0, .int .i64 0, .int .i64 0, .int .i64 0, .slice none 0 0, .slice none 0 0], .bool false]) (by simp [results, Tryz.results133, go_sem, r0, r1, r2, r3, r4, r5, r6, r7, r8, hlr]) rfl ⟨⟨_, rfl, fun k w2 => ?_⟩, ?_⟩
    · rw [HE.out]; exact OAns.none k w2
    · have b9 := below9 hB1 (show w.heap.size ≤ w.heap.size + 1 by omega) (.int .i64 0) (.int .i64 0) (.int .i64 0) (.int .i64 0) (.int .i64 0) (.int .i64 0) (.int .i64 0) (.slice none 0 0) (.slice none 0 0)
      exact b9.alloc b9.size _

end Go.Proofs.YtfpbkghcjaonlaaGreat

/-
  The program: a segment: take.
-/
namespace Go.Proofs.YtfpbkghcjaonlaaGreat
open Go.RowKit

set_option maxRecDepth 3000 in
set_option maxHeartbeats 1000000 in
theorem stake_any {k : Nat → Nat} {w : World} {px : Nat} {r : VR} {i o : Nat} {s : XSeg} {vc : Value} (h : SegW k w px r i o s vc) (m : Msg) (z0 y0 : Option Addr) (z1 z2 y1 y2 : Nat) :
    Calls Tryz.prog 141 #[.pointer (some ⟨px, o, none⟩), .agg #[.int .i64 m.kind, .int .i64 m.frm, .int .i64 m.to_, .int .i64 m.epoch, .int .i64 m.lsn, .int .i64 m.value, .int .i64 m.scl, .slice z0 z1 z2, .slice y0 y1 y2]] w fun e w' => e = .returned (.tuple #[]) ∧ Evo k k (fun c => c = cX) w w' ∧ SegW k w' px r i o (s.take m) vc := by
  have hl := h.pl
  have hbl := h.lt
  have hbn : ¬ px = w.heap.size := by omega
  obtain ⟨mk, mf, mt, m3, m4, m5, m6, mc, mm⟩ := m
  obtain ⟨s', hs'⟩ : ∃ s', s' = s.take ⟨mk, mf, mt, m3, m4, m5, m6, mc, mm⟩ := ⟨_, rfl⟩
  rw [← hs']
  dsimp only at *
  have HW := hide h
  have HS := hide hs'
  clear hs'
  have HB : Hid (SegW k (w.alloc (Obj.cells #[.int .i64 mk, .int .i64 mf, .int .i64 mt, .int .i64 m3, .int .i64 m4, .int .i64 m5, .int .i64 m6, .slice z0 z1 z2, .slice y0 y1 y2] 109)) px r i o s vc) := hide (h.below ((Below.refl _ _).alloc (Nat.le_refl _) _))
  have HV : Hid (Evo k k (fun c => c = cX) w (w.alloc (Obj.cells #[.int .i64 mk, .int .i64 mf, .int .i64 mt, .int .i64 m3, .int .i64 m4, .int .i64 m5, .int .i64 m6, .slice z0 z1 z2, .slice y0 y1 y2] 109))) := hide ((Evo.refl _ _ _).alloc _)
  by_cases h1 : m4 < 1
  · have HE : Hid (s' = s) := hide (by rw [HS.out]; unfold XSeg.take; rw [if_pos (.inl h1)])
    have d1 : decide (m4 < 1) = true := by simpa using h1
    clear h
    go_enter Tryz.func141, Tryz.ntmps141
    go_wp2_with fail
    refine bodyPost_ret (v := .tuple #[]) (by simp [results, Tryz.results141]) rfl ?_
    exact ⟨rfl, HV.out, by rw [HE.out]; exact HB.out⟩
  · have d1 : decide (m4 < 1) = false := by simpa using h1
    by_cases h2 : 40 < m4
    · have HE : Hid (s' = s) := hide (by rw [HS.out]; unfold XSeg.take; rw [if_pos (.inr h2)])
      have d2 : decide (40 < m4) = true := by simpa using h2
      clear h
      go_enter Tryz.func141, Tryz.ntmps141
      go_wp2_with fail
      refine bodyPost_ret (v := .tuple #[]) (by simp [results, Tryz.results141]) rfl ?_
      exact ⟨rfl, HV.out, by rw [HE.out]; exact HB.out⟩
    · have d2 : decide (40 < m4) = false := by simpa using h2
      obtain ⟨j, hj⟩ : ∃ j : Nat, m4 = (j : Int) + 1 := ⟨(m4 - 1).toNat, by omega⟩
      subst hj
      have hjl : j < s.places.length := by omega
      obtain ⟨q0, q1, q2⟩ := h.at_.place j hjl
      have f0 := h.free (o + 3 + j * 3)
      have f1 := h.free (o + 3 + j * 3 + 1)
      have f2 := h.free (o + 3 + j * 3 + 2)
      have hwr : IntKind.i64.wrap ((j : Int) + 1 - 1) = (j : Int) := by rw [show (j : Int) + 1 - 1 = (j : Int) from by omega, IntKind.wrap_i64] <;> omega
      have hj40 : (j : Int) < 40 := by omega
      have hj0 : ¬ (j : Int) < 0 := by omega
      have HE : Hid (s' = if s.places[j].1 = 0 then { s with places := s.places.set j (1, m3, m5) } else s) := hide (by
        rw [HS.out]; unfold XSeg.take
        rw [if_neg (by simp; omega)]
        simp only [show ((j : Int) + 1 - 1).toNat = j from by omega]
        rw [List.getD_eq_getElem?_getD, List.getElem?_eq_getElem hjl]; rfl)
      have hk := h.col
      obtain ⟨pj, hpj⟩ : ∃ pj, s.places[j] = pj := ⟨_, rfl⟩
      rw [hpj] at HE
      have HPJ := hide hpj
      clear hpj h h1 h2 q0 q1 q2 f0 f1 f2
      go_enter Tryz.func141, Tryz.ntmps141
      go_wp2_with fail
      obtain ⟨W0, hW0⟩ : ∃ W0, W0 = w.alloc (Obj.cells #[.int .i64 mk, .int .i64 mf, .int .i64 mt, .int .i64 m3, .int .i64 ((j : Int) + 1), .int .i64 m5, .int .i64 m6, .slice z0 z1 z2, .slice y0 y1 y2] 109) := ⟨_, rfl⟩
      rw [← hW0] at HB HV ⊢
      obtain ⟨bi, hbi⟩ : ∃ bi, bi = w.heap.size := ⟨_, rfl⟩
      rw [← hbi] at hbn ⊢
      have bm0 : Blk (fun _ => 0) W0 0 bi 109 [.int .i64 mk, .int .i64 mf, .int .i64 mt, .int .i64 m3, .int .i64 ((j : Int) + 1), .int .i64 m5, .int .i64 m6, .slice z0 z1 z2, .slice y0 y1 y2] := by rw [hW0, hbi]; exact ⟨heap_alloc_new w _, rfl⟩
      have HH := hide (And.intro hW0 hbi)
      clear hW0 hbi
      obtain ⟨q0, q1, q2⟩ := HB.out.at_.place j hjl
      rw [HPJ.out] at q0 q1 q2
      have b4 : W0.cell? ⟨bi, 4, none⟩ = some (.int .i64 ((j : Int) + 1)) := bm0.cell 4
      have bl0 := bm0.lt
      have hl0 := HB.out.lt
      cases hz : (pj.1 == 0)
      · have HE2 : Hid (s' = s) := hide (by rw [HE.out, if_neg (by simpa using hz)])
        go_quiet (fail)
        go_wp2_with fail
        go_end0
        exact ⟨rfl, HV.out.drewN nq, by rw [HE2.out]; exact HB.out.evo ((Evo.refl k noC W0).drewN nq) (noC_not _)⟩
      · have HE2 : Hid (s' = { s with places := s.places.set j (1, m3, m5) }) := hide (by rw [HE.out, if_pos (by simpa using hz)])
        go_quiet (fail)
        have hS9 := HB.out.evo ((Evo.refl k noC W0).drewN nq) (noC_not _)
        have hV9 := HV.out.drewN nq
        have bm9 : Blk (fun _ => 0) (W0.drewN nq) 0 bi 109 [.int .i64 mk, .int .i64 mf, .int .i64 mt, .int .i64 m3, .int .i64 ((j : Int) + 1), .int .i64 m5, .int .i64 m6, .slice z0 z1 z2, .slice y0 y1 y2] := bm0.evo ((Evo.refl (fun _ => 0) noC W0).drewN nq) (noC_not _)
        clear bm0 HB HV q0 q1 q2 b4 bl0 hl0
        generalize W0.drewN nq = W9 at *
        obtain ⟨q0, q1, q2⟩ := hS9.at_.place j hjl
        rw [HPJ.out] at q0 q1 q2
        have f0 := hS9.free (o + 3 + j * 3)
        have f1 := hS9.free (o + 3 + j * 3 + 1)
        have f2 := hS9.free (o + 3 + j * 3 + 2)
        have b3 : W9.cell? ⟨bi, 3, none⟩ = some (.int .i64 m3) := bm9.cell 3
        have b4 : W9.cell? ⟨bi, 4, none⟩ = some (.int .i64 ((j : Int) + 1)) := bm9.cell 4
        have b5 : W9.cell? ⟨bi, 5, none⟩ = some (.int .i64 m5) := bm9.cell 5
        have bl0 := bm9.lt
        have hl0 := hS9.lt
        have HN := hide (hS9.place j (by omega) (1, m3, m5))
        have HV2 := hide (((hV9.setCell ⟨px, o + 3 + j * 3, none⟩ (.int .i64 1) (fun _ => hk)).setCell ⟨px, o + 3 + j * 3 + 1, none⟩ (.int .i64 m3) (fun _ => hk)).setCell ⟨px, o + 3 + j * 3 + 2, none⟩ (.int .i64 m5) (fun _ => hk))
        clear hS9 hV9 bm9
        go_wp2_with fail
        go_region
        go_wp2_with fail
        go_end0
        exact ⟨rfl, HV2.out.drew, by rw [HE2.out]; exact HN.out.evo ((Evo.refl k noC _).drew) (noC_not _)⟩
end Go.Proofs.YtfpbkghcjaonlaaGreat
