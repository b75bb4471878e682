/-
  sixfoldlaw: message, writer, flight.
-/
import Derived.Test.YtfpbkghcjaonlaaGreatLawH
namespace Go.Proofs.YtfpbkghcjaonlaaGreat
open Go.RowKit

def XMsg (B0 : Nat) (w' : World) (err : Int) (m : Msg) (v : Value) : Prop :=
  ∃ vc vm B1, v = .tuple #[.agg #[.int .i64 m.kind, .int .i64 m.frm, .int .i64 m.to_, .int .i64 m.epoch, .int .i64 m.lsn, .int .i64 m.value, .int .i64 m.scl, vc, vm], .int .i64 err] ∧ B0 ≤ B1 ∧ (∀ g, vc.ownBlock = some g → g < B1) ∧
    Made w' B0 53 2 vc (m.cuts.map cutRow) ∧ Made w' B1 3 1 vm (m.marks.map intRow)
def YMsg (w' : World) (err : Int) (m : Msg) (v : Value) : Prop :=
  ∃ vc vm k1 k2 c1 c2, v = .tuple #[.agg #[.int .i64 m.kind, .int .i64 m.frm, .int .i64 m.to_, .int .i64 m.epoch, .int .i64 m.lsn, .int .i64 m.value, .int .i64 m.scl, vc, vm], .int .i64 err] ∧
    Rows k1 w' c1 53 2 vc (m.cuts.map cutRow) ∧ Rows k2 w' c2 3 1 vm (m.marks.map intRow)

/-- The cells of a message's block. -/
theorem cells9 {w : World} {b e : Nat} {c0 c1 c2 c3 c4 c5 c6 c7 c8 : Value} (h : w.heap[b]? = some (.cells #[c0, c1, c2, c3, c4, c5, c6, c7, c8] e (0, 0))) :
    w.cell? ⟨b, 0, none⟩ = some c0 ∧ w.cell? ⟨b, 1, none⟩ = some c1 ∧ w.cell? ⟨b, 2, none⟩ = some c2 ∧ w.cell? ⟨b, 3, none⟩ = some c3 ∧ w.cell? ⟨b, 4, none⟩ = some c4 ∧ w.cell? ⟨b, 5, none⟩ = some c5 ∧
    w.cell? ⟨b, 6, none⟩ = some c6 ∧ w.cell? ⟨b, 7, none⟩ = some c7 ∧ w.cell? ⟨b, 8, none⟩ = some c8 := by
  refine ⟨?_, ?_, ?_, ?_, ?_, ?_, ?_, ?_, ?_⟩
  all_goals (rw [cell_of_row _ _ _ _ _ _ h]; rfl)

def colour2 (n : Nat) (k : Nat → Nat) (vc vm : Value) (g : Nat) : Nat := if g < n then k g else if vc.ownBlock = some g then 204 else if vm.ownBlock = some g then 208 else 0
theorem colour2_rows {n B1 : Nat} {k : Nat → Nat} {w : World} {vc vm : Value} {rc rk : List (List Value)} {e1 e2 z1 z2 : Nat} (h1 : Made w n e1 z1 vc rc) (h2 : Made w B1 e2 z2 vm rk) (hn1 : n ≤ B1) (hc : ∀ g, vc.ownBlock = some g → g < B1) :
    Rows (colour2 n k vc vm) w 204 e1 z1 vc rc ∧ Rows (colour2 n k vc vm) w 208 e2 z2 vm rk := by
  refine ⟨h1.colour fun g hg => ?_, h2.colour fun g hg => ?_⟩
  · have := (h1.block g hg).1
    unfold colour2; rw [if_neg (by omega), if_pos hg]
  · have := (h2.block g hg).1
    unfold colour2; rw [if_neg (by omega), if_neg (fun e => by have := hc g e; omega), if_pos hg]
theorem below_colour2 {n : Nat} {k : Nat → Nat} {w w' : World} (hn : n = w.heap.size) (h : Below w.heap.size w w') (vc vm : Value) (C : Nat → Prop) : Evo k (colour2 n k vc vm) C w w' := by
  subst hn
  exact (Evo.of_below (k := k) h).recolour _ (fun _ hi => if_pos hi)

set_option maxRecDepth 100000 in
set_option maxHeartbeats 8000000 in
theorem lawMessage_any {k : Nat → Nat} {w : World} {b px py nC nR nI : Nat} (n : Int) (err : Int) (m : Msg) (h : LawIs k w is205 b px py nC nR nI) (hcl : Clean k w)
    (hx : ∀ W, Below w.heap.size w W → Calls Tryz.prog 59 #[.pointer (some ⟨px, 0, none⟩), .int .i64 n] W fun e w' => (∃ v, e = .returned v ∧ XMsg W.heap.size w' err m v) ∧ Below W.heap.size W w')
    (hy : ∀ W, Below w.heap.size w W → Calls Tryz.prog 60 #[.pointer (some ⟨py, 0, none⟩), .int .i64 n] W fun e w' => (∃ v, e = .returned v ∧ YMsg w' err m v) ∧ Below W.heap.size W w')
    (hC : nC ≤ 3900000000) (hI : nI ≤ 3900000000) (hdc : m.cuts.length ≤ 4000000000) (hdk : m.marks.length ≤ 4000000000) :
    Calls Tryz.prog 24 #[.pointer (some ⟨b, 0, none⟩), .int .i64 n] w fun e w' => e = .returned (.bool true) ∧
      ∃ k', Evo k k' cLaw w w' ∧ LawIs k' w' is205 b px py (nC + 4) nR (nI + 4) ∧ Clean k' w' := by
  obtain ⟨vC, vR, vI, hB, -, -, -⟩ := h.ex
  have z0 : w.cell? ⟨b, 0, none⟩ = some (.pointer (some ⟨px, 0, none⟩)) := hB.cell 0
  have z1 : w.cell? ⟨b, 1, none⟩ = some (.pointer (some ⟨py, 0, none⟩)) := hB.cell 1
  have hbl := hB.lt
  have HX := hide hx
  have HY := hide hy
  clear hx hy hB
  go_enter Tryz.func24, Tryz.ntmps24
  go_wp2_with fail
  refine (HX.out _ (Below.refl _ _)).mono ?_
  rintro e1 w1 ⟨⟨v, rfl, vc, vk, B1, rfl, hl1, hlc, mc, mk⟩, hb1⟩
  have hs1 := hb1.size
  obtain ⟨ca, cc, hcf⟩ := mc.form
  obtain ⟨ka, kc, hkf⟩ := mk.form
  simp only [List.length_map] at hcf hkf
  subst hcf hkf
  have y0 := (hb1.cell (p := ⟨b, 0, none⟩) hbl).trans z0
  have y1 := (hb1.cell (p := ⟨b, 1, none⟩) hbl).trans z1
  have hbl1 : b < w1.heap.size := by omega
  obtain ⟨wA, hwA⟩ : ∃ wA, wA = w1.alloc (Obj.cells #[.int .i64 m.kind, .int .i64 m.frm, .int .i64 m.to_, .int .i64 m.epoch, .int .i64 m.lsn, .int .i64 m.value, .int .i64 m.scl, .slice ca m.cuts.length cc, .slice ka m.marks.length kc] 109) := ⟨_, rfl⟩
  have hbA : Below w.heap.size w wA := by rw [hwA]; exact hb1.alloc hs1 _
  have oA : wA.heap[w1.heap.size]? = some (.cells #[.int .i64 m.kind, .int .i64 m.frm, .int .i64 m.to_, .int .i64 m.epoch, .int .i64 m.lsn, .int .i64 m.value, .int .i64 m.scl, .slice ca m.cuts.length cc, .slice ka m.marks.length kc] 109 (0, 0)) := by rw [hwA]; exact heap_alloc_new w1 _
  have b1A : Below w1.heap.size w1 wA := by rw [hwA]; exact (Below.refl _ _).alloc (Nat.le_refl _) _
  have hsA : wA.heap.size = w1.heap.size + 1 := by rw [hwA]; simp
  go_wp2_with fail
  rw [← hwA]
  clear hwA
  refine (HY.out _ hbA).mono ?_
  rintro e1 w2 ⟨⟨v2, rfl, yc, yk, k1, k2, c1, c2, rfl, rc, rk⟩, hb2⟩
  have hs2 := hb2.size
  obtain ⟨yca, yccp, hcf, _⟩ := rc.form
  obtain ⟨yka, ykc, hkf, _⟩ := rk.form
  simp only [List.length_map] at hcf hkf
  subst hcf hkf
  have o2 := (hb2.block w1.heap.size (by omega)).trans oA
  have bw2 : Below w.heap.size w w2 := hbA.trans (hb2.mono (by omega))
  have b12 : Below w1.heap.size w1 w2 := b1A.trans (hb2.mono (by omega))
  obtain ⟨a0, a1, a2, a3, a4, a5, a6, a7, a8⟩ := cells9 o2
  have hlt12 : w1.heap.size < w2.heap.size := by omega
  have HO2 := hide o2
  clear o2 oA
  go_wp2_with fail
  have o2 := HO2.out
  obtain ⟨wB, hwB⟩ : ∃ wB, wB = w2.alloc (Obj.cells #[.int .i64 m.kind, .int .i64 m.frm, .int .i64 m.to_, .int .i64 m.epoch, .int .i64 m.lsn, .int .i64 m.value, .int .i64 m.scl, .slice yca m.cuts.length yccp, .slice yka m.marks.length ykc] 109) := ⟨_, rfl⟩
  rw [← hwB]
  have b2B : Below w2.heap.size w2 wB := by rw [hwB]; exact (Below.refl _ _).alloc (Nat.le_refl _) _
  have pB : wB.heap[w2.heap.size]? = some (.cells #[.int .i64 m.kind, .int .i64 m.frm, .int .i64 m.to_, .int .i64 m.epoch, .int .i64 m.lsn, .int .i64 m.value, .int .i64 m.scl, .slice yca m.cuts.length yccp, .slice yka m.marks.length ykc] 109 (0, 0)) := by rw [hwB]; exact heap_alloc_new w2 _
  have hsB : wB.heap.size = w2.heap.size + 1 := by rw [hwB]; simp
  have oB := (b2B.block w1.heap.size (by omega)).trans o2
  have b1B : Below w1.heap.size w1 wB := b12.trans (b2B.mono (by omega))
  have mcB := mc.kept b1B
  have mkB := mk.kept b1B
  have rcB := rc.below b2B
  have rkB := rk.below b2B
  have xcB : Rows (fun _ => 0) wB 0 53 2 (.slice ca m.cuts.length cc) (m.cuts.map cutRow) := mcB.colour (fun _ _ => rfl)
  have xkB : Rows (fun _ => 0) wB 0 3 1 (.slice ka m.marks.length kc) (m.marks.map intRow) := mkB.colour (fun _ _ => rfl)
  have HS1 : Hid (∀ W, Below wB.heap.size wB W → Calls Tryz.prog 53 #[.slice ca m.cuts.length cc, .slice yca m.cuts.length yccp] W fun e w' => e = .returned (.bool true) ∧ Below W.heap.size W w') := hide fun W hW => sameCuts_yes (xcB.below hW) (rcB.below hW) hdc
  have HS2 : Hid (∀ W, Below wB.heap.size wB W → Calls Tryz.prog 61 #[.slice ka m.marks.length kc, .slice yka m.marks.length ykc] W fun e w' => e = .returned (.bool true) ∧ Below W.heap.size W w') := hide fun W hW => sameInts_yes (xkB.below hW) (rkB.below hW) hdk
  have HOB := hide oB
  have HPB := hide pB
  clear o2 oB pB rc rk rcB rkB xcB xkB y0 y1 HX HY
  clear hwB
  refine (HS1.out _ (Below.refl _ _)).mono ?_
  rintro e1 w3 ⟨rfl, hb3⟩
  have hs3 := hb3.size
  clear a0 a1 a2 a3 a4 a5 a6 a7 a8
  obtain ⟨a0, a1, a2, a3, a4, a5, a6, a7, a8⟩ := cells9 ((hb3.block _ (by omega)).trans HOB.out)
  obtain ⟨p0, p1, p2, p3, p4, p5, p6, p7, p8⟩ := cells9 ((hb3.block _ (by omega)).trans HPB.out)
  go_wp2_with fail
  refine (HS2.out _ hb3).mono ?_
  rintro e1 w5 ⟨rfl, hb4⟩
  have hs4 := hb4.size
  have bB5 : Below wB.heap.size wB w5 := hb3.trans (hb4.mono (by omega))
  clear a0 a1 a2 a3 a4 a5 a6 a7 a8 p0 p1 p2 p3 p4 p5 p6 p7 p8
  obtain ⟨a0, a1, a2, a3, a4, a5, a6, a7, a8⟩ := cells9 ((bB5.block _ (by omega)).trans HOB.out)
  obtain ⟨p0, p1, p2, p3, p4, p5, p6, p7, p8⟩ := cells9 ((bB5.block _ (by omega)).trans HPB.out)
  have b15 : Below w1.heap.size w1 w5 := b1B.trans (bB5.mono (by omega))
  have bw5 : Below w.heap.size w w5 := hb1.trans (b15.mono hs1)
  go_wp2_with fail
  have hAblk := (bB5.block _ (by omega)).trans HOB.out
  clear a0 a1 a2 a3 a4 a5 a6 a7 a8 p0 p1 p2 p3 p4 p5 p6 p7 p8
  obtain ⟨r204, r208⟩ := colour2_rows (k := k) (mc.kept b15) (mk.kept b15) hl1 hlc
  have ev1 := below_colour2 (k := k) rfl bw5 (.slice ca m.cuts.length cc) (.slice ka m.marks.length kc) noC
  have hA : Blk (colour2 w.heap.size k (.slice ca m.cuts.length cc) (.slice ka m.marks.length kc)) w5 0 w1.heap.size 109 [.int .i64 m.kind, .int .i64 m.frm, .int .i64 m.to_, .int .i64 m.epoch, .int .i64 m.lsn, .int .i64 m.value, .int .i64 m.scl, .slice ca m.cuts.length cc, .slice ka m.marks.length kc] := by
    refine ⟨hAblk, ?_⟩
    unfold colour2
    rw [if_neg (by omega), if_neg (fun e => by have := (mc.block _ e).2; omega), if_neg (fun e => by have := (mk.block _ e).2; omega)]
  generalize colour2 w.heap.size k (.slice ca m.cuts.length cc) (.slice ka m.marks.length kc) = K1 at *
  have hL5 := h.evo ev1 (fun c _ => noC_not c) (fun c _ _ => noC_not c)
  have hlen1 : (m.cuts.map cutRow).length ≤ 4000000000 := by simpa using hdc
  have hlen2 : (m.marks.map intRow).length ≤ 4000000000 := by simpa using hdk
  clear hAblk HOB HPB
  refine (ownCuts_any hL5 r204 (by unfold is205; omega) (by omega) (fun c hc => by unfold is205 at hc; omega) hlen1 (by omega)).mono ?_
  rintro e1 w6 ⟨rfl, k6, ev6, hL6⟩
  have hA6 := hA.evo ev6 (by omega)
  have r208' := r208.evo ev6 (by omega)
  have a8 : w6.cell? ⟨w1.heap.size, 8, none⟩ = some (.slice ka m.marks.length kc) := hA6.cell 8
  go_wp2_with fail
  refine (ownInts_any hL6 r208' (by unfold is205; omega) (by omega) (fun c hc => by unfold is205 at hc; omega) hlen2 (by omega)).mono ?_
  rintro e1 w8 ⟨rfl, k8, ev8, hL8⟩
  clear a8
  go_wp2_with fail
  go_ret
  have eA : Evo k k8 cLaw w w8 := (ev1.mono (fun _ h => h.elim)).trans ((ev6.mono (fun c h => by unfold cLaw; omega)).trans (ev8.mono (fun c h => by unfold cLaw; omega)))
  refine ⟨rfl, reco w.heap.size k8, eA.recol, ?_, hcl.recol eA⟩
  exact hL8.recol (fun c hc => by unfold is205 at hc; omega) (fun g hg => by rw [eA.col g hg]; exact hcl g hg)

set_option maxHeartbeats 2000000 in
theorem lawWriter_any {k : Nat → Nat} {w : World} {b px py nC nR nI : Nat} (n : Int) (s : WSt) (err : Int) (h : LawIs k w is205 b px py nC nR nI)
    (hx : Calls Tryz.prog 57 #[.pointer (some ⟨px, 0, none⟩), .int .i64 n] w fun e w' => e = .returned (.tuple #[s.val, .int .i64 err]) ∧ Below w.heap.size w w')
    (hy : ∀ W, Below w.heap.size w W → Calls Tryz.prog 58 #[.pointer (some ⟨py, 0, none⟩), .int .i64 n] W fun e w' => e = .returned (.tuple #[s.val, .int .i64 err]) ∧ Below W.heap.size W w') :
    Calls Tryz.prog 22 #[.pointer (some ⟨b, 0, none⟩), .int .i64 n] w fun e w' => e = .returned (.bool true) ∧ Below w.heap.size w w' := by
  obtain ⟨vC, vR, vI, hB, -, -, -⟩ := h.ex
  have z0 : w.cell? ⟨b, 0, none⟩ = some (.pointer (some ⟨px, 0, none⟩)) := hB.cell 0
  have z1 : w.cell? ⟨b, 1, none⟩ = some (.pointer (some ⟨py, 0, none⟩)) := hB.cell 1
  have hbl := hB.lt
  have HX := hide hx
  have HY := hide hy
  clear hx hy hB
  unfold WSt.val at HX HY
  go_enter Tryz.func22, Tryz.ntmps22
  go_wp2_with fail
  refine HX.out.mono ?_
  rintro e1 w1 ⟨rfl, hb1⟩
  have hs1 := hb1.size
  have y1 := (hb1.cell (p := ⟨b, 1, none⟩) hbl).trans z1
  have hbl1 : b < w1.heap.size := by omega
  go_wp2_with fail
  have hbA := hb1.alloc hs1 (Obj.cells #[.int .i64 s.phase, .int .i64 s.base, .int .i64 s.next, .int .i64 s.dur] 105)
  refine (HY.out _ hbA).mono ?_
  rintro e1 w2 ⟨rfl, hb2⟩
  have hs2 := hb2.size
  simp only [World.size_alloc] at hs2
  have hk : Blk (fun _ => 0) w2 0 w1.heap.size 105 [.int .i64 s.phase, .int .i64 s.base, .int .i64 s.next, .int .i64 s.dur] := ⟨(hb2.block w1.heap.size (by simp)).trans (heap_alloc_new w1 _), rfl⟩
  have c0 : w2.cell? ⟨w1.heap.size, 0, none⟩ = some (.int .i64 s.phase) := hk.cell 0
  have c1 : w2.cell? ⟨w1.heap.size, 1, none⟩ = some (.int .i64 s.base) := hk.cell 1
  have c2 : w2.cell? ⟨w1.heap.size, 2, none⟩ = some (.int .i64 s.next) := hk.cell 2
  have c3 : w2.cell? ⟨w1.heap.size, 3, none⟩ = some (.int .i64 s.dur) := hk.cell 3
  have hlt : w1.heap.size < w2.heap.size := by omega
  have hB2 : Below w.heap.size w w2 := hbA.trans (hb2.mono (by simp; omega))
  clear hk
  go_wp2_with fail
  go_ret
  exact ⟨rfl, hB2.alloc hB2.size _⟩

set_option maxHeartbeats 1000000 in
theorem lawFlight_any {k : Nat → Nat} {w : World} {b px py nC nR nI : Nat} (n : Int) (h : LawIs k w is205 b px py nC nR nI)
    (hx : Calls Tryz.prog 63 #[.pointer (some ⟨px, 0, none⟩)] w fun e w' => e = .returned (.int .i64 n) ∧ w' = w)
    (hy : Calls Tryz.prog 23 #[.pointer (some ⟨py, 0, none⟩)] w fun e w' => e = .returned (.int .i64 n) ∧ w' = w) :
    Calls Tryz.prog 25 #[.pointer (some ⟨b, 0, none⟩)] w fun e w' => e = .returned (.bool true) ∧ w' = w := by
  obtain ⟨vC, vR, vI, hB, -, -, -⟩ := h.ex
  have z0 : w.cell? ⟨b, 0, none⟩ = some (.pointer (some ⟨px, 0, none⟩)) := hB.cell 0
  have z1 : w.cell? ⟨b, 1, none⟩ = some (.pointer (some ⟨py, 0, none⟩)) := hB.cell 1
  have HX := hide hx
  have HY := hide hy
  clear hx hy hB
  go_enter Tryz.func25, Tryz.ntmps25
  go_wp2_with fail
  refine HX.out.mono ?_
  rintro e1 w1 ⟨rfl, hw⟩
  subst hw
  go_wp2_with fail
  refine HY.out.mono ?_
  rintro e1 w2 ⟨rfl, hw⟩
  subst hw
  go_wp2_with fail
  go_ret
  exact ⟨rfl, rfl⟩
end Go.Proofs.YtfpbkghcjaonlaaGreat
