/-
  sixfoldlaw: segment, the walk.
-/
import Derived.Test.YtfpbkghcjaonlaaGreatLawG
namespace Go.Proofs.YtfpbkghcjaonlaaGreat
open Go.RowKit

def cLaw : Nat → Prop := fun c => 200 ≤ c ∧ c < 209
def is205 : Nat → Prop := fun c => c = 205

set_option maxRecDepth 100000 in
set_option maxHeartbeats 8000000 in
theorem lawSegment_any {k : Nat → Nat} {w : World} {b px py nC nR nI : Nat} (n : Int) (d : SegD) (h : LawIs k w is205 b px py nC nR nI) (hcl : Clean k w)
    (hx : ∀ W, Below w.heap.size w W → Calls Tryz.prog 51 #[.pointer (some ⟨px, 0, none⟩), .int .i64 n] W fun e w' => (∃ v, e = .returned v ∧ XAns W.heap.size w' d v) ∧ Below W.heap.size W w')
    (hy : ∀ W, Below w.heap.size w W → Calls Tryz.prog 52 #[.pointer (some ⟨py, 0, none⟩), .int .i64 n] W fun e w' => (∃ v, e = .returned v ∧ YAns w' d v) ∧ Below W.heap.size W w')
    (hC : nC ≤ 3900000000) (hR : nR ≤ 3900000000) (hdc : d.cuts.length ≤ 4000000000) (hdk : d.kept.length ≤ 4000000000) (hdb : d.buf.length ≤ 4000000000) :
    Calls Tryz.prog 21 #[.pointer (some ⟨b, 0, none⟩), .int .i64 n] w fun e w' => e = .returned (.bool true) ∧
      ∃ k', Evo k k' cLaw w w' ∧ LawIs k' w' is205 b px py (nC + 4) (nR + 8) nI ∧ Clean k' w' := by
  obtain ⟨vC, vR, vI, hB, -, -, -⟩ := h.ex
  have z0 : w.cell? ⟨b, 0, none⟩ = some (.pointer (some ⟨px, 0, none⟩)) := hB.cell 0
  have z1 : w.cell? ⟨b, 1, none⟩ = some (.pointer (some ⟨py, 0, none⟩)) := hB.cell 1
  have hbl := hB.lt
  have HX := hide hx
  have HY := hide hy
  clear hx hy hB
  go_enter Tryz.func21, Tryz.ntmps21
  go_wp2_with fail
  refine (HX.out _ (Below.refl _ _)).mono ?_
  rintro e1 w1 ⟨⟨v, rfl, vc, vk, vb, B1, B2, rfl, hl1, hl2, hlc, hlk, mc, mk, mb⟩, hb1⟩
  have hs1 := hb1.size
  obtain ⟨ca, cc, hcf⟩ := mc.form
  obtain ⟨ka, kc, hkf⟩ := mk.form
  obtain ⟨ba, bc, hbf⟩ := mb.form
  simp only [List.length_map] at hcf hkf hbf
  subst hcf hkf hbf
  have y0 := (hb1.cell (p := ⟨b, 0, none⟩) hbl).trans z0
  have y1 := (hb1.cell (p := ⟨b, 1, none⟩) hbl).trans z1
  have hbl1 : b < w1.heap.size := by omega
  -- the document's
  obtain ⟨wA, hwA⟩ : ∃ wA, wA = w1.alloc (Obj.cells #[.bool d.up, .int .i64 d.epoch, .int .i64 d.scl, .slice ca d.cuts.length cc, .slice ka d.kept.length kc, .slice ba d.buf.length bc] 97) := ⟨_, rfl⟩
  have hbA : Below w.heap.size w wA := by rw [hwA]; exact hb1.alloc hs1 _
  have oA : wA.heap[w1.heap.size]? = some (.cells #[.bool d.up, .int .i64 d.epoch, .int .i64 d.scl, .slice ca d.cuts.length cc, .slice ka d.kept.length kc, .slice ba d.buf.length bc] 97 (0, 0)) := by rw [hwA]; exact heap_alloc_new w1 _
  have b1A : Below w1.heap.size w1 wA := by rw [hwA]; exact (Below.refl _ _).alloc (Nat.le_refl _) _
  have hsA : wA.heap.size = w1.heap.size + 1 := by rw [hwA]; simp
  go_wp2_with fail
  rw [← hwA]
  clear hwA
  refine (HY.out _ hbA).mono ?_
  rintro e1 w2 ⟨⟨v2, rfl, yc, yk, yb, k1, k2, k3, c1, c2, c3, rfl, rc, rk, rb⟩, hb2⟩
  have hs2 := hb2.size
  obtain ⟨yca, yccp, hcf, _⟩ := rc.form
  obtain ⟨yka, ykc, hkf, _⟩ := rk.form
  obtain ⟨yba, ybc, hbf, _⟩ := rb.form
  simp only [List.length_map] at hcf hkf hbf
  subst hcf hkf hbf
  have o2 := (hb2.block w1.heap.size (by omega)).trans oA
  have bw2 : Below w.heap.size w w2 := hbA.trans (hb2.mono (by omega))
  have b12 : Below w1.heap.size w1 w2 := b1A.trans (hb2.mono (by omega))
  obtain ⟨a0, a1, a2, a3, a4, a5, -⟩ := cells6 o2
  have hlt12 : w1.heap.size < w2.heap.size := by omega
  have HO2 := hide o2
  have HOA := hide oA
  clear o2 oA
  go_wp2_with fail
  have o2 := HO2.out
  obtain ⟨wB, hwB⟩ : ∃ wB, wB = w2.alloc (Obj.cells #[.bool d.up, .int .i64 d.epoch, .int .i64 d.scl, .slice yca d.cuts.length yccp, .slice yka d.kept.length ykc, .slice yba d.buf.length ybc] 97) := ⟨_, rfl⟩
  rw [← hwB]
  have b2B : Below w2.heap.size w2 wB := by rw [hwB]; exact (Below.refl _ _).alloc (Nat.le_refl _) _
  have pB : wB.heap[w2.heap.size]? = some (.cells #[.bool d.up, .int .i64 d.epoch, .int .i64 d.scl, .slice yca d.cuts.length yccp, .slice yka d.kept.length ykc, .slice yba d.buf.length ybc] 97 (0, 0)) := by rw [hwB]; exact heap_alloc_new w2 _
  have hsB : wB.heap.size = w2.heap.size + 1 := by rw [hwB]; simp
  have oB := (b2B.block w1.heap.size (by omega)).trans o2
  have b1B : Below w1.heap.size w1 wB := b12.trans (b2B.mono (by omega))
  have mcB := mc.kept b1B
  have mkB := mk.kept b1B
  have mbB := mb.kept b1B
  have rcB := rc.below b2B
  have rkB := rk.below b2B
  have rbB := rb.below b2B
  have xcB : Rows (fun _ => 0) wB 0 53 2 (.slice ca d.cuts.length cc) (d.cuts.map cutRow) := mcB.colour (fun _ _ => rfl)
  have xkB : Rows (fun _ => 0) wB 0 59 3 (.slice ka d.kept.length kc) (d.kept.map recRow) := mkB.colour (fun _ _ => rfl)
  have xbB : Rows (fun _ => 0) wB 0 59 3 (.slice ba d.buf.length bc) (d.buf.map recRow) := mbB.colour (fun _ _ => rfl)
  have HS1 : Hid (∀ W, Below wB.heap.size wB W → Calls Tryz.prog 53 #[.slice ca d.cuts.length cc, .slice yca d.cuts.length yccp] W fun e w' => e = .returned (.bool true) ∧ Below W.heap.size W w') := hide fun W hW => sameCuts_yes (xcB.below hW) (rcB.below hW) hdc
  have HS2 : Hid (∀ W, Below wB.heap.size wB W → Calls Tryz.prog 54 #[.slice ka d.kept.length kc, .slice yka d.kept.length ykc] W fun e w' => e = .returned (.bool true) ∧ Below W.heap.size W w') := hide fun W hW => sameRecords_yes (xkB.below hW) (rkB.below hW) hdk
  have HS3 : Hid (∀ W, Below wB.heap.size wB W → Calls Tryz.prog 54 #[.slice ba d.buf.length bc, .slice yba d.buf.length ybc] W fun e w' => e = .returned (.bool true) ∧ Below W.heap.size W w') := hide fun W hW => sameRecords_yes (xbB.below hW) (rbB.below hW) hdb
  have HOB := hide oB
  have HPB := hide pB
  clear o2 oB pB rc rk rb rcB rkB rbB xcB xkB xbB y0 y1 HX HY
  clear hwB
  -- the three comparisons
  refine (HS1.out _ (Below.refl _ _)).mono ?_
  rintro e1 w3 ⟨rfl, hb3⟩
  have hs3 := hb3.size
  clear a0 a1 a2 a3 a4 a5
  obtain ⟨a0, a1, a2, a3, a4, a5, -⟩ := cells6 ((hb3.block _ (by omega)).trans HOB.out)
  obtain ⟨p0, p1, p2, p3, p4, p5, -⟩ := cells6 ((hb3.block _ (by omega)).trans HPB.out)
  go_wp2_with fail
  refine (HS2.out _ hb3).mono ?_
  rintro e1 w4 ⟨rfl, hb4⟩
  have hs4 := hb4.size
  have bB4 : Below wB.heap.size wB w4 := hb3.trans (hb4.mono (by omega))
  clear a0 a1 a2 a3 a4 a5 p0 p1 p2 p3 p4 p5
  obtain ⟨a0, a1, a2, a3, a4, a5, -⟩ := cells6 ((bB4.block _ (by omega)).trans HOB.out)
  obtain ⟨p0, p1, p2, p3, p4, p5, -⟩ := cells6 ((bB4.block _ (by omega)).trans HPB.out)
  go_wp2_with fail
  refine (HS3.out _ bB4).mono ?_
  rintro e1 w5 ⟨rfl, hb5⟩
  have hs5 := hb5.size
  have bB5 : Below wB.heap.size wB w5 := bB4.trans (hb5.mono (by omega))
  clear a0 a1 a2 a3 a4 a5 p0 p1 p2 p3 p4 p5
  obtain ⟨a0, a1, a2, a3, a4, a5, -⟩ := cells6 ((bB5.block _ (by omega)).trans HOB.out)
  obtain ⟨p0, p1, p2, p3, p4, p5, -⟩ := cells6 ((bB5.block _ (by omega)).trans HPB.out)
  have b15 : Below w1.heap.size w1 w5 := b1B.trans (bB5.mono (by omega))
  have bw5 : Below w.heap.size w w5 := hb1.trans (b15.mono hs1)
  go_wp2_with fail
  -- the caller's lists
  have hAblk := (bB5.block _ (by omega)).trans HOB.out
  clear a0 a1 a2 a3 a4 a5 p0 p1 p2 p3 p4 p5
  obtain ⟨r204, r206, r207⟩ := colour3_rows (k := k) (mc.kept b15) (mk.kept b15) (mb.kept b15) hl1 hl2 hlc hlk
  have ev1 := below_colour3 (k := k) rfl bw5 (.slice ca d.cuts.length cc) (.slice ka d.kept.length kc) (.slice ba d.buf.length bc) noC
  have hA : Blk (colour3 w.heap.size k (.slice ca d.cuts.length cc) (.slice ka d.kept.length kc) (.slice ba d.buf.length bc)) w5 0 w1.heap.size 97 [.bool d.up, .int .i64 d.epoch, .int .i64 d.scl, .slice ca d.cuts.length cc, .slice ka d.kept.length kc, .slice ba d.buf.length bc] := by
    refine ⟨hAblk, ?_⟩
    unfold colour3
    rw [if_neg (by omega), if_neg (fun e => by have := (mc.block _ e).2; omega), if_neg (fun e => by have := (mk.block _ e).2; omega), if_neg (fun e => by have := (mb.block _ e).2; omega)]
  generalize colour3 w.heap.size k (.slice ca d.cuts.length cc) (.slice ka d.kept.length kc) (.slice ba d.buf.length bc) = K1 at *
  have hL5 := h.evo ev1 (fun c _ => noC_not c) (fun c _ _ => noC_not c)
  have hlen1 : (d.cuts.map cutRow).length ≤ 4000000000 := by simpa using hdc
  have hlen2 : (d.kept.map recRow).length ≤ 4000000000 := by simpa using hdk
  have hlen3 : (d.buf.map recRow).length ≤ 4000000000 := by simpa using hdb
  clear hAblk HOB HPB
  refine (ownCuts_any hL5 r204 (by unfold is205; omega) (by omega) (fun c hc => by unfold is205 at hc; omega) hlen1 (by omega)).mono ?_
  rintro e1 w6 ⟨rfl, k6, ev6, hL6⟩
  have hA6 := hA.evo ev6 (by omega)
  have r206' := r206.evo ev6 (by omega)
  have r207' := r207.evo ev6 (by omega)
  have a4 : w6.cell? ⟨w1.heap.size, 4, none⟩ = some (.slice ka d.kept.length kc) := hA6.cell 4
  go_wp2_with fail
  refine (ownRecords_any hL6 r206' (by unfold is205; omega) (by omega) (fun c hc => by unfold is205 at hc; omega) hlen2 (by omega)).mono ?_
  rintro e1 w7 ⟨rfl, k7, ev7, hL7⟩
  have hA7 := hA6.evo ev7 (by omega)
  have r207'' := r207'.evo ev7 (by omega)
  have a5 : w7.cell? ⟨w1.heap.size, 5, none⟩ = some (.slice ba d.buf.length bc) := hA7.cell 5
  clear a4
  go_wp2_with fail
  refine (ownRecords_any hL7 r207'' (by unfold is205; omega) (by omega) (fun c hc => by unfold is205 at hc; omega) hlen3 (by omega)).mono ?_
  rintro e1 w8 ⟨rfl, k8, ev8, hL8⟩
  clear a5
  go_wp2_with fail
  go_ret
  have eA : Evo k k8 cLaw w w8 := (ev1.mono (fun _ h => h.elim)).trans ((ev6.mono (fun c h => by unfold cLaw; omega)).trans ((ev7.mono (fun c h => by unfold cLaw; omega)).trans (ev8.mono (fun c h => by unfold cLaw; omega))))
  refine ⟨rfl, reco w.heap.size k8, eA.recol, ?_, hcl.recol eA⟩
  exact hL8.recol (fun c hc => by unfold is205 at hc; omega) (fun g hg => by rw [eA.col g hg]; exact hcl g hg)
end Go.Proofs.YtfpbkghcjaonlaaGreat
