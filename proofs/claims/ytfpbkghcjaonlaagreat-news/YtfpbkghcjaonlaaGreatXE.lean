/-
  The program: a segment's State; Segment.
-/
import Derived.Test.YtfpbkghcjaonlaaGreatXD
namespace Go.Proofs.YtfpbkghcjaonlaaGreat
open Go.RowKit

/-- What State hands back: three lists of its own, in three blocks. -/
def XState (B0 : Nat) (w' : World) (s : XSeg) (v : Value) : Prop :=
  ∃ vc vk vb B1 B2, v = .agg #[.bool s.up, .int .i64 s.epoch, .int .i64 (xscl s), vc, vk, vb] ∧ B0 ≤ B1 ∧ B1 ≤ B2 ∧ (∀ g, vc.ownBlock = some g → g < B1) ∧ (∀ g, vk.ownBlock = some g → g < B2) ∧
    Made w' B0 53 2 vc (s.cuts.map cutRow) ∧ Made w' B1 59 3 vk ((xrecsUp s.places 2 40).map recRow) ∧ Made w' B2 59 3 vb ((xrecsUp s.places 1 40).map recRow)

theorem Made.block {w : World} {B e size : Nat} {v : Value} {rows : List (List Value)} (h : Made w B e size v rows) : ∀ g, v.ownBlock = some g → B ≤ g ∧ g < w.heap.size := h.2.lt

set_option maxHeartbeats 4000000 in
theorem state_any {k : Nat → Nat} {w : World} {b o : Nat} {s : XSeg} {vc0 : Value} (h : SegAt w b o s vc0) (hc : CutsIm k w vc0 s.cuts) (hcl : s.cuts.length ≤ 4000000000) :
    Calls Tryz.prog 100 #[.pointer (some ⟨b, o, none⟩)] w fun e w' => (∃ v, e = .returned v ∧ XState w.heap.size w' s v) ∧ Below w.heap.size w w' := by
  have hbl := h.lt
  have s0 : w.cell? ⟨b, o, none⟩ = some (.bool s.up) := h.cell 0 (by omega)
  have s1 : w.cell? ⟨b, o + 1, none⟩ = some (.int .i64 s.epoch) := h.cell 1 (by omega)
  have s2 : w.cell? ⟨b, o + 2, none⟩ = some vc0 := h.cell 2 (by omega)
  have HC : Hid (∀ W, Below w.heap.size w W → Calls Tryz.prog 113 #[.pointer (some ⟨b, o, none⟩)] W fun e w' => e = .returned (.int .i64 (xscl s)) ∧ w' = W) := hide fun W hW => xscl_any (h.below hW)
  have HP : Hid (∀ W, Below w.heap.size w W → Calls Tryz.prog 118 #[vc0] W fun e w' => (∃ z, e = .returned z ∧ Made w' W.heap.size 53 2 z (s.cuts.map cutRow)) ∧ Below W.heap.size W w') := hide fun W hW => copy_any (hc.evo (Evo.of_below (C := noC) hW) (noC_not _)) hcl
  have HR : Hid (∀ (st : Int) W, Below w.heap.size w W → Calls Tryz.prog 119 #[.pointer (some ⟨b, o, none⟩), .int .i64 st] W fun e w' => (∃ z, e = .returned z ∧ Made w' W.heap.size 59 3 z ((xrecsUp s.places st 40).map recRow)) ∧ Below W.heap.size W w') := hide fun st W hW => xrecords_any st (h.below hW)
  clear h hc
  go_enter Tryz.func100, Tryz.ntmps100
  go_wp2_with fail
  go_region_held3 (fun w' => w'.cell? ⟨b, o, none⟩ = some (.bool s.up) ∧ w'.cell? ⟨b, o + 1, none⟩ = some (.int .i64 s.epoch)) (go_keep) (fail)
  obtain ⟨W, hW⟩ : ∃ W, W = ((w.alloc (Obj.cells #[.bool false, .int .i64 0, .int .i64 0, .slice none 0 0, .slice none 0 0, .slice none 0 0] 97)).alloc (Obj.cells #[.bool s.up, .int .i64 s.epoch, .int .i64 0, .slice none 0 0, .slice none 0 0, .slice none 0 0] 97)).drew := ⟨_, rfl⟩
  have hB0 : Below w.heap.size w W := by rw [hW]; exact (((Below.refl _ _).alloc (Nat.le_refl _) _).alloc (by simp) _).drew
  have ho0 : W.heap[w.heap.size + 1]? = some (.cells #[.bool s.up, .int .i64 s.epoch, .int .i64 0, .slice none 0 0, .slice none 0 0, .slice none 0 0] 97 (0, 0)) := by rw [hW]; exact heap_alloc2_new w _ _
  have hr0 : W.heap[w.heap.size]? = some (.cells #[.bool false, .int .i64 0, .int .i64 0, .slice none 0 0, .slice none 0 0, .slice none 0 0] 97 (0, 0)) := by rw [hW]; exact heap_alloc2_old w _ _
  rw [← hW]
  have HO := hide ho0
  have HR0 := hide hr0
  obtain ⟨d0, d1, d2, d3, d4, d5, d6, d7, d8, d9, d10, d11⟩ := cells6 ho0
  clear hW ho0 hr0
  have hsz := hB0.size
  have t2 := (hB0.cell (p := ⟨b, o + 2, none⟩) hbl).trans s2
  -- the Scl
  have HK := hide (HC.out _ hB0)
  go_wp2_with fail
  refine HK.out.mono ?_
  rintro e1 w1 ⟨rfl, hw1⟩
  subst hw1
  clear HK
  have hBa := hB0.setCell (p := ⟨w.heap.size + 1, 2, none⟩) (by simp) (.int .i64 (xscl s))
  have HOa := hide (heap_setCell_same w1 (w.heap.size + 1) 2 _ _ (.int .i64 (xscl s)) HO.out)
  have HRa := hide ((heap_setCell_other w1 ⟨w.heap.size + 1, 2, none⟩ w.heap.size (.int .i64 (xscl s)) (by simp)).trans HR0.out)
  have hsa := hBa.size
  -- the cuts
  have HK := hide (HP.out _ hBa)
  go_wp2_with fail
  refine HK.out.mono ?_
  rintro e1 w2 ⟨⟨zc, rfl, hk2⟩, hb2⟩
  clear HK d0 d1 d2 d3 d4 d5 d6 d7 d8 d9 d10 d11 t2
  obtain ⟨ca, cc, hcf⟩ := hk2.form
  simp only [List.length_map] at hcf
  subst hcf
  have hlo2 : w.heap.size + 1 < w1.heap.size := (Array.getElem?_eq_some_iff.1 HO.out).1
  have hz1 : (w1.setCell ⟨w.heap.size + 1, 2, none⟩ (.int .i64 (xscl s))).heap.size = w1.heap.size := by simp [World.setCell]
  have hB2 : Below w.heap.size w w2 := hBa.trans (hb2.mono (by omega))
  have o2 := (hb2.block (w.heap.size + 1) (by omega)).trans HOa.out
  have r2 := (hb2.block w.heap.size (by omega)).trans HRa.out
  simp only [List.setIfInBounds_toArray, List.set_cons_succ, List.set_cons_zero] at o2
  obtain ⟨d0, d1, d2, d3, d4, d5, d6, d7, d8, d9, d10, d11⟩ := cells6 o2
  have HO2 := hide o2
  have HR2 := hide r2
  clear o2 r2
  have hsz2 := hb2.size
  -- the kept ones
  have hBb := hB2.setCell (p := ⟨w.heap.size + 1, 3, none⟩) (by simp) (.slice ca s.cuts.length cc)
  have HOb := hide (heap_setCell_same w2 (w.heap.size + 1) 3 _ _ (.slice ca s.cuts.length cc) HO2.out)
  have HRb := hide ((heap_setCell_other w2 ⟨w.heap.size + 1, 3, none⟩ w.heap.size (.slice ca s.cuts.length cc) (by simp)).trans HR2.out)
  have HK := hide (HR.out 2 _ hBb)
  go_wp2_with fail
  refine HK.out.mono ?_
  rintro e1 w3 ⟨⟨zk, rfl, hk3⟩, hb3⟩
  clear HK d0 d1 d2 d3 d4 d5 d6 d7 d8 d9 d10 d11
  obtain ⟨ka, kc, hkf⟩ := hk3.form
  simp only [List.length_map] at hkf
  subst hkf
  have hz2 : (w2.setCell ⟨w.heap.size + 1, 3, none⟩ (.slice ca s.cuts.length cc)).heap.size = w2.heap.size := by simp [World.setCell]
  have hB3 : Below w.heap.size w w3 := hBb.trans (hb3.mono (by omega))
  have o3 := (hb3.block (w.heap.size + 1) (by omega)).trans HOb.out
  have r3 := (hb3.block w.heap.size (by omega)).trans HRb.out
  simp only [List.setIfInBounds_toArray, List.set_cons_succ, List.set_cons_zero] at o3
  obtain ⟨d0, d1, d2, d3, d4, d5, d6, d7, d8, d9, d10, d11⟩ := cells6 o3
  have HO3 := hide o3
  have HR3 := hide r3
  clear o3 r3
  have hsz3 := hb3.size
  -- the buffer
  have hBc := hB3.setCell (p := ⟨w.heap.size + 1, 4, none⟩) (by simp) (.slice ka (xrecsUp s.places 2 40).length kc)
  have HOc := hide (heap_setCell_same w3 (w.heap.size + 1) 4 _ _ (.slice ka (xrecsUp s.places 2 40).length kc) HO3.out)
  have HRc := hide ((heap_setCell_other w3 ⟨w.heap.size + 1, 4, none⟩ w.heap.size (.slice ka (xrecsUp s.places 2 40).length kc) (by simp)).trans HR3.out)
  have HK := hide (HR.out 1 _ hBc)
  go_wp2_with fail
  refine HK.out.mono ?_
  rintro e1 w4 ⟨⟨zb, rfl, hk4⟩, hb4⟩
  clear HK d0 d1 d2 d3 d4 d5 d6 d7 d8 d9 d10 d11
  obtain ⟨ba, bc, hbf⟩ := hk4.form
  simp only [List.length_map] at hbf
  subst hbf
  have hz3 : (w3.setCell ⟨w.heap.size + 1, 4, none⟩ (.slice ka (xrecsUp s.places 2 40).length kc)).heap.size = w3.heap.size := by simp [World.setCell]
  have hB4 : Below w.heap.size w w4 := hBc.trans (hb4.mono (by omega))
  have o4 := (hb4.block (w.heap.size + 1) (by omega)).trans HOc.out
  have r4 := (hb4.block w.heap.size (by omega)).trans HRc.out
  simp only [List.setIfInBounds_toArray, List.set_cons_succ, List.set_cons_zero] at o4
  obtain ⟨d0, d1, d2, d3, d4, d5, d6, d7, d8, d9, d10, d11⟩ := cells6 o4
  obtain ⟨g0, g1, g2, g3, g4, g5, g6, g7, g8, g9, g10, g11⟩ := cells6 r4
  have HO4 := hide o4
  have HR4 := hide r4
  clear o4 r4
  have hsz4 := hb4.size
  go_wp2_with fail
  rw [hz1] at hk2 hb2 hsz2
  rw [hz2] at hk3 hb3 hsz3
  rw [hz3] at hk4 hb4 hsz4
  refine bodyPost_ret (v := .agg #[.bool s.up, .int .i64 s.epoch, .int .i64 (xscl s), .slice ca s.cuts.length cc, .slice ka (xrecsUp s.places 2 40).length kc, .slice ba (xrecsUp s.places 1 40).length bc]) (by simp [results, Tryz.results100, go_sem, g0, g1, g2, g3, g4, g5]) rfl ⟨⟨_, rfl, _, _, _, w2.heap.size, w3.heap.size, rfl, by omega, by omega, fun g hg => (hk2.block g hg).2, fun g hg => (hk3.block g hg).2, ?_, ?_, ?_⟩, ?_⟩
  · refine (hk2.keeps fun d hd hd2 => ?_).weaken (by omega)
    rw [other6 (by omega), heap_setCell_other _ _ _ _ (by simp; omega), hb4.block d (by omega), heap_setCell_other _ _ _ _ (by simp; omega), hb3.block d (by omega), heap_setCell_other _ _ _ _ (by simp; omega)]
  · refine hk3.keeps fun d hd hd2 => ?_
    rw [other6 (by omega), heap_setCell_other _ _ _ _ (by simp; omega), hb4.block d (by omega), heap_setCell_other _ _ _ _ (by simp; omega)]
  · refine hk4.keeps fun d hd hd2 => ?_
    rw [other6 (by omega), heap_setCell_other _ _ _ _ (by simp; omega)]
  · exact below6 (hB4.setCell (p := ⟨w.heap.size + 1, 5, none⟩) (by simp) _) (Nat.le_refl _) _ _ _ _ _ _
end Go.Proofs.YtfpbkghcjaonlaaGreat
