/-
  The program: Segment; Writer, Message, Flight where there is none.
-/
import Derived.Test.YtfpbkghcjaonlaaGreatXE
namespace Go.Proofs.YtfpbkghcjaonlaaGreat
open Go.RowKit

def ZSeg : Value := .tuple #[.agg #[.bool false, .int .i64 0, .int .i64 0, .slice none 0 0, .slice none 0 0, .slice none 0 0], .int .i64 11]

set_option maxHeartbeats 1000000 in
theorem isSegment_any (w : World) (n : Int) : Calls Tryz.prog 85 #[.int .i64 n] w fun e w' => e = .returned (.bool (decide (0 ≤ n) && decide (n < 6))) ∧ w' = w := by
  by_cases h0 : 0 ≤ n
  · have d0 : decide (0 ≤ n) = true := by simpa using h0
    go_enter Tryz.func85, Tryz.ntmps85
    go_wp2
    go_ret
    exact ⟨by simp [d0], rfl⟩
  · have d0 : decide (0 ≤ n) = false := by simpa using h0
    go_enter Tryz.func85, Tryz.ntmps85
    go_wp2
    go_ret
    exact ⟨by simp, rfl⟩

set_option maxHeartbeats 1000000 in
theorem xsegment_no (w : World) (b : Nat) (n : Int) (hn : n < 0 ∨ 5 < n) :
    Calls Tryz.prog 51 #[.pointer (some ⟨b, 0, none⟩), .int .i64 n] w fun e w' => e = .returned ZSeg ∧ Below w.heap.size w w' := by
  have hv : (decide (0 ≤ n) && decide (n < 6)) = false := by rw [Bool.and_eq_false_iff]; simp; omega
  have HC := hide (fun W => isSegment_any W n)
  rw [hv] at HC
  clear hv hn
  go_enter Tryz.func51, Tryz.ntmps51
  go_wp2_with fail
  refine (HC.out _).mono ?_
  rintro e w1 ⟨rfl, rfl⟩
  go_wp2_with fail
  exact bodyPost_ret (v := ZSeg) (by simp [ZSeg, results, Tryz.results51, go_sem]) rfl ⟨rfl, (Below.refl _ _).alloc (Nat.le_refl _) _⟩

set_option maxHeartbeats 4000000 in
theorem xsegment_in {k : Nat → Nat} {w : World} {b : Nat} {s : XSeg} {vc0 : Value} (i : Nat) (hi : i < 6) (h : SegAt w b (3 + i * 123) s vc0) (hc : CutsIm k w vc0 s.cuts) (hcl : s.cuts.length ≤ 4000000000) :
    Calls Tryz.prog 51 #[.pointer (some ⟨b, 0, none⟩), .int .i64 i] w fun e w' => (∃ v, e = .returned (.tuple #[v, .int .i64 0]) ∧ XState w.heap.size w' s v) ∧ Below w.heap.size w w' := by
  have hv : (decide (0 ≤ (i : Int)) && decide ((i : Int) < 6)) = true := by simp; omega
  have HI := hide (fun W => isSegment_any W (i : Int))
  rw [hv] at HI
  have HS : Hid (∀ W, Below w.heap.size w W → Calls Tryz.prog 100 #[.pointer (some ⟨b, 3 + i * 123, none⟩)] W fun e w' => (∃ v, e = .returned v ∧ XState W.heap.size w' s v) ∧ Below W.heap.size W w') := hide fun W hW => state_any (h.below hW) (hc.evo (Evo.of_below (C := noC) hW) (noC_not _)) hcl
  clear hv h hc
  go_enter Tryz.func51, Tryz.ntmps51
  go_wp2_with fail
  refine (HI.out _).mono ?_
  rintro e w1 ⟨rfl, hw1⟩
  subst hw1
  go_wp2_with fail
  have hB0 : Below w.heap.size w (w.alloc (Obj.cells #[.bool false, .int .i64 0, .int .i64 0, .slice none 0 0, .slice none 0 0, .slice none 0 0] 97)) := (Below.refl _ _).alloc (Nat.le_refl _) _
  refine (HS.out _ hB0).mono ?_
  rintro e w1 ⟨⟨v, rfl, hX⟩, hb1⟩
  have hs1 := hb1.size
  simp only [World.size_alloc] at hs1
  have hr1 := (hb1.block w.heap.size (by simp)).trans (heap_alloc_new w _)
  obtain ⟨g0, g1, g2, g3, g4, g5, g6, g7, g8, g9, g10, g11⟩ := cells6 hr1
  have hB1 : Below w.heap.size w w1 := hB0.trans (hb1.mono (by simp))
  have hX' := hX
  obtain ⟨vc, vk, vb, B1, B2, rfl, hl1, hl2, hlc, hlk, hm1, hm2, hm3⟩ := hX
  obtain ⟨ca, cc, hcf⟩ := hm1.form
  obtain ⟨ka, kc, hkf⟩ := hm2.form
  obtain ⟨ba, bc, hbf⟩ := hm3.form
  subst hcf hkf hbf
  clear hr1 hb1 HS HI hX'
  simp only [World.size_alloc] at hl1 hm1
  go_wp2_with fail
  refine bodyPost_ret (v := .tuple #[.agg #[.bool s.up, .int .i64 s.epoch, .int .i64 (xscl s), .slice ca (s.cuts.map cutRow).length cc, .slice ka ((xrecsUp s.places 2 40).map recRow).length kc, .slice ba ((xrecsUp s.places 1 40).map recRow).length bc], .int .i64 0]) (by simp [results, Tryz.results51, go_sem, g0, g1, g2, g3, g4, g5]) rfl ⟨⟨_, rfl, ⟨_, _, _, B1, B2, rfl, by omega, hl2, hlc, hlk, ?_, ?_, ?_⟩⟩, ?_⟩
  · exact (hm1.keeps fun d hd hd2 => other6 (by omega) _ _ _ _ _ _).weaken (by omega)
  · exact hm2.keeps fun d hd hd2 => other6 (by omega) _ _ _ _ _ _
  · exact hm3.keeps fun d hd hd2 => other6 (by omega) _ _ _ _ _ _
  · exact below6 hB1 (Nat.le_refl _) _ _ _ _ _ _

theorem below9 {B : Nat} {a w : World} (h : Below B a w) {b : Nat} (hb : B ≤ b) (v0 v1 v2 v3 v4 v5 v6 v7 v8 : Value) :
    Below B a (((((((((w.setCell ⟨b, 0, none⟩ v0).setCell ⟨b, 1, none⟩ v1).setCell ⟨b, 2, none⟩ v2).setCell ⟨b, 3, none⟩ v3).setCell ⟨b, 4, none⟩ v4).setCell ⟨b, 5, none⟩ v5).setCell ⟨b, 6, none⟩ v6).setCell ⟨b, 7, none⟩ v7).setCell ⟨b, 8, none⟩ v8) := by
  have h6 := below6 h hb v0 v1 v2 v3 v4 v5
  exact ((h6.setCell (p := ⟨b, 6, none⟩) hb v6).setCell (p := ⟨b, 7, none⟩) hb v7).setCell (p := ⟨b, 8, none⟩) hb v8

def ZMsg : Value := .tuple #[.agg #[.int .i64 0, .int .i64 0, .int .i64 0, .int .i64 0, .int .i64 0, .int .i64 0, .int .i64 0, .slice none 0 0, .slice none 0 0], .int .i64 12]

set_option maxHeartbeats 1000000 in
theorem isWriter_any (w : World) (b : Nat) (n : Int) (a : Option Addr) (len cap : Nat) (hc : w.cell? ⟨b, 741, none⟩ = some (.slice a len cap)) :
    Calls Tryz.prog 68 #[.pointer (some ⟨b, 0, none⟩), .int .i64 n] w fun e w' => e = .returned (.bool (decide (1 ≤ n) && decide (n ≤ (len : Int)))) ∧ w' = w := by
  by_cases h0 : 1 ≤ n
  · have d0 : decide (1 ≤ n) = true := by simpa using h0
    go_enter Tryz.func68, Tryz.ntmps68
    go_wp2
    go_ret
    exact ⟨by simp [d0], rfl⟩
  · have d0 : decide (1 ≤ n) = false := by simpa using h0
    go_enter Tryz.func68, Tryz.ntmps68
    go_wp2
    go_ret
    exact ⟨by simp, rfl⟩

set_option maxHeartbeats 1000000 in
theorem xwriter_no (w : World) (b : Nat) (n : Int) (a : Option Addr) (len cap : Nat) (hc : w.cell? ⟨b, 741, none⟩ = some (.slice a len cap)) (hn : n < 1 ∨ (len : Int) < n) :
    Calls Tryz.prog 57 #[.pointer (some ⟨b, 0, none⟩), .int .i64 n] w fun e w' => e = .returned (.tuple #[.agg #[.int .i64 0, .int .i64 0, .int .i64 0, .int .i64 0], .int .i64 3]) ∧ Below w.heap.size w w' := by
  have hv : (decide (1 ≤ n) && decide (n ≤ (len : Int))) = false := by rw [Bool.and_eq_false_iff]; simp; omega
  have hbl := World.block_lt_of_cell? w _ hc
  have HC : Hid (∀ W, Below w.heap.size w W → Calls Tryz.prog 68 #[.pointer (some ⟨b, 0, none⟩), .int .i64 n] W fun e w' => e = .returned (.bool false) ∧ w' = W) := hide fun W hW => by
    rw [← hv]; exact isWriter_any W b n a len cap ((hW.cell hbl).trans hc)
  clear hv hn
  go_enter Tryz.func57, Tryz.ntmps57
  go_wp2_with fail
  refine (HC.out _ ((Below.refl _ _).alloc (Nat.le_refl _) _)).mono ?_
  rintro e w1 ⟨rfl, rfl⟩
  go_wp2_with fail
  exact bodyPost_ret (v := .tuple #[.agg #[.int .i64 0, .int .i64 0, .int .i64 0, .int .i64 0], .int .i64 3]) (by simp [results, Tryz.results57, go_sem]) rfl ⟨rfl, (Below.refl _ _).alloc (Nat.le_refl _) _⟩

set_option maxHeartbeats 1000000 in
theorem look_no (w : World) (b : Nat) (n : Int) (a : Option Addr) (len cap : Nat) (hc : w.cell? ⟨b, 2, none⟩ = some (.slice a len cap)) (hn : n < 0 ∨ (len : Int) ≤ n) :
    Calls Tryz.prog 99 #[.pointer (some ⟨b, 1, none⟩), .int .i64 n] w fun e w' => e = .returned (.tuple #[.agg #[.int .i64 0, .int .i64 0, .int .i64 0, .int .i64 0, .int .i64 0, .int .i64 0, .int .i64 0, .slice none 0 0, .slice none 0 0], .bool false]) ∧ Below w.heap.size w w' := by
  have hbl := World.block_lt_of_cell? w _ hc
  by_cases h0 : n < 0
  · have d0 : decide (n < 0) = true := by simpa using h0
    go_enter Tryz.func99, Tryz.ntmps99
    go_wp2
    exact bodyPost_ret (v := .tuple #[.agg #[.int .i64 0, .int .i64 0, .int .i64 0, .int .i64 0, .int .i64 0, .int .i64 0, .int .i64 0, .slice none 0 0, .slice none 0 0], .bool false]) (by simp [results, Tryz.results99, go_sem]) rfl ⟨rfl, (Below.refl _ _).alloc (Nat.le_refl _) _⟩
  · have d0 : decide (n < 0) = false := by simpa using h0
    have h1 : (len : Int) ≤ n := by omega
    clear hn
    go_enter Tryz.func99, Tryz.ntmps99
    go_wp2
    exact bodyPost_ret (v := .tuple #[.agg #[.int .i64 0, .int .i64 0, .int .i64 0, .int .i64 0, .int .i64 0, .int .i64 0, .int .i64 0, .slice none 0 0, .slice none 0 0], .bool false]) (by simp [results, Tryz.results99, go_sem]) rfl ⟨rfl, (Below.refl _ _).alloc (Nat.le_refl _) _⟩

set_option maxHeartbeats 1000000 in
theorem xmessage_no (w : World) (b : Nat) (n : Int) (a : Option Addr) (len cap : Nat) (hc : w.cell? ⟨b, 2, none⟩ = some (.slice a len cap)) (hn : n < 0 ∨ (len : Int) ≤ n) :
    Calls Tryz.prog 59 #[.pointer (some ⟨b, 0, none⟩), .int .i64 n] w fun e w' => e = .returned ZMsg ∧ Below w.heap.size w w' := by
  have hbl := World.block_lt_of_cell? w _ hc
  have HC : Hid (∀ W, Below w.heap.size w W → Calls Tryz.prog 99 #[.pointer (some ⟨b, 1, none⟩), .int .i64 n] W fun e w' => e = .returned (.tuple #[.agg #[.int .i64 0, .int .i64 0, .int .i64 0, .int .i64 0, .int .i64 0, .int .i64 0, .int .i64 0, .slice none 0 0, .slice none 0 0], .bool false]) ∧ Below W.heap.size W w') := hide fun W hW =>
    look_no W b n a len cap ((hW.cell hbl).trans hc) hn
  clear hn
  go_enter Tryz.func59, Tryz.ntmps59
  go_wp2_with fail
  refine (HC.out _ ((Below.refl _ _).alloc (Nat.le_refl _) _)).mono ?_
  rintro e w1 ⟨rfl, hb1⟩
  have hs1 := hb1.size
  simp only [World.size_alloc] at hs1
  have hB1 : Below w.heap.size w w1 := ((Below.refl _ _).alloc (Nat.le_refl _) _).trans (hb1.mono (by simp))
  have hk : Blk (fun _ => 0) w1 0 w.heap.size 109 [.int .i64 0, .int .i64 0, .int .i64 0, .int .i64 0, .int .i64 0, .int .i64 0, .int .i64 0, .slice none 0 0, .slice none 0 0] := ⟨(hb1.block w.heap.size (by simp)).trans (heap_alloc_new w _), rfl⟩
  have g0 : w1.cell? ⟨w.heap.size, 0, none⟩ = some (.int .i64 0) := hk.cell 0
  have g1 : w1.cell? ⟨w.heap.size, 1, none⟩ = some (.int .i64 0) := hk.cell 1
  have g2 : w1.cell? ⟨w.heap.size, 2, none⟩ = some (.int .i64 0) := hk.cell 2
  have g3 : w1.cell? ⟨w.heap.size, 3, none⟩ = some (.int .i64 0) := hk.cell 3
  have g4 : w1.cell? ⟨w.heap.size, 4, none⟩ = some (.int .i64 0) := hk.cell 4
  have g5 : w1.cell? ⟨w.heap.size, 5, none⟩ = some (.int .i64 0) := hk.cell 5
  have g6 : w1.cell? ⟨w.heap.size, 6, none⟩ = some (.int .i64 0) := hk.cell 6
  have g7 : w1.cell? ⟨w.heap.size, 7, none⟩ = some (.slice none 0 0) := hk.cell 7
  have g8 : w1.cell? ⟨w.heap.size, 8, none⟩ = some (.slice none 0 0) := hk.cell 8
  have f0 := hk.free 0
  have f1 := hk.free 1
  have f2 := hk.free 2
  have f3 := hk.free 3
  have f4 := hk.free 4
  have f5 := hk.free 5
  have f6 := hk.free 6
  have f7 := hk.free 7
  have f8 := hk.free 8
  have hlt : w.heap.size < w1.heap.size := by omega
  clear hb1 hk HC
  go_wp2_with fail
  refine bodyPost_ret (v := ZMsg) (by simp [ZMsg, results, Tryz.results59, go_sem, g0, g1, g2, g3, g4, g5, g6, g7, g8, hlt]) rfl ⟨rfl, ?_⟩
  have b9 := below9 hB1 (Nat.le_refl w.heap.size) (.int .i64 0) (.int .i64 0) (.int .i64 0) (.int .i64 0) (.int .i64 0) (.int .i64 0) (.int .i64 0) (.slice none 0 0) (.slice none 0 0)
  exact b9.alloc b9.size _

set_option maxHeartbeats 1000000 in
theorem netFlight_any (w : World) (b : Nat) (a : Option Addr) (len cap : Nat) (hc : w.cell? ⟨b, 2, none⟩ = some (.slice a len cap)) :
    Calls Tryz.prog 104 #[.pointer (some ⟨b, 1, none⟩)] w fun e w' => e = .returned (.int .i64 len) ∧ w' = w := by
  go_enter Tryz.func104, Tryz.ntmps104
  go_wp2
  go_ret
  exact ⟨rfl, rfl⟩

set_option maxHeartbeats 1000000 in
theorem xflight_any (w : World) (b : Nat) (a : Option Addr) (len cap : Nat) (hc : w.cell? ⟨b, 2, none⟩ = some (.slice a len cap)) :
    Calls Tryz.prog 63 #[.pointer (some ⟨b, 0, none⟩)] w fun e w' => e = .returned (.int .i64 len) ∧ w' = w := by
  have HC := hide (netFlight_any w b a len cap hc)
  go_enter Tryz.func63, Tryz.ntmps63
  go_wp2_with fail
  refine HC.out.mono ?_
  rintro e w1 ⟨rfl, rfl⟩
  go_wp2_with fail
  go_ret
  exact ⟨rfl, rfl⟩
end Go.Proofs.YtfpbkghcjaonlaaGreat
