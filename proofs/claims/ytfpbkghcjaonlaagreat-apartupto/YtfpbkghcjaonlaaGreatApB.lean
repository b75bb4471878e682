import Derived.Test.YtfpbkghcjaonlaaGreatApA
/-
  Apart: the walk.
-/
namespace Go.Proofs.YtfpbkghcjaonlaaGreat.Sim
open Go.RowKit

theorem cfg2 (w : World) (a b c d : Int) : Below w.heap.size w ((w.alloc (Obj.cells #[.int .i64 a, .int .i64 b] 23)).alloc (Obj.cells #[.int .i64 c, .int .i64 d] 23)) ∧ ((w.alloc (Obj.cells #[.int .i64 a, .int .i64 b] 23)).alloc (Obj.cells #[.int .i64 c, .int .i64 d] 23)).heap[w.heap.size + 1]? = some (.cells #[.int .i64 c, .int .i64 d] 23 (0, 0)) :=
  ⟨((Below.refl _ _).alloc (Nat.le_refl _) _).alloc (by simp) _, heap_alloc2_new _ _ _⟩

def badC (a b : Int) : Prop := a < 1 ∨ 8 < a ∨ b < 1 ∨ 200 < b

set_option maxRecDepth 3000 in
set_option maxHeartbeats 4000000 in
theorem apart_bad1 (w : World) (a b c d : Int) (h : badC a b) (sa sb : Option Addr) (n1 n2 cap1 cap2 : Nat) :
    Calls Tryz.prog 7 #[.agg #[.int .i64 a, .int .i64 b], .agg #[.int .i64 c, .int .i64 d], .slice sa n1 cap1, .slice sb n2 cap2] w fun e w' => e = .returned (.bool true) ∧ Below w.heap.size w w' := by
  have HM := hide (fun W => made_bad W a b h)
  have HG : Hid (∀ W, Calls Tryz.prog 9 #[.agg #[.int .i64 c, .int .i64 d]] W fun e w' => (∃ v, e = .returned (.tuple #[.pointer v, .bool true])) ∧ Below W.heap.size W w') := hide fun W => by
    by_cases hb : c < 1 ∨ 8 < c ∨ d < 1 ∨ 200 < d
    · refine (made_bad W c d hb).mono ?_
      rintro e w' ⟨rfl, hb'⟩
      exact ⟨⟨none, rfl⟩, hb'⟩
    · refine (made_good W c d (by omega) (by omega) (by omega) (by omega)).mono ?_
      rintro e w' ⟨g, x, y, k, rfl, ev, _⟩
      exact ⟨⟨_, rfl⟩, below_of_ours ev⟩
  obtain ⟨hB0, hC0⟩ := cfg2 w a b c d
  have HB0 := hide hB0
  have HC0 := hide hC0
  clear h hB0 hC0
  go_enter Tryz.func7, Tryz.ntmps7
  go_wp2_with fail
  refine (HM.out _).mono ?_
  rintro e1 w1 ⟨rfl, hb1⟩
  have hB1 : Below w.heap.size w w1 := HB0.out.trans (hb1.mono HB0.out.size)
  have hk : Blk (fun _ => 0) w1 0 (w.heap.size + 1) 23 [.int .i64 c, .int .i64 d] := ⟨(hb1.block _ (by simp)).trans HC0.out, rfl⟩
  have c0 : w1.cell? ⟨w.heap.size + 1, 0, none⟩ = some (.int .i64 c) := hk.cell 0
  have c1 : w1.cell? ⟨w.heap.size + 1, 1, none⟩ = some (.int .i64 d) := hk.cell 1
  have hkl := hk.lt
  clear hk hb1
  go_wp2_with fail
  refine (HG.out _).mono ?_
  rintro e2 w2 ⟨⟨v, rfl⟩, hb2⟩
  go_wp2_with fail
  go_ret
  exact ⟨rfl, hB1.trans (hb2.mono hB1.size)⟩

set_option maxRecDepth 3000 in
set_option maxHeartbeats 4000000 in
theorem apart_bad2 (w : World) (a b c d : Int) (g : ¬ badC a b) (h : badC c d) (sa sb : Option Addr) (n1 n2 cap1 cap2 : Nat) :
    Calls Tryz.prog 7 #[.agg #[.int .i64 a, .int .i64 b], .agg #[.int .i64 c, .int .i64 d], .slice sa n1 cap1, .slice sb n2 cap2] w fun e w' => e = .returned (.bool true) ∧ Below w.heap.size w w' := by
  have HM : Hid (∀ W, Calls Tryz.prog 9 #[.agg #[.int .i64 a, .int .i64 b]] W fun e w' => (∃ g, e = .returned (.tuple #[.pointer (some ⟨g, 0, none⟩), .bool true])) ∧ Below W.heap.size W w') := hide fun W => by
    unfold badC at g
    refine (made_good W a b (by omega) (by omega) (by omega) (by omega)).mono ?_
    rintro e w' ⟨g, x, y, k, rfl, ev, _⟩
    exact ⟨⟨_, rfl⟩, below_of_ours ev⟩
  have HG := hide (fun W => made_bad W c d h)
  obtain ⟨hB0, hC0⟩ := cfg2 w a b c d
  have HB0 := hide hB0
  have HC0 := hide hC0
  clear h hB0 hC0 g
  go_enter Tryz.func7, Tryz.ntmps7
  go_wp2_with fail
  refine (HM.out _).mono ?_
  rintro e1 w1 ⟨⟨g1, rfl⟩, hb1⟩
  have hB1 : Below w.heap.size w w1 := HB0.out.trans (hb1.mono HB0.out.size)
  have hk : Blk (fun _ => 0) w1 0 (w.heap.size + 1) 23 [.int .i64 c, .int .i64 d] := ⟨(hb1.block _ (by simp)).trans HC0.out, rfl⟩
  have c0 : w1.cell? ⟨w.heap.size + 1, 0, none⟩ = some (.int .i64 c) := hk.cell 0
  have c1 : w1.cell? ⟨w.heap.size + 1, 1, none⟩ = some (.int .i64 d) := hk.cell 1
  have hkl := hk.lt
  clear hk hb1
  go_wp2_with fail
  refine (HG.out _).mono ?_
  rintro e2 w2 ⟨rfl, hb2⟩
  go_wp2_with fail
  go_ret
  exact ⟨rfl, hB1.trans (hb2.mono hB1.size)⟩

set_option maxRecDepth 3000 in
set_option maxHeartbeats 8000000 in
theorem apart_good (w : World) (a b c d : Int) (h : ¬ badC a b) (g : ¬ badC c d) (sa sb : Option Addr) (n1 n2 cap1 cap2 : Nat) (hn1 : n1 ≤ 1048576) (hn2 : n2 ≤ 1048576) (hs1 : ScriptIs w sa n1) (hs2 : ScriptIs w sb n2) :
    Calls Tryz.prog 7 #[.agg #[.int .i64 a, .int .i64 b], .agg #[.int .i64 c, .int .i64 d], .slice sa n1 cap1, .slice sb n2 cap2] w fun e w' => e = .returned (.bool true) ∧ Below w.heap.size w w' := by
  unfold badC at h g
  have HM : Hid (∀ W, _) := hide (fun W => ap_made W a b c d (by omega) (by omega) (by omega) (by omega) (by omega) (by omega) (by omega) (by omega))
  obtain ⟨hB0, hC0⟩ := cfg2 w a b c d
  have HB0 := hide hB0
  have HC0 := hide hC0
  have HS1 := hide hs1
  have HS2 := hide hs2
  clear h g hB0 hC0 hs1 hs2
  go_enter Tryz.func7, Tryz.ntmps7
  go_wp2_with fail
  obtain ⟨W0, hW0⟩ : ∃ W0, W0 = (w.alloc (Obj.cells #[.int .i64 a, .int .i64 b] 23)).alloc (Obj.cells #[.int .i64 c, .int .i64 d] 23) := ⟨_, rfl⟩
  rw [← hW0] at HB0 HC0 ⊢
  have HH := hide hW0
  have hsz0 : w.heap.size + 1 < W0.heap.size := by rw [hW0]; simp
  clear hW0
  refine (HM.out W0).mono ?_
  rintro e1 w1 ⟨b1, x1, y1, rfl, hb1, hbl1, HM2⟩
  have hk : Blk (fun _ => 0) w1 0 (w.heap.size + 1) 23 [.int .i64 c, .int .i64 d] := ⟨(hb1.block _ hsz0).trans HC0.out, rfl⟩
  have c0 : w1.cell? ⟨w.heap.size + 1, 0, none⟩ = some (.int .i64 c) := hk.cell 0
  have c1 : w1.cell? ⟨w.heap.size + 1, 1, none⟩ = some (.int .i64 d) := hk.cell 1
  have hkl := hk.lt
  have HM3 := hide HM2
  clear hk hb1 HM2 HM
  go_wp2_with fail
  refine (HM3.out _ (Below.refl _ _)).mono ?_
  rintro e2 w2 ⟨b2, x2, y2, rfl, hap⟩
  have HSA : Hid (∀ W, Below W0.heap.size W0 W → ScriptIs W sa n1) := hide fun W hW => (HS1.out.below HB0.out).below hW
  have HSB : Hid (∀ W, Below W0.heap.size W0 W → ScriptIs W sb n2) := hide fun W hW => (HS2.out.below HB0.out).below hW
  have H0 : Hid (∃ i1 i2 : Nat, i1 ≤ 0 ∧ i2 ≤ 0 ∧ Ap W0 W0.heap.size w2 b1 x1 y1 i1 b2 x2 y2 i2) := hide ⟨0, 0, Nat.le_refl _, Nat.le_refl _, hap⟩
  clear hap c0 c1 hkl
  go_wp2_with fail
  go_loopw [10, 13] (fun o i wr => o = .bool true ∧ ∃ j : Nat, j ≤ 1048576 ∧ i = .int .i64 j ∧ Hid (∃ i1 i2 : Nat, i1 ≤ j ∧ i2 ≤ j ∧ Ap W0 W0.heap.size wr b1 x1 y1 i1 b2 x2 y2 i2)) (fun _ i _ => 1048576 - (intOf i).toNat)
  case atStart => exact ⟨rfl, 0, by omega, rfl, H0⟩
  case round =>
    obtain ⟨rfl, j, hj, rfl, hst⟩ := hrel
    obtain ⟨i1, i2, hi1, hi2, hap⟩ := hst.out
    have hBr := hap.lt.2.2
    have hr1 := hap.lt.1
    have hr2 := hap.lt.2.1
    have S1 := HSA.out wr hBr
    by_cases h1 : j < n1
    · have hd1 : decide ((j : Int) < (n1 : Int)) = true := by simp; omega
      have hj1 : (j : Int) < (n1 : Int) := by omega
      obtain ⟨ga, oa, Ka, Aa, Ba, rfl, hga, p0, p1, p2, hAa, hBa⟩ := S1 j h1
      have HAct := hide (ap_act hap (by omega) Ka Aa Ba hAa hBa)
      by_cases h2 : j < n2
      · have hd2 : decide ((j : Int) < (n2 : Int)) = true := by simp; omega
        have hj2 : (j : Int) < (n2 : Int) := by omega
        clear hst hap S1
        go_wp2_with fail
        refine HAct.out.mono ?_
        rintro e3 w3 ⟨rfl, hap3⟩
        obtain ⟨gb, ob, Kb, Ab, Bb, hsb, hgb, q0, q1, q2, hAb, hBb⟩ := HSB.out w3 hap3.lt.2.2 j h2
        have HAct2 := hide (ap_act hap3.swap (by omega) Kb Ab Bb hAb hBb)
        have hr3 := hap3.lt.1
        have hr4 := hap3.lt.2.1
        subst hsb
        clear hap3
        go_wp2_with fail
        refine HAct2.out.mono ?_
        rintro e4 w4 ⟨rfl, hap4⟩
        have HL1 := hide (ap_looks hap4.swap (by omega))
        have hr5 := hap4.lt.1
        have hr6 := hap4.lt.2.1
        clear hap4 q0 q1 q2
        go_wp2_with fail
        refine HL1.out.mono ?_
        rintro e5 w5 ⟨rfl, hap5⟩
        have HL2 := hide (ap_looks hap5.swap (by omega))
        have hr7 := hap5.lt.1
        have hr8 := hap5.lt.2.1
        clear hap5
        go_wp2_with fail
        refine HL2.out.mono ?_
        rintro e6 w6 ⟨rfl, hap6⟩
        have H6 := hide hap6.swap
        clear hap6
        go_wp2_with fail
        go_roundw
        case rel => exact ⟨rfl, j + 1, by omega, by go_num, hide ⟨i1 + 1, i2 + 1, by omega, by omega, H6.out⟩⟩
        case measure => simp [intOf]; omega
      · have hd2 : decide ((j : Int) < (n2 : Int)) = false := by simp; omega
        clear hst hap S1
        go_wp2_with fail
        refine HAct.out.mono ?_
        rintro e3 w3 ⟨rfl, hap3⟩
        have HL1 := hide (ap_looks hap3 (by omega))
        have hr3 := hap3.lt.1
        have hr4 := hap3.lt.2.1
        clear hap3
        go_wp2_with fail
        refine HL1.out.mono ?_
        rintro e5 w5 ⟨rfl, hap5⟩
        have HL2 := hide (ap_looks hap5.swap (by omega))
        have hr7 := hap5.lt.1
        have hr8 := hap5.lt.2.1
        clear hap5
        go_wp2_with fail
        refine HL2.out.mono ?_
        rintro e6 w6 ⟨rfl, hap6⟩
        have H6 := hide hap6.swap
        clear hap6
        go_wp2_with fail
        go_roundw
        case rel => exact ⟨rfl, j + 1, by omega, by go_num, hide ⟨i1 + 1, i2, by omega, by omega, H6.out⟩⟩
        case measure => simp [intOf]; omega
    · have hd1 : decide ((j : Int) < (n1 : Int)) = false := by simp; omega
      by_cases h2 : j < n2
      · have hd2 : decide ((j : Int) < (n2 : Int)) = true := by simp; omega
        have hj2 : (j : Int) < (n2 : Int) := by omega
        obtain ⟨gb, ob, Kb, Ab, Bb, hsb, hgb, q0, q1, q2, hAb, hBb⟩ := HSB.out wr hBr j h2
        have HAct2 := hide (ap_act hap.swap (by omega) Kb Ab Bb hAb hBb)
        subst hsb
        clear hst hap S1
        go_wp2_with fail
        refine HAct2.out.mono ?_
        rintro e4 w4 ⟨rfl, hap4⟩
        have HL1 := hide (ap_looks hap4.swap (by omega))
        have hr5 := hap4.lt.1
        have hr6 := hap4.lt.2.1
        clear hap4 q0 q1 q2
        go_wp2_with fail
        refine HL1.out.mono ?_
        rintro e5 w5 ⟨rfl, hap5⟩
        have HL2 := hide (ap_looks hap5.swap (by omega))
        have hr7 := hap5.lt.1
        have hr8 := hap5.lt.2.1
        clear hap5
        go_wp2_with fail
        refine HL2.out.mono ?_
        rintro e6 w6 ⟨rfl, hap6⟩
        have H6 := hide hap6.swap
        clear hap6
        go_wp2_with fail
        go_roundw
        case rel => exact ⟨rfl, j + 1, by omega, by go_num, hide ⟨i1, i2 + 1, by omega, by omega, H6.out⟩⟩
        case measure => simp [intOf]; omega
      · have hd2 : decide ((j : Int) < (n2 : Int)) = false := by simp; omega
        have HLa := hide (ap_last hap (by omega) (by omega))
        clear hst hap S1
        go_wp2_with fail
        refine HLa.out.mono ?_
        rintro e5 w5 ⟨rfl, hb5, HL2⟩
        have HL3 := hide HL2
        clear HL2
        go_wp2_with fail
        refine HL3.out.mono ?_
        rintro e6 w6 ⟨rfl, hb6⟩
        go_wp2_with fail
        go_ret
        exact ⟨rfl, HB0.out.trans (hb6.mono HB0.out.size)⟩

theorem apart_any (w : World) (a b c d : Int) (sa sb : Option Addr) (n1 n2 cap1 cap2 : Nat) (hn1 : n1 ≤ 1048576) (hn2 : n2 ≤ 1048576) (hs1 : ScriptIs w sa n1) (hs2 : ScriptIs w sb n2) :
    Calls Tryz.prog 7 #[.agg #[.int .i64 a, .int .i64 b], .agg #[.int .i64 c, .int .i64 d], .slice sa n1 cap1, .slice sb n2 cap2] w fun e w' => e = .returned (.bool true) ∧ Below w.heap.size w w' := by
  by_cases h : badC a b
  · exact apart_bad1 w a b c d h sa sb n1 n2 cap1 cap2
  · by_cases g : badC c d
    · exact apart_bad2 w a b c d h g sa sb n1 n2 cap1 cap2
    · exact apart_good w a b c d h g sa sb n1 n2 cap1 cap2 hn1 hn2 hs1 hs2
end Go.Proofs.YtfpbkghcjaonlaaGreat.Sim
