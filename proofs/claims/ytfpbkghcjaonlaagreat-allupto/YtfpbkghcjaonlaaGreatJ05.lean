import Derived.Test.YtfpbkghcjaonlaaGreatJ04
import Derived.Deep.RegionWith
import Derived.Deep.DeepCutAuto
/-
  sixfoldref: Writer, Segment.
-/
namespace Go.Proofs.YtfpbkghcjaonlaaGreat
open Go.RowKit

/-- What Writer answers. -/
def writerAt (pens : List RPen) (n : Int) : Option RPen := if n < 1 then none else pens[n.toNat - 1]?
def wAns (o : Option RPen) : Value := match o with
  | none => .tuple #[.agg #[.int .i64 0, .int .i64 0, .int .i64 0, .int .i64 0], .int .i64 3]
  | some p => .tuple #[p.stands.val, .int .i64 0]

set_option maxHeartbeats 1000000 in
theorem writer_low (w : World) (q : Nat) (n : Int) (hn : n < 1) :
    Calls Tryz.prog 58 #[.pointer (some ⟨q, 0, none⟩), .int .i64 n] w fun e w' => e = .returned (.tuple #[.agg #[.int .i64 0, .int .i64 0, .int .i64 0, .int .i64 0], .int .i64 3]) ∧ Below w.heap.size w w' := by
  have hn' : decide (n < 1) = true := by simp; omega
  go_enter Tryz.func58, Tryz.ntmps58
  go_wp2
  exact bodyPost_ret (v := .tuple #[.agg #[.int .i64 0, .int .i64 0, .int .i64 0, .int .i64 0], .int .i64 3]) (by simp [results, Tryz.results58, go_sem]) rfl ⟨rfl, (Below.refl _ _).alloc (Nat.le_refl _) _⟩

set_option maxHeartbeats 1000000 in
theorem writer_high (w : World) (q : Nat) (n : Int) (a : Option Addr) (len cap : Nat) (hn : ¬ n < 1) (hh : (len : Int) < n) (hc : w.cell? ⟨q, 4, none⟩ = some (.slice a len cap)) :
    Calls Tryz.prog 58 #[.pointer (some ⟨q, 0, none⟩), .int .i64 n] w fun e w' => e = .returned (.tuple #[.agg #[.int .i64 0, .int .i64 0, .int .i64 0, .int .i64 0], .int .i64 3]) ∧ Below w.heap.size w w' := by
  have hn' : decide (n < 1) = false := by simp; omega
  have hql := World.block_lt_of_cell? w _ hc
  go_enter Tryz.func58, Tryz.ntmps58
  go_wp2
  exact bodyPost_ret (v := .tuple #[.agg #[.int .i64 0, .int .i64 0, .int .i64 0, .int .i64 0], .int .i64 3]) (by simp [results, Tryz.results58, go_sem]) rfl ⟨rfl, (Below.refl _ _).alloc (Nat.le_refl _) _⟩

set_option maxHeartbeats 1000000 in
theorem writer_in (w : World) (q g pb len cap i : Nat) (s : WSt) (hi : i < len) (hl : len ≤ 9) (hc : w.cell? ⟨q, 4, none⟩ = some (.slice (some ⟨g, 0, none⟩) len cap)) (hp : w.cell? ⟨g, i, none⟩ = some (.pointer (some ⟨pb, 0, none⟩)))
    (hcall : ∀ W, Below w.heap.size w W → Calls Tryz.prog 103 #[.pointer (some ⟨pb, 0, none⟩), .int .i64 ((i : Int) + 1)] W fun e w' => e = .returned s.val ∧ Below W.heap.size W w') :
    Calls Tryz.prog 58 #[.pointer (some ⟨q, 0, none⟩), .int .i64 ((i : Int) + 1)] w fun e w' => e = .returned (.tuple #[s.val, .int .i64 0]) ∧ Below w.heap.size w w' := by
  have HC := hide hcall
  clear hcall
  have hql := World.block_lt_of_cell? w _ hc
  have hgl := World.block_lt_of_cell? w _ hp
  have hn' : decide ((i : Int) + 1 < 1) = false := by simp; omega
  go_enter Tryz.func58, Tryz.ntmps58
  go_wp2_with fail
  refine (HC.out _ ((Below.refl _ _).alloc (Nat.le_refl _) _)).mono ?_
  rintro e w1 ⟨rfl, hb1⟩
  have hs1 := hb1.size
  simp only [World.size_alloc] at hs1 hb1
  have hr1 : w1.heap[w.heap.size]? = some (.cells #[.int .i64 0, .int .i64 0, .int .i64 0, .int .i64 0] 105 (0, 0)) := (hb1.block w.heap.size (by omega)).trans (heap_alloc_new w _)
  have c0 : w1.cell? ⟨w.heap.size, 0, none⟩ = some (.int .i64 0) := by rw [cell_of_row _ _ 0 _ _ _ hr1]; rfl
  have c1 : w1.cell? ⟨w.heap.size, 1, none⟩ = some (.int .i64 0) := by rw [cell_of_row _ _ 1 _ _ _ hr1]; rfl
  have c2 : w1.cell? ⟨w.heap.size, 2, none⟩ = some (.int .i64 0) := by rw [cell_of_row _ _ 2 _ _ _ hr1]; rfl
  have c3 : w1.cell? ⟨w.heap.size, 3, none⟩ = some (.int .i64 0) := by rw [cell_of_row _ _ 3 _ _ _ hr1]; rfl
  have f0 := frozen_of_row w1 w.heap.size 0 _ _ hr1
  have f1 := frozen_of_row w1 w.heap.size 1 _ _ hr1
  have f2 := frozen_of_row w1 w.heap.size 2 _ _ hr1
  have f3 := frozen_of_row w1 w.heap.size 3 _ _ hr1
  have hB1 : Below w.heap.size w w1 := ((Below.refl w.heap.size w).alloc (Nat.le_refl _) _).trans (hb1.mono (by omega))
  clear hr1
  unfold WSt.val
  go_wp2_with fail
  refine bodyPost_ret (v := .tuple #[.agg #[.int .i64 s.phase, .int .i64 s.base, .int .i64 s.next, .int .i64 s.dur], .int .i64 0]) (by simp [results, Tryz.results58, go_sem, c0, c1, c2, c3]) rfl ⟨rfl, ?_⟩
  refine Below.setCell (Below.setCell (Below.setCell (Below.setCell hB1 ?_ _) ?_ _) ?_ _) ?_ _
  all_goals exact Nat.le_refl _

theorem refWriter_any {k : Nat → Nat} {w : World} {q : Nat} {r : RVol} (n : Int) (hY : YVol k w q r) (hok : YOk r) :
    Calls Tryz.prog 58 #[.pointer (some ⟨q, 0, none⟩), .int .i64 n] w fun e w' => e = .returned (wAns (writerAt r.pens n)) ∧ Below w.heap.size w w' := by
  obtain ⟨vSegs, vPens, sb, pb, ⟨vNet, rows, hB, hN⟩, hS, hP⟩ := hY.ex
  unfold writerAt
  by_cases h1 : n < 1
  · rw [if_pos h1]; exact writer_low w q n h1
  · rw [if_neg h1]
    obtain ⟨a, cap, hv, hg⟩ := ptrs_cells hP.own
    have hc : w.cell? ⟨q, 4, none⟩ = some (.slice a pb.length cap) := by rw [hB.cell, hv]; rfl
    have hl1 := hP.l1
    have hl2 := hP.l2
    by_cases h2 : (pb.length : Int) < n
    · rw [List.getElem?_eq_none (by omega)]
      exact writer_high w q n a pb.length cap h1 h2 hc
    · obtain ⟨i, hi⟩ : ∃ i : Nat, n = (i : Int) + 1 := ⟨(n - 1).toNat, by omega⟩
      subst hi
      have hi : i < pb.length := by omega
      have e1 : ((i : Int) + 1).toNat - 1 = i := by omega
      rw [e1, List.getElem?_eq_getElem (by omega)]
      obtain ⟨g, rfl, hp⟩ := hg i hi
      refine writer_in w q g pb[i] pb.length cap i _ hi (by omega) hc hp fun W hW => ?_
      exact stands_any _ ((hP.all i hi (by omega)).evo (Evo.of_below (C := noC) hW) (noC_not _) (noC_not _) (noC_not _) (noC_not _) (noC_not _)) (hok.pk _ (List.getElem_mem (by omega)))

/-- What Segment answers. -/
def segAt (segs : List RSeg) (n : Int) : Option RSeg := if n < 0 then none else segs[n.toNat]?

set_option maxHeartbeats 1000000 in
theorem segment_low (w : World) (q : Nat) (n : Int) (hn : n < 0) :
    Calls Tryz.prog 52 #[.pointer (some ⟨q, 0, none⟩), .int .i64 n] w fun e w' => e = .returned (.tuple #[.agg #[.bool false, .int .i64 0, .int .i64 0, .slice none 0 0, .slice none 0 0, .slice none 0 0], .int .i64 11]) ∧ Below w.heap.size w w' := by
  have hn' : decide (n < 0) = true := by simp; omega
  go_enter Tryz.func52, Tryz.ntmps52
  go_wp2
  exact bodyPost_ret (v := .tuple #[.agg #[.bool false, .int .i64 0, .int .i64 0, .slice none 0 0, .slice none 0 0, .slice none 0 0], .int .i64 11]) (by simp [results, Tryz.results52, go_sem]) rfl ⟨rfl, (Below.refl _ _).alloc (Nat.le_refl _) _⟩

set_option maxHeartbeats 1000000 in
theorem segment_high (w : World) (q : Nat) (n : Int) (hn : ¬ n < 0) (h5 : 5 < n) :
    Calls Tryz.prog 52 #[.pointer (some ⟨q, 0, none⟩), .int .i64 n] w fun e w' => e = .returned (.tuple #[.agg #[.bool false, .int .i64 0, .int .i64 0, .slice none 0 0, .slice none 0 0, .slice none 0 0], .int .i64 11]) ∧ Below w.heap.size w w' := by
  have hn' : decide (n < 0) = false := by simp; omega
  go_enter Tryz.func52, Tryz.ntmps52
  go_wp2
  exact bodyPost_ret (v := .tuple #[.agg #[.bool false, .int .i64 0, .int .i64 0, .slice none 0 0, .slice none 0 0, .slice none 0 0], .int .i64 11]) (by simp [results, Tryz.results52, go_sem]) rfl ⟨rfl, (Below.refl _ _).alloc (Nat.le_refl _) _⟩

theorem store6 {w : World} {b e : Nat} {c0 c1 c2 c3 c4 c5 : Value} (h : w.heap[b]? = some (.cells #[c0, c1, c2, c3, c4, c5] e (0, 0))) (v0 v1 v2 v3 v4 v5 : Value) :
    ((((((w.setCell ⟨b, 0, none⟩ v0).setCell ⟨b, 1, none⟩ v1).setCell ⟨b, 2, none⟩ v2).setCell ⟨b, 3, none⟩ v3).setCell ⟨b, 4, none⟩ v4).setCell ⟨b, 5, none⟩ v5).heap[b]? = some (.cells #[v0, v1, v2, v3, v4, v5] e (0, 0)) := by
  have h0 := heap_setCell_same w b 0 _ e v0 h
  have h1 := heap_setCell_same _ b 1 _ e v1 h0
  have h2 := heap_setCell_same _ b 2 _ e v2 h1
  have h3 := heap_setCell_same _ b 3 _ e v3 h2
  have h4 := heap_setCell_same _ b 4 _ e v4 h3
  have h5 := heap_setCell_same _ b 5 _ e v5 h4
  rw [h5]; simp

theorem other6 {w : World} {b d : Nat} (hd : d ≠ b) (v0 v1 v2 v3 v4 v5 : Value) :
    ((((((w.setCell ⟨b, 0, none⟩ v0).setCell ⟨b, 1, none⟩ v1).setCell ⟨b, 2, none⟩ v2).setCell ⟨b, 3, none⟩ v3).setCell ⟨b, 4, none⟩ v4).setCell ⟨b, 5, none⟩ v5).heap[d]? = w.heap[d]? := by
  rw [heap_setCell_other _ _ _ _ hd, heap_setCell_other _ _ _ _ hd, heap_setCell_other _ _ _ _ hd, heap_setCell_other _ _ _ _ hd, heap_setCell_other _ _ _ _ hd, heap_setCell_other _ _ _ _ hd]

theorem below6 {B : Nat} {a w : World} (h : Below B a w) {b : Nat} (hb : B ≤ b) (v0 v1 v2 v3 v4 v5 : Value) :
    Below B a ((((((w.setCell ⟨b, 0, none⟩ v0).setCell ⟨b, 1, none⟩ v1).setCell ⟨b, 2, none⟩ v2).setCell ⟨b, 3, none⟩ v3).setCell ⟨b, 4, none⟩ v4).setCell ⟨b, 5, none⟩ v5) := by
  refine Below.setCell (Below.setCell (Below.setCell (Below.setCell (Below.setCell (Below.setCell h ?_ _) ?_ _) ?_ _) ?_ _) ?_ _) ?_ _
  all_goals exact hb

/-- The six cells of a block, and that they may be written. -/
theorem cells6 {w : World} {b e : Nat} {c0 c1 c2 c3 c4 c5 : Value} (h : w.heap[b]? = some (.cells #[c0, c1, c2, c3, c4, c5] e (0, 0))) :
    w.cell? ⟨b, 0, none⟩ = some c0 ∧ w.cell? ⟨b, 1, none⟩ = some c1 ∧ w.cell? ⟨b, 2, none⟩ = some c2 ∧ w.cell? ⟨b, 3, none⟩ = some c3 ∧ w.cell? ⟨b, 4, none⟩ = some c4 ∧ w.cell? ⟨b, 5, none⟩ = some c5 ∧
    w.frozen? ⟨b, 0, none⟩ = false ∧ w.frozen? ⟨b, 1, none⟩ = false ∧ w.frozen? ⟨b, 2, none⟩ = false ∧ w.frozen? ⟨b, 3, none⟩ = false ∧ w.frozen? ⟨b, 4, none⟩ = false ∧ w.frozen? ⟨b, 5, none⟩ = false := by
  refine ⟨?_, ?_, ?_, ?_, ?_, ?_, frozen_of_row _ _ _ _ _ h, frozen_of_row _ _ _ _ _ h, frozen_of_row _ _ _ _ _ h, frozen_of_row _ _ _ _ _ h, frozen_of_row _ _ _ _ _ h, frozen_of_row _ _ _ _ _ h⟩
  all_goals (rw [cell_of_row _ _ _ _ _ _ h]; rfl)

theorem Made.keeps {w w' : World} {B e size : Nat} {v : Value} {rows : List (List Value)} (h : Made w B e size v rows) (hk : ∀ b, B ≤ b → b < w.heap.size → w'.heap[b]? = w.heap[b]?) : Made w' B e size v rows := by
  refine ⟨h.1, h.2.1, ?_⟩
  rcases h.2.2 with hn | ⟨g, cap, cur, hv, hg, hh, r⟩
  · exact .inl hn
  · exact .inr ⟨g, cap, cur, hv, hg, (hk g hg (Array.getElem?_eq_some_iff.1 hh).1).trans hh, r⟩
theorem Made.weaken {w : World} {B B' e size : Nat} {v : Value} {rows : List (List Value)} (h : Made w B e size v rows) (hb : B' ≤ B) : Made w B' e size v rows := by
  refine ⟨h.1, h.2.1, ?_⟩
  rcases h.2.2 with hn | ⟨g, cap, cur, hv, hg, r⟩
  · exact .inl hn
  · exact .inr ⟨g, cap, cur, hv, Nat.le_trans hb hg, r⟩

set_option maxHeartbeats 4000000 in
theorem segment_in {k : Nat → Nat} {w : World} {cs : Nat} {s : RSeg} (q g sb len cap i : Nat) (hi : i < 6) (hil : i < len) (hc : w.cell? ⟨q, 3, none⟩ = some (.slice (some ⟨g, 0, none⟩) len cap)) (hp : w.cell? ⟨g, i, none⟩ = some (.pointer (some ⟨sb, 0, none⟩)))
    (hS : StoreIs k w cs sb s) (hok : StoreOk s) :
    Calls Tryz.prog 52 #[.pointer (some ⟨q, 0, none⟩), .int .i64 i] w fun e w' => (∃ vc vk vb, e = .returned (.tuple #[.agg #[.bool s.up, .int .i64 s.epoch, .int .i64 (sclOf s.entries), vc, vk, vb], .int .i64 0]) ∧ CutsIm k w vc s.cuts ∧
      Made w' w.heap.size 59 3 vk ((recsUp s.entries true 40).map recRow) ∧ Made w' w.heap.size 59 3 vb ((recsUp s.entries false 40).map recRow)) ∧ Below w.heap.size w w' := by
  obtain ⟨vE, vL, vN, hB, hE, hL, hN⟩ := hS.ex
  have s0 : w.cell? ⟨sb, 0, none⟩ = some (.bool s.up) := hB.cell 0
  have s1 : w.cell? ⟨sb, 1, none⟩ = some vE := hB.cell 1
  have s2 : w.cell? ⟨sb, 2, none⟩ = some vL := hB.cell 2
  have s3 : w.cell? ⟨sb, 3, none⟩ = some vN := hB.cell 3
  have hbl := hB.lt
  have hgl := World.block_lt_of_cell? w _ hp
  have hql := World.block_lt_of_cell? w _ hc
  have HL : Hid (∀ W, Below w.heap.size w W → Calls Tryz.prog 89 #[.pointer (some ⟨sb, 0, none⟩)] W fun e w' => (∃ z, e = .returned z ∧ CutsIm k w z s.cuts) ∧ Below W.heap.size W w') := hide fun W hW =>
    list_in hW s2 hL hok.l0 hok.ll
  have HE : Hid (∀ W, Below w.heap.size w W → Calls Tryz.prog 82 #[.pointer (some ⟨sb, 0, none⟩)] W fun e w' => e = .returned (.int .i64 s.epoch) ∧ Below W.heap.size W w') := hide fun W hW =>
    have ev : Evo k k noC w W := Evo.of_below hW
    epoch_any ((hW.cell hbl).trans s1) (hE.evo ev (noC_not _)) hok.e0 hok.el
  have HC : Hid (∀ W, Below w.heap.size w W → Calls Tryz.prog 92 #[.pointer (some ⟨sb, 0, none⟩)] W fun e w' => e = .returned (.int .i64 (sclOf s.entries)) ∧ Below W.heap.size W w') := hide fun W hW =>
    have ev : Evo k k noC w W := Evo.of_below hW
    scl_any ((hW.cell hbl).trans s3) (hN.evo ev (noC_not _)) hok.nl
  have HR : Hid (∀ (b : Bool) W, Below w.heap.size w W → Calls Tryz.prog 101 #[.pointer (some ⟨sb, 0, none⟩), .bool b] W fun e w' => (∃ z, e = .returned z ∧ Made w' W.heap.size 59 3 z ((recsUp s.entries b 40).map recRow)) ∧ Below W.heap.size W w') := hide fun b W hW =>
    have ev : Evo k k noC w W := Evo.of_below hW
    records_any b ((hW.cell hbl).trans s3) (hN.evo ev (noC_not _)) hok.nl
  clear hB hE hL hN hS s1 s2 s3
  have hn' : decide ((i : Int) < 0) = false := by simp
  have hn5 : decide ((5 : Int) < (i : Int)) = false := by simp; omega
  go_enter Tryz.func52, Tryz.ntmps52
  go_wp2_with fail
  go_cut [7] (fun o wc => Below w.heap.size w wc ∧ ∃ ob z, o = .pointer (some ⟨ob, 0, none⟩) ∧ w.heap.size < ob ∧ Hid (wc.heap[w.heap.size]? = some (.cells #[.bool false, .int .i64 0, .int .i64 0, .slice none 0 0, .slice none 0 0, .slice none 0 0] 97 (0, 0))) ∧
      Hid (wc.heap[ob]? = some (.cells #[.bool s.up, .int .i64 0, .int .i64 0, z, .slice none 0 0, .slice none 0 0] 97 (0, 0))) ∧ CutsIm k w z s.cuts)
  case first =>
    have bA : ∀ O1 O2, Below w.heap.size w ((w.alloc O1).alloc O2).drew := fun O1 O2 => (((Below.refl _ _).alloc (Nat.le_refl _) _).alloc (by simp) _).drew
    have bB : ∀ O1, Below w.heap.size w (w.alloc O1).drew := fun O1 => ((Below.refl _ _).alloc (Nat.le_refl _) _).drew
    have hne1 : sb ≠ w.heap.size + 1 := by omega
    have HbA := hide bA
    have HbB := hide bB
    clear bA bB
    go_region_held3 (fun w' => w'.cell? ⟨sb, 0, none⟩ = some (.bool s.up)) (first | go_keep | exact (World.cell?_of_block (a := ⟨sb, 0, none⟩) (other6 hne1 _ _ _ _ _ _)).trans (by assumption))
      (first | (go_at_call 89; refine (HL.out _ (HbA.out _ _)).mono ?_; rintro e1 w1 ⟨⟨z, rfl, hz⟩, hb1⟩; obtain ⟨z0, z1, z2, hzz⟩ := Rows.shape hz; rw [hzz] at hz ⊢; clear hzz; have hs1 : w1.cell? ⟨sb, 0, none⟩ = some (.bool s.up) := (hb1.cell (p := ⟨sb, 0, none⟩) (by simp; omega)).trans (by simp [*]); have ho1 : w1.heap[w.heap.size + 1]? = some (.cells #[.bool false, .int .i64 0, .int .i64 0, .slice none 0 0, .slice none 0 0, .slice none 0 0] 97 (0, 0)) := (hb1.block (w.heap.size + 1) (by simp)).trans (heap_alloc2_new w _ _); obtain ⟨d0, d1, d2, d3, d4, d5, d6, d7, d8, d9, d10, d11⟩ := cells6 ho1; have HO1 := hide ho1; clear ho1) | (go_at_call 89; refine (HL.out _ (HbB.out _)).mono ?_; rintro e1 w1 ⟨⟨z, rfl, hz⟩, hb1⟩; obtain ⟨z0, z1, z2, hzz⟩ := Rows.shape hz; rw [hzz] at hz ⊢; clear hzz; have hs1 : w1.cell? ⟨sb, 0, none⟩ = some (.bool s.up) := (hb1.cell (p := ⟨sb, 0, none⟩) (by simp; omega)).trans (by simp [*])))
    · go_wp2_with fail
      go_meet
      have hz1 := hb1.size
      simp only [World.size_alloc, heap_drew] at hz1
      have hB1 : Below w.heap.size w w1 := (HbB.out _).trans (hb1.mono (by simp))
      have hr1 : w1.heap[w.heap.size]? = some (.cells #[.bool false, .int .i64 0, .int .i64 0, .slice none 0 0, .slice none 0 0, .slice none 0 0] 97 (0, 0)) := (hb1.block w.heap.size (by simp)).trans (heap_alloc_new w _)
      exact ⟨hB1.alloc (by omega) _, w1.heap.size, _, rfl, by omega, hide ((heap_alloc_old' w1 _ _ (by omega)).trans hr1), hide (heap_alloc_new w1 _), hz⟩
    · go_wp2_with fail
      go_meet
      have hz1 := hb1.size
      simp only [World.size_alloc, heap_drew] at hz1
      have hB1 : Below w.heap.size w w1 := (HbA.out _ _).trans (hb1.mono (by simp; omega))
      have hr1 : w1.heap[w.heap.size]? = some (.cells #[.bool false, .int .i64 0, .int .i64 0, .slice none 0 0, .slice none 0 0, .slice none 0 0] 97 (0, 0)) := (hb1.block w.heap.size (by simp; omega)).trans (heap_alloc2_old w _ _)
      exact ⟨below6 hB1 (by omega) _ _ _ _ _ _, w.heap.size + 1, _, rfl, by omega, hide ((other6 (by omega) _ _ _ _ _ _).trans hr1), hide (store6 HO1.out _ _ _ _ _ _), hz⟩
  case rest =>
    obtain ⟨hB, ob, z, rfl, hob, HR0, HO, hz⟩ := hcut
    obtain ⟨z0, z1, z2, hzz⟩ := Rows.shape hz
    subst hzz
    have hsz := hB.size
    -- the epoch
    have HK := hide (HE.out _ hB)
    go_wp2_with fail
    refine HK.out.mono ?_
    rintro e1 w1 ⟨rfl, hb1⟩
    clear HK
    have hB1 : Below w.heap.size w w1 := hB.trans (hb1.mono (by omega))
    have o1 := (hb1.block ob (Array.getElem?_eq_some_iff.1 HO.out).1).trans HO.out
    have r1 := (hb1.block w.heap.size (by have := (Array.getElem?_eq_some_iff.1 HO.out).1; omega)).trans HR0.out
    obtain ⟨d0, d1, d2, d3, d4, d5, d6, d7, d8, d9, d10, d11⟩ := cells6 o1
    have HO1 := hide o1
    have HR1 := hide r1
    clear o1 r1
    -- the Scl
    have hBa := hB1.setCell (p := ⟨ob, 1, none⟩) (by simp; omega) (.int .i64 s.epoch)
    have hoa := heap_setCell_same w1 ob 1 _ _ (.int .i64 s.epoch) HO1.out
    have hra := (heap_setCell_other w1 ⟨ob, 1, none⟩ w.heap.size (.int .i64 s.epoch) (by simp; omega)).trans HR1.out
    have HK := hide (HC.out _ hBa)
    have HOa := hide hoa
    have HRa := hide hra
    have hsa := hBa.size
    clear hoa hra
    go_wp2_with fail
    refine HK.out.mono ?_
    rintro e1 w2 ⟨rfl, hb2⟩
    clear HK d0 d1 d2 d3 d4 d5 d6 d7 d8 d9 d10 d11
    have hB2 : Below w.heap.size w w2 := hBa.trans (hb2.mono (by omega))
    have o2 := (hb2.block ob (Array.getElem?_eq_some_iff.1 HOa.out).1).trans HOa.out
    have r2 := (hb2.block w.heap.size (by have := (Array.getElem?_eq_some_iff.1 HOa.out).1; omega)).trans HRa.out
    simp only [List.setIfInBounds_toArray, List.set_cons_succ, List.set_cons_zero] at o2
    obtain ⟨d0, d1, d2, d3, d4, d5, d6, d7, d8, d9, d10, d11⟩ := cells6 o2
    have HO2 := hide o2
    have HR2 := hide r2
    clear o2 r2
    -- the kept ones
    have hBb := hB2.setCell (p := ⟨ob, 2, none⟩) (by simp; omega) (.int .i64 (sclOf s.entries))
    have hob2 := heap_setCell_same w2 ob 2 _ _ (.int .i64 (sclOf s.entries)) HO2.out
    have hrb := (heap_setCell_other w2 ⟨ob, 2, none⟩ w.heap.size (.int .i64 (sclOf s.entries)) (by simp; omega)).trans HR2.out
    have HK := hide (HR.out true _ hBb)
    have HOb := hide hob2
    have HRb := hide hrb
    have hsb := hBb.size
    clear hob2 hrb
    go_wp2_with fail
    refine HK.out.mono ?_
    rintro e1 w3 ⟨⟨zk, rfl, hk3⟩, hb3⟩
    clear HK d0 d1 d2 d3 d4 d5 d6 d7 d8 d9 d10 d11
    obtain ⟨ka, kc, hkf⟩ := hk3.form
    simp only [List.length_map] at hkf
    subst hkf
    have hB3 : Below w.heap.size w w3 := hBb.trans (hb3.mono (by omega))
    have o3 := (hb3.block ob (Array.getElem?_eq_some_iff.1 HOb.out).1).trans HOb.out
    have r3 := (hb3.block w.heap.size (by have := (Array.getElem?_eq_some_iff.1 HOb.out).1; omega)).trans HRb.out
    simp only [List.setIfInBounds_toArray, List.set_cons_succ, List.set_cons_zero] at o3
    obtain ⟨d0, d1, d2, d3, d4, d5, d6, d7, d8, d9, d10, d11⟩ := cells6 o3
    have HO3 := hide o3
    have HR3 := hide r3
    clear o3 r3
    -- the buffer
    have hBc := hB3.setCell (p := ⟨ob, 4, none⟩) (by simp; omega) (.slice ka (recsUp s.entries true 40).length kc)
    have hoc := heap_setCell_same w3 ob 4 _ _ (.slice ka (recsUp s.entries true 40).length kc) HO3.out
    have hrc := (heap_setCell_other w3 ⟨ob, 4, none⟩ w.heap.size (.slice ka (recsUp s.entries true 40).length kc) (by simp; omega)).trans HR3.out
    have HK := hide (HR.out false _ hBc)
    have HOc := hide hoc
    have HRc := hide hrc
    have hsc := hBc.size
    clear hoc hrc
    go_wp2_with fail
    refine HK.out.mono ?_
    rintro e1 w4 ⟨⟨zb, rfl, hk4⟩, hb4⟩
    clear HK d0 d1 d2 d3 d4 d5 d6 d7 d8 d9 d10 d11
    obtain ⟨ba, bc, hbf⟩ := hk4.form
    simp only [List.length_map] at hbf
    subst hbf
    have hB4 : Below w.heap.size w w4 := hBc.trans (hb4.mono (by omega))
    have o4 := (hb4.block ob (Array.getElem?_eq_some_iff.1 HOc.out).1).trans HOc.out
    have r4 := (hb4.block w.heap.size (by have := (Array.getElem?_eq_some_iff.1 HOc.out).1; omega)).trans HRc.out
    simp only [List.setIfInBounds_toArray, List.set_cons_succ, List.set_cons_zero] at o4
    obtain ⟨d0, d1, d2, d3, d4, d5, d6, d7, d8, d9, d10, d11⟩ := cells6 o4
    obtain ⟨g0, g1, g2, g3, g4, g5, g6, g7, g8, g9, g10, g11⟩ := cells6 r4
    have hne0 : ob ≠ w.heap.size := by omega
    have HO4 := hide o4
    have HR4 := hide r4
    clear o4 r4
    go_wp2_with fail
    have hob4 : ob < w4.heap.size := (Array.getElem?_eq_some_iff.1 HO4.out).1
    refine bodyPost_ret (v := .tuple #[.agg #[.bool s.up, .int .i64 s.epoch, .int .i64 (sclOf s.entries), .slice z0 z1 z2, .slice ka (recsUp s.entries true 40).length kc, .slice ba (recsUp s.entries false 40).length bc], .int .i64 0]) (by simp [results, Tryz.results52, go_sem, g0, g1, g2, g3, g4, g5]) rfl ⟨⟨_, _, _, rfl, hz, ?_, ?_⟩, ?_⟩
    · have hlb : ob < w2.heap.size := by have := (Array.getElem?_eq_some_iff.1 HOb.out).1; simpa [World.setCell] using this
      have hsz3 := hb3.size
      refine (hk3.keeps fun d hd hd2 => ?_).weaken hsb
      have hd' : w2.heap.size ≤ d := by simpa [World.setCell] using hd
      rw [other6 (by omega), heap_setCell_other _ _ _ _ (by simp; omega), hb4.block d (by simpa [World.setCell] using hd2), heap_setCell_other _ _ _ _ (by simp; omega)]
    · have hlc : ob < w3.heap.size := by have := (Array.getElem?_eq_some_iff.1 HOc.out).1; simpa [World.setCell] using this
      refine (hk4.keeps fun d hd hd2 => ?_).weaken hsc
      have hd' : w3.heap.size ≤ d := by simpa [World.setCell] using hd
      rw [other6 (by omega), heap_setCell_other _ _ _ _ (by simp; omega)]
    · exact below6 (hB4.setCell (p := ⟨ob, 5, none⟩) (by simp; omega) _) (Nat.le_refl _) _ _ _ _ _ _

/-- What Segment answers of a segment. -/
def SegAns (k : Nat → Nat) (w w' : World) (o : Option RSeg) (v : Value) : Prop := match o with
  | none => v = .tuple #[.agg #[.bool false, .int .i64 0, .int .i64 0, .slice none 0 0, .slice none 0 0, .slice none 0 0], .int .i64 11]
  | some s => ∃ vc vk vb, v = .tuple #[.agg #[.bool s.up, .int .i64 s.epoch, .int .i64 (sclOf s.entries), vc, vk, vb], .int .i64 0] ∧ CutsIm k w vc s.cuts ∧
      Made w' w.heap.size 59 3 vk ((recsUp s.entries true 40).map recRow) ∧ Made w' w.heap.size 59 3 vb ((recsUp s.entries false 40).map recRow)

theorem refSegment_any {k : Nat → Nat} {w : World} {q : Nat} {r : RVol} (n : Int) (hY : YVol k w q r) (hok : YOk r) :
    Calls Tryz.prog 52 #[.pointer (some ⟨q, 0, none⟩), .int .i64 n] w fun e w' => (∃ v, e = .returned v ∧ SegAns k w w' (segAt r.segs n) v) ∧ Below w.heap.size w w' := by
  obtain ⟨vSegs, vPens, sb, pb, ⟨vNet, rows, hB, hN⟩, hS, hP⟩ := hY.ex
  have hl1 := hS.l1
  have hl2 := hS.l2
  unfold segAt
  by_cases h1 : n < 0
  · rw [if_pos h1]
    refine (segment_low w q n h1).mono ?_
    rintro e w' ⟨rfl, hb⟩
    exact ⟨⟨_, rfl, rfl⟩, hb⟩
  · rw [if_neg h1]
    by_cases h2 : 5 < n
    · rw [List.getElem?_eq_none (by omega)]
      refine (segment_high w q n h1 h2).mono ?_
      rintro e w' ⟨rfl, hb⟩
      exact ⟨⟨_, rfl, rfl⟩, hb⟩
    · obtain ⟨i, rfl⟩ := Int.eq_ofNat_of_zero_le (show 0 ≤ n by omega)
      have hi : i < sb.length := by omega
      obtain ⟨a, cap, hv, hg⟩ := ptrs_cells hS.own
      have hc : w.cell? ⟨q, 3, none⟩ = some (.slice a sb.length cap) := by rw [hB.cell, hv]; rfl
      obtain ⟨g, rfl, hp⟩ := hg i hi
      rw [Int.toNat_natCast, List.getElem?_eq_getElem (by omega)]
      refine (segment_in q g sb[i] sb.length cap i (by omega) hi hc hp (hS.all i hi (by omega)) (hok.sk _ (List.getElem_mem (by omega)))).mono ?_
      rintro e w' ⟨⟨vc, vk, vb, rfl, h1, h2, h3⟩, hb⟩
      exact ⟨⟨_, rfl, vc, vk, vb, rfl, h1, h2, h3⟩, hb⟩
end Go.Proofs.YtfpbkghcjaonlaaGreat

/-
  sixfoldref: New.
-/
namespace Go.Proofs.YtfpbkghcjaonlaaGreat
open Go.RowKit

def cRef : Nat → Prop := fun c => 10 ≤ c ∧ c < 100

theorem Rows.lit {k : Nat → Nat} {w : World} {c e size b : Nat} {row : List Value} (h : w.heap[b]? = some (.cells row.toArray e (0, 0))) (hk : k b = c) (hl : row.length = size) : Rows k w c e size (.slice (some ⟨b, 0, none⟩) 1 1) [row] := by
  refine ⟨by simp [hl], ⟨by simp [hl], .inr ⟨b, 1, row.toArray, rfl, Nat.zero_le _, h, by simp, by simp [maxLen], by simp [hl], by simp [← hl]⟩⟩, fun g hg => ?_⟩
  simp [Value.ownBlock] at hg
  subst hg; exact hk

theorem Tryz.infoStorePtr : (Tryz.prog.info? 85).map (fun i => (i.zero, i.size, i.bytes)) = some (some (.pointer none), 1, 8) := by kernel_rfl

def seg0 : RSeg := ⟨true, [0], [[]], []⟩

/-- Colours for the four blocks of a new store. -/
def colourStore (n j : Nat) (k : Nat → Nat) (g : Nat) : Nat := if g < n then k g else if g = n then cS j + 1 else if g = n + 1 then cS j + 2 else if g = n + 2 then cS j else 0

set_option maxHeartbeats 1000000 in
theorem refNew_bad (w : World) (a b : Int) (h : a < 1 ∨ 8 < a ∨ b < 1 ∨ 200 < b) :
    Calls Tryz.prog 15 #[.agg #[.int .i64 a, .int .i64 b]] w fun e w' => e = .returned (.tuple #[.pointer none, .int .i64 1]) ∧ Below w.heap.size w w' := by
  by_cases h1 : a < 1
  · have d1 : decide (a < 1) = true := by simpa using h1
    go_enter Tryz.func15, Tryz.ntmps15
    go_wp2
    go_ret2
    exact ⟨rfl, (Below.refl _ _).alloc (Nat.le_refl _) _⟩
  · have d1 : decide (a < 1) = false := by simpa using h1
    by_cases h3 : b < 1
    · have d3 : decide (b < 1) = true := by simpa using h3
      go_enter Tryz.func15, Tryz.ntmps15
      go_wp2
      go_ret2
      exact ⟨rfl, (Below.refl _ _).alloc (Nat.le_refl _) _⟩
    · have d3 : decide (b < 1) = false := by simpa using h3
      by_cases h2 : 8 < a
      · have d2 : decide (8 < a) = true := by simpa using h2
        go_enter Tryz.func15, Tryz.ntmps15
        go_wp2
        go_ret2
        exact ⟨rfl, (Below.refl _ _).alloc (Nat.le_refl _) _⟩
      · have d2 : decide (8 < a) = false := by simpa using h2
        have h4 : 200 < b := by omega
        have d4 : decide (200 < b) = true := by simpa using h4
        clear h
        go_enter Tryz.func15, Tryz.ntmps15
        go_wp2
        go_ret2
        exact ⟨rfl, (Below.refl _ _).alloc (Nat.le_refl _) _⟩

theorem lists0 (k : Nat → Nat) (w : World) : All2 (fun l r => ∃ x, r = [x] ∧ CutsIm k w x l) seg0.lists [[.slice none 0 0]] := by
  refine ⟨rfl, fun i a b => ?_⟩
  match i, b with
  | 0, _ => exact ⟨_, rfl, Rows.nil _ _ _ _ _⟩

def NewSt (k : Nat → Nat) (w wr : World) (q : Nat) (a b : Int) (j : Nat) : Prop :=
  ∃ (k' : Nat → Nat) (bs : List Nat) (vSegs : Value), Evo k k' cRef w wr ∧ Blk k' wr cY q 84 [.int .i64 a, .int .i64 b, .slice none 0 0, vSegs, .slice none 0 0] ∧ Rows k' wr cSegs 85 1 vSegs (bs.map ptrRow) ∧ bs.length = j ∧
    ∀ i (h : i < bs.length), StoreIs k' wr (cS i) bs[i] seg0

set_option maxHeartbeats 4000000 in
theorem refNew_good (k : Nat → Nat) (w : World) (a b : Int) (h1 : ¬ a < 1) (h2 : ¬ 8 < a) (h3 : ¬ b < 1) (h4 : ¬ 200 < b) :
    Calls Tryz.prog 15 #[.agg #[.int .i64 a, .int .i64 b]] w fun e w' => ∃ q k', e = .returned (.tuple #[.pointer (some ⟨q, 0, none⟩), .int .i64 0]) ∧ Evo k k' cRef w w' ∧
      YVol k' w' q ⟨a, b, [], List.replicate 6 seg0, []⟩ := by
  have d1 : decide (a < 1) = false := by simpa using h1
  have d2 : decide (8 < a) = false := by simpa using h2
  have d3 : decide (b < 1) = false := by simpa using h3
  have d4 : decide (200 < b) = false := by simpa using h4
  go_enter Tryz.func15, Tryz.ntmps15
  go_wp2
  have hst0 : Hid (NewSt k w ((w.alloc (Obj.cells #[.int .i64 a, .int .i64 b] 23)).alloc (Obj.cells #[.int .i64 a, .int .i64 b, .slice none 0 0, .slice none 0 0, .slice none 0 0] 84)) (w.heap.size + 1) a b 0) := hide (by
    refine ⟨fun g => if g < w.heap.size then k g else if g = w.heap.size + 1 then cY else 0, [], .slice none 0 0, ?_, ⟨heap_alloc2_new w _ _, ?_⟩, Rows.nil _ _ _ _ _, rfl, fun i h => by simp at h⟩
    · exact (((Evo.refl k cRef w).alloc _).alloc _).recolour _ (fun i hi => if_pos hi)
    · show (if w.heap.size + 1 < w.heap.size then _ else _) = _
      rw [if_neg (by omega), if_pos rfl])
  go_loopw [5] (fun i wr => ∃ j : Nat, j ≤ 6 ∧ i = .int .i64 j ∧ Hid (NewSt k w wr (w.heap.size + 1) a b j)) (fun i _ => 6 - (intOf i).toNat)
  case atStart => exact ⟨0, by omega, rfl, hst0⟩
  case round =>
    obtain ⟨j, hj, rfl, hst⟩ := hrel
    clear hst0
    by_cases hlt : j < 6
    · have hd : decide ((j : Int) < 6) = true := by simp; omega
      obtain ⟨k', bs, vSegs, ev, hB, hR, hbl, hS⟩ := hst.out
      clear hst
      have y3 : wr.cell? ⟨w.heap.size + 1, 3, none⟩ = some vSegs := hB.cell 3
      have hql := hB.lt
      obtain ⟨sa, scap, hsf, _⟩ := hR.form
      simp only [List.length_map, hbl] at hsf
      subst hsf
      obtain ⟨W4, hW4⟩ : ∃ W4, W4 = ((((wr.alloc (Obj.cells #[.int .i64 0] 3)).alloc (Obj.cells #[.slice none 0 0] 49)).alloc (Obj.cells #[.bool true, .slice (some ⟨wr.heap.size, 0, none⟩) 1 1, .slice (some ⟨wr.heap.size + 1, 0, none⟩) 1 1, .slice none 0 0] 89)).alloc (Obj.cells #[.pointer (some ⟨wr.heap.size + 1 + 1, 0, none⟩)] 85)) := ⟨_, rfl⟩
      have e4 : Evo k' (colourStore wr.heap.size j k') noC wr W4 := by rw [hW4]; exact (((((Evo.refl k' noC wr).alloc _).alloc _).alloc _).alloc _).recolour _ (fun i hi => if_pos hi)
      obtain ⟨q0, q1, q2, q3⟩ : W4.heap[wr.heap.size]? = some (.cells #[.int .i64 0] 3 (0, 0)) ∧ W4.heap[wr.heap.size + 1]? = some (.cells #[.slice none 0 0] 49 (0, 0)) ∧
          W4.heap[wr.heap.size + 2]? = some (.cells #[.bool true, .slice (some ⟨wr.heap.size, 0, none⟩) 1 1, .slice (some ⟨wr.heap.size + 1, 0, none⟩) 1 1, .slice none 0 0] 89 (0, 0)) ∧ W4.heap[wr.heap.size + 3]? = some (.cells #[.pointer (some ⟨wr.heap.size + 2, 0, none⟩)] 85 (0, 0)) := by
        rw [hW4]
        refine ⟨?_, ?_, ?_, ?_⟩
        · rw [Below.heap_alloc _ _ _ (by simp <;> omega), Below.heap_alloc _ _ _ (by simp <;> omega), Below.heap_alloc _ _ _ (by simp)]; exact heap_alloc_new wr _
        · rw [Below.heap_alloc _ _ _ (by simp <;> omega), Below.heap_alloc _ _ _ (by simp)]; exact heap_alloc2_new wr _ _
        · rw [Below.heap_alloc _ _ _ (by simp)]
          have := heap_alloc2_new (wr.alloc (Obj.cells #[.int .i64 0] 3)) (Obj.cells #[.slice none 0 0] 49) (Obj.cells #[.bool true, .slice (some ⟨wr.heap.size, 0, none⟩) 1 1, .slice (some ⟨wr.heap.size + 1, 0, none⟩) 1 1, .slice none 0 0] 89)
          simpa using this
        · have := heap_alloc2_new ((wr.alloc (Obj.cells #[.int .i64 0] 3)).alloc (Obj.cells #[.slice none 0 0] 49)) (Obj.cells #[.bool true, .slice (some ⟨wr.heap.size, 0, none⟩) 1 1, .slice (some ⟨wr.heap.size + 1, 0, none⟩) 1 1, .slice none 0 0] 89) (Obj.cells #[.pointer (some ⟨wr.heap.size + 2, 0, none⟩)] 85)
          simpa using this
      have hnews : ∀ x u, ([ptrRow (wr.heap.size + 2)] : List (List Value)).flatten[x]? = some u → ((((wr.alloc (Obj.cells #[.int .i64 0] 3)).alloc (Obj.cells #[.slice none 0 0] 49)).alloc (Obj.cells #[.bool true, .slice (some ⟨wr.heap.size, 0, none⟩) 1 1, .slice (some ⟨wr.heap.size + 1, 0, none⟩) 1 1, .slice none 0 0] 89)).alloc (Obj.cells #[.pointer (some ⟨wr.heap.size + 1 + 1, 0, none⟩)] 85)).cell? ((⟨wr.heap.size + 1 + 1 + 1, 0, none⟩ : Addr).add x) = some u := fun x u hx => by
        rw [← hW4, Addr.add_lit, Nat.zero_add]
        show W4.cell? ⟨wr.heap.size + 3, x, none⟩ = some u
        rw [cell_of_row _ _ x _ _ _ q3]
        simpa [ptrRow] using hx
      have hS4 : StoreIs (colourStore wr.heap.size j k') W4 (cS j) (wr.heap.size + 2) seg0 := by
        refine ⟨_, _, _, ⟨q2, ?_⟩, Rows.lit (row := [.int .i64 0]) q0 ?_ rfl, ⟨[[.slice none 0 0]], Rows.lit (row := [.slice none 0 0]) q1 ?_ rfl, lists0 _ _⟩, Rows.nil _ _ _ _ _⟩
        · unfold colourStore; rw [if_neg (by omega), if_neg (by omega), if_neg (by omega), if_pos rfl]
        · unfold colourStore; rw [if_neg (by omega), if_pos rfl]
        · unfold colourStore; rw [if_neg (by omega), if_neg (by omega), if_pos rfl]
      have hR4 := hR.evo e4 (noC_not _)
      have hB4 := hB.evo e4 (noC_not _)
      have hS4' : ∀ i (h : i < bs.length), StoreIs (colourStore wr.heap.size j k') W4 (cS i) bs[i] seg0 := fun i h => (hS i h).evo e4 (noC_not _) (noC_not _) (noC_not _) (noC_not _) (noC_not _)
      rw [hW4] at hR4 hB4
      have HS4 := hide hS4
      have HS4' := hide hS4'
      have HW4 := hide hW4
      have HBL := hide hbl
      clear hW4 q0 q1 q2 q3 hS4 hS4' hS hB hR hbl
      go_wp2_with (at_builtin; go_must (refine wpList_append_rows (colourStore wr.heap.size j k') cSegs (.tmp 35) (.tmp 40) 81 85 _ 1 8 _ (bs.map ptrRow) [ptrRow (wr.heap.size + 2)] j ⟨wr.heap.size + 1 + 1 + 1, 0, none⟩ 1 1 (by simp [HBL.out]) rfl rfl Tryz.underlying81 Tryz.infoStorePtr rfl (by decide) rfl rfl hR4 rfl (by simp [ptrRow]) hnews (by simp [ptrRow, Value.oneCell']) (by simp only [maxLen]; omega) (by omega) ?_; intro ao1 cap1 w1 k1 hR1 hE1; have hB1 := hB4.evo hE1 (by decide); have x3 : w1.cell? ⟨w.heap.size + 1, 3, none⟩ = some (.slice sa j scap) := hB1.cell 3; have xf := hB1.free 3))
      go_roundw
      case rel =>
        rw [← HW4.out] at hB4 hE1
        obtain ⟨f1, f2, f3⟩ := push_fin (Evo.refl _ noC W4) hB4 (by decide) hR1 hE1 3
        have hne : ∀ c, c = cY ∨ c = cSegs → cRef c := fun c h => by rcases h with h | h <;> subst h <;> exact ⟨by decide, by decide⟩
        have hnot : ∀ c, 20 ≤ c → ¬ (c = cY ∨ c = cSegs) := fun c hc h => by unfold cY cSegs at h; omega
        have him : ¬ (IM = cY ∨ IM = cSegs) := by decide
        have hup : ∀ i bb, StoreIs (colourStore wr.heap.size j k') W4 (cS i) bb seg0 → StoreIs k1 (w1.setCell ⟨w.heap.size + 1, 3, none⟩ (.slice ao1 (j + 1) cap1)) (cS i) bb seg0 := fun i bb h =>
          h.evo f1 him (hnot _ (by unfold cS; omega)) (hnot _ (by unfold cS; omega)) (hnot _ (by unfold cS; omega)) (hnot _ (by unfold cS; omega))
        refine ⟨j + 1, by omega, by go_num, hide ⟨k1, bs ++ [wr.heap.size + 2], _, ev.trans ((e4.mono (fun _ h => h.elim)).trans (f1.mono hne)), f2, ?_, by simp [HBL.out], ?_⟩⟩
        · rw [List.map_append]; exact f3
        · intro i hi
          by_cases hib : i < bs.length
          · rw [List.getElem_append_left hib]; exact hup i _ (HS4'.out i hib)
          · have hij : i = j := by have := HBL.out; simp at hi; omega
            subst hij
            have hbb : (bs ++ [wr.heap.size + 2])[i] = wr.heap.size + 2 := by
              rw [List.getElem_append_right (by omega)]; simp
            rw [hbb]; exact hup i _ HS4.out
      case measure => simp [intOf]; omega
    · have hj6 : j = 6 := by omega
      have hd : decide ((j : Int) < 6) = false := by simp; omega
      rw [hj6] at hst
      clear hj6
      go_wp2
      go_ret2
      obtain ⟨k', bs, vSegs, ev, hB, hR, hbl, hS⟩ := hst.out
      refine ⟨w.heap.size + 1, k', rfl, ev, ⟨vSegs, .slice none 0 0, bs, [], ⟨.slice none 0 0, [], hB, Rows.nil _ _ _ _ _, rfl, fun i h => by simp at h⟩, ⟨hR, hbl, by simp, fun i h h2 => ?_⟩, ⟨Rows.nil _ _ _ _ _, rfl, by simp, fun i h => by simp at h⟩⟩⟩
      have e1 : (List.replicate 6 seg0)[i]'h2 = seg0 := List.getElem_replicate h2
      rw [e1]; exact hS i h
end Go.Proofs.YtfpbkghcjaonlaaGreat

/-
  sixfoldlaw: cutMark, recordMark, sameCuts, sameRecords, sameInts.
-/
namespace Go.Proofs.YtfpbkghcjaonlaaGreat
open Go.RowKit

def cutMk (m : Nat) : List Value := [.int .i64 (-1 - (m : Int)), .int .i64 (-1)]
def recMk (m : Nat) : List Value := [.int .i64 (-1 - (m : Int)), .int .i64 (-1), .int .i64 (-1)]
def intMk (m : Nat) : List Value := [.int .i64 (-1 - (m : Int))]

set_option maxHeartbeats 400000 in
theorem cutMark_any (w : World) (m : Nat) (hm : m ≤ 40000000000) :
    Calls Tryz.prog 19 #[.int .i64 m] w fun e w' => e = .returned (.agg #[.int .i64 (-1 - (m : Int)), .int .i64 (-1)]) ∧ Below w.heap.size w w' := by
  go_enter Tryz.func19, Tryz.ntmps19
  go_wp2
  exact bodyPost_ret (v := .agg #[.int .i64 (-1 - (m : Int)), .int .i64 (-1)]) (by simp [results, Tryz.results19, go_sem]) rfl ⟨rfl, (Below.refl _ _).alloc (Nat.le_refl _) _⟩

set_option maxHeartbeats 400000 in
theorem recordMark_any (w : World) (m : Nat) (hm : m ≤ 40000000000) :
    Calls Tryz.prog 20 #[.int .i64 m] w fun e w' => e = .returned (.agg #[.int .i64 (-1 - (m : Int)), .int .i64 (-1), .int .i64 (-1)]) ∧ Below w.heap.size w w' := by
  go_enter Tryz.func20, Tryz.ntmps20
  go_wp2
  exact bodyPost_ret (v := .agg #[.int .i64 (-1 - (m : Int)), .int .i64 (-1), .int .i64 (-1)]) (by simp [results, Tryz.results20, go_sem]) rfl ⟨rfl, (Below.refl _ _).alloc (Nat.le_refl _) _⟩

theorem recs_cells {k : Nat → Nat} {w : World} {c : Nat} {v : Value} {l : List Ent} (h : Rows k w c 59 3 v (l.map recRow)) :
    ∃ a cap, v = .slice a l.length cap ∧ ∀ i, (hi : i < l.length) → ∃ b, a = some ⟨b, 0, none⟩ ∧ w.cell? ⟨b, i * 3, none⟩ = some (.int .i64 l[i].lsn) ∧ w.cell? ⟨b, i * 3 + 1, none⟩ = some (.int .i64 l[i].epoch) ∧ w.cell? ⟨b, i * 3 + 2, none⟩ = some (.int .i64 l[i].value) := by
  obtain ⟨a, cap, rfl, _⟩ := h.form
  refine ⟨a, cap, by simp, fun i hi => ?_⟩
  obtain ⟨b, cap', hv, _, _, _, hc, _⟩ := h.at (by simp; omega)
  simp at hv
  have f := fun j hj => hc i j (by simpa using hi) hj
  refine ⟨b, hv.1, ?_, ?_, ?_⟩
  · simpa [recRow] using f 0 (by omega)
  · simpa [recRow] using f 1 (by omega)
  · simpa [recRow] using f 2 (by omega)

set_option maxHeartbeats 1000000 in
theorem sameCuts_yes {k k2 : Nat → Nat} {w : World} {c c2 : Nat} {v v2 : Value} {l : List (Int × Int)} (h : Rows k w c 53 2 v (l.map cutRow)) (h2 : Rows k2 w c2 53 2 v2 (l.map cutRow)) (hl : l.length ≤ 4000000000) :
    Calls Tryz.prog 53 #[v, v2] w fun e w' => e = .returned (.bool true) ∧ Below w.heap.size w w' := by
  obtain ⟨a, cap, rfl, hc⟩ := cuts_cells h
  obtain ⟨a2, cap2, rfl, hc2⟩ := cuts_cells h2
  clear h h2
  go_enter Tryz.func53, Tryz.ntmps53
  go_wp2
  go_loopw [5] (fun i wr => (∃ n, wr = w.drewN n) ∧ ∃ j : Nat, j ≤ l.length ∧ i = .int .i64 j) (fun i _ => l.length - (intOf i).toNat)
  case atStart => exact ⟨⟨0, rfl⟩, 0, Nat.zero_le _, rfl⟩
  case round =>
    obtain ⟨⟨n0, rfl⟩, j, hj, rfl⟩ := hrel
    by_cases hlt : j < l.length
    · obtain ⟨b, rfl, p0, p1⟩ := hc j hlt
      obtain ⟨b2, rfl, q0, q1⟩ := hc2 j hlt
      go_wp2
      go_quiet (fail)
      go_wp2
      go_roundw
      case rel => exact ⟨⟨_, rfl⟩, j + 1, by omega, by go_num⟩
      case measure => simp [intOf]; omega
    · go_wp2
      go_ret
      exact ⟨rfl, below_drewN (Below.refl _ _) _⟩

set_option maxHeartbeats 1000000 in
theorem sameRecords_yes {k k2 : Nat → Nat} {w : World} {c c2 : Nat} {v v2 : Value} {l : List Ent} (h : Rows k w c 59 3 v (l.map recRow)) (h2 : Rows k2 w c2 59 3 v2 (l.map recRow)) (hl : l.length ≤ 4000000000) :
    Calls Tryz.prog 54 #[v, v2] w fun e w' => e = .returned (.bool true) ∧ Below w.heap.size w w' := by
  obtain ⟨a, cap, rfl, hc⟩ := recs_cells h
  obtain ⟨a2, cap2, rfl, hc2⟩ := recs_cells h2
  clear h h2
  go_enter Tryz.func54, Tryz.ntmps54
  go_wp2
  go_loopw [5] (fun i wr => (∃ n, wr = w.drewN n) ∧ ∃ j : Nat, j ≤ l.length ∧ i = .int .i64 j) (fun i _ => l.length - (intOf i).toNat)
  case atStart => exact ⟨⟨0, rfl⟩, 0, Nat.zero_le _, rfl⟩
  case round =>
    obtain ⟨⟨n0, rfl⟩, j, hj, rfl⟩ := hrel
    by_cases hlt : j < l.length
    · obtain ⟨b, rfl, p0, p1, p2⟩ := hc j hlt
      obtain ⟨b2, rfl, q0, q1, q2⟩ := hc2 j hlt
      go_wp2
      go_quiet (fail)
      go_wp2
      go_roundw
      case rel => exact ⟨⟨_, rfl⟩, j + 1, by omega, by go_num⟩
      case measure => simp [intOf]; omega
    · go_wp2
      go_ret
      exact ⟨rfl, below_drewN (Below.refl _ _) _⟩

set_option maxHeartbeats 1000000 in
theorem sameInts_yes {k k2 : Nat → Nat} {w : World} {c c2 : Nat} {v v2 : Value} {l : List Int} (h : Rows k w c 3 1 v (l.map intRow)) (h2 : Rows k2 w c2 3 1 v2 (l.map intRow)) (hl : l.length ≤ 4000000000) :
    Calls Tryz.prog 61 #[v, v2] w fun e w' => e = .returned (.bool true) ∧ Below w.heap.size w w' := by
  obtain ⟨a, cap, rfl, hc⟩ := ints_cells h
  obtain ⟨a2, cap2, rfl, hc2⟩ := ints_cells h2
  clear h h2
  go_enter Tryz.func61, Tryz.ntmps61
  go_wp2
  go_loopw [5] (fun i wr => (∃ n, wr = w.drewN n) ∧ ∃ j : Nat, j ≤ l.length ∧ i = .int .i64 j) (fun i _ => l.length - (intOf i).toNat)
  case atStart => exact ⟨⟨0, rfl⟩, 0, Nat.zero_le _, rfl⟩
  case round =>
    obtain ⟨⟨n0, rfl⟩, j, hj, rfl⟩ := hrel
    by_cases hlt : j < l.length
    · obtain ⟨b, rfl, p0⟩ := hc j hlt
      obtain ⟨b2, rfl, q0⟩ := hc2 j hlt
      go_wp2
      go_quiet (fail)
      go_wp2
      go_roundw
      case rel => exact ⟨⟨_, rfl⟩, j + 1, by omega, by go_num⟩
      case measure => simp [intOf]; omega
    · go_wp2
      go_ret
      exact ⟨rfl, below_drewN (Below.refl _ _) _⟩

/-- A list of the caller's: it reads as the caller has written it. -/
def OutOk (k : Nat → Nat) (w : World) (L : Nat → Prop) (e size : Nat) (mk : Nat → List Value) (r : List Value) : Prop :=
  ∃ v m n c, r = [v, .int .i64 (m : Nat)] ∧ m ≤ 4000000000 ∧ n ≤ 4100000000 ∧ L c ∧ Rows k w c e size v (List.replicate n (mk m))

def OutsOk (k : Nat → Nat) (w : World) (L : Nat → Prop) (c e1 e size : Nat) (mk : Nat → List Value) (v : Value) (n : Nat) : Prop :=
  ∃ rows, Rows k w c e1 2 v rows ∧ rows.length = n ∧ ∀ r ∈ rows, OutOk k w L e size mk r

theorem OutOk.evo {k k' : Nat → Nat} {w w' : World} {L : Nat → Prop} {e size : Nat} {mk : Nat → List Value} {r : List Value} {C : Nat → Prop} (h : OutOk k w L e size mk r) (g : Evo k k' C w w') (hc : ∀ c, L c → ¬ C c) : OutOk k' w' L e size mk r := by
  obtain ⟨v, m, n, c, hr, hm, hn, hL, hR⟩ := h
  exact ⟨v, m, n, c, hr, hm, hn, hL, hR.evo g (hc c hL)⟩
theorem OutsOk.evo {k k' : Nat → Nat} {w w' : World} {L : Nat → Prop} {c e1 e size : Nat} {mk : Nat → List Value} {v : Value} {n : Nat} {C : Nat → Prop} (h : OutsOk k w L c e1 e size mk v n) (g : Evo k k' C w w') (hc : ∀ c, L c → ¬ C c) (h1 : ¬ C c) : OutsOk k' w' L c e1 e size mk v n := by
  obtain ⟨rows, a, b, d⟩ := h
  exact ⟨rows, a.evo g h1, b, fun r hr => (d r hr).evo g hc⟩
theorem OutsOk.more {k : Nat → Nat} {w : World} {L L' : Nat → Prop} {c e1 e size : Nat} {mk : Nat → List Value} {v : Value} {n : Nat} (h : OutsOk k w L c e1 e size mk v n) (hL : ∀ c, L c → L' c) : OutsOk k w L' c e1 e size mk v n := by
  obtain ⟨rows, a, b, d⟩ := h
  refine ⟨rows, a, b, fun r hr => ?_⟩
  obtain ⟨v, m, n, c, hr, hm, hn, h1, hR⟩ := d r hr
  exact ⟨v, m, n, c, hr, hm, hn, hL c h1, hR⟩

/-- The law's own world; colours 200 to 203. -/
structure LawIs (k : Nat → Nat) (w : World) (L : Nat → Prop) (b px py nC nR nI : Nat) : Prop where
  ex : ∃ vC vR vI, Blk k w 200 b 48 [.pointer (some ⟨px, 0, none⟩), .pointer (some ⟨py, 0, none⟩), vC, vR, vI] ∧
    OutsOk k w L 201 51 53 2 cutMk vC nC ∧ OutsOk k w L 202 57 59 3 recMk vR nR ∧ OutsOk k w L 203 63 3 1 intMk vI nI

theorem LawIs.evo {k k' : Nat → Nat} {w w' : World} {L : Nat → Prop} {b px py nC nR nI : Nat} {C : Nat → Prop} (h : LawIs k w L b px py nC nR nI) (g : Evo k k' C w w') (hc : ∀ c, L c → ¬ C c) (h1 : ∀ c, 200 ≤ c → c < 204 → ¬ C c) : LawIs k' w' L b px py nC nR nI := by
  obtain ⟨vC, vR, vI, a, b, c, d⟩ := h.ex
  exact ⟨vC, vR, vI, a.evo g (h1 _ (by decide) (by decide)), b.evo g hc (h1 _ (by decide) (by decide)), c.evo g hc (h1 _ (by decide) (by decide)), d.evo g hc (h1 _ (by decide) (by decide))⟩

/-- The lists as the walk asks for them. -/
theorem outs_cells {k : Nat → Nat} {w : World} {L : Nat → Prop} {c e1 e size : Nat} {mk : Nat → List Value} {v : Value} {n : Nat} (h : OutsOk k w L c e1 e size mk v n) :
    ∃ a cap, v = .slice a n cap ∧ ∀ i, i < n → ∃ b x m len c2, a = some ⟨b, 0, none⟩ ∧ w.cell? ⟨b, i * 2, none⟩ = some x ∧ w.cell? ⟨b, i * 2 + 1, none⟩ = some (.int .i64 (m : Nat)) ∧ m ≤ 4000000000 ∧ len ≤ 4100000000 ∧ Rows k w c2 e size x (List.replicate len (mk m)) := by
  obtain ⟨rows, h1, rfl, h2⟩ := h
  obtain ⟨a, cap, rfl, _⟩ := h1.form
  refine ⟨a, cap, rfl, fun i hi => ?_⟩
  obtain ⟨b, cap', hv, _, _, _, hc, _⟩ := h1.at (by omega)
  simp at hv
  obtain ⟨x, m, len, c2, hr, hm, hn, _, hR⟩ := h2 _ (List.getElem_mem hi)
  have f0 := hc i 0 hi (by omega)
  have f1 := hc i 1 hi (by omega)
  rw [hr] at f0 f1
  exact ⟨b, x, m, len, c2, hv.1, f0, f1, hm, hn, hR⟩

theorem marks_cells {k : Nat → Nat} {w : World} {c e size len : Nat} {x : Value} {r : List Value} (h : Rows k w c e size x (List.replicate len r)) :
    ∃ a cap, x = .slice a len cap ∧ ∀ i, i < len → ∃ b, a = some ⟨b, 0, none⟩ ∧ ∀ j, j < size → w.cell? ⟨b, i * size + j, none⟩ = r[j]? := by
  obtain ⟨a, cap, rfl, _⟩ := h.form
  refine ⟨a, cap, by simp, fun i hi => ?_⟩
  obtain ⟨b, cap', hv, _, _, _, hc, _⟩ := h.at (by simp; omega)
  simp at hv
  refine ⟨b, hv.1, fun j hj => ?_⟩
  have := hc i j (by simpa using hi) hj
  simpa using this
end Go.Proofs.YtfpbkghcjaonlaaGreat
