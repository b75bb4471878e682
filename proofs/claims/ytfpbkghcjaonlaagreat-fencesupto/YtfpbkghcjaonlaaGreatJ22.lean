import Derived.Test.YtfpbkghcjaonlaaGreatJ21
import Derived.Test.YtfpbkghcjaonlaaGreatJ14
/-
  The program: arriveAtWriter.
-/
namespace Go.Proofs.YtfpbkghcjaonlaaGreat
open Go.RowKit

/-- The program's colours. -/
def cXS : Nat → Prop := fun c => 100 ≤ c ∧ c < 200

/-- A writer of the volume, in slices. -/
theorem wr_write2 {k : Nat → Nat} {w : World} {px : Nat} {x : XVol} (hx : XVolIs k w px x) (i : Nat) (hi : i < x.wrs.length) :
    ∃ g cap wrows n0 n1 n2 c0 c1 c2 v0 v1 v2, w.cell? ⟨px, 741, none⟩ = some (.slice (some ⟨g, 0, none⟩) x.wrs.length cap) ∧ px < w.heap.size ∧ k px = cX ∧ WrW k w g x.wrs.length cap wrows i x.wrs[i] (.slice n0 n1 n2) (.slice c0 c1 c2) (.slice v0 v1 v2) ∧
      NotesIs k w (cWr i) (.slice n0 n1 n2) x.wrs[i].notes ∧ CutsIm k w (.slice c0 c1 c2) x.wrs[i].cuts ∧ Rows k w (cWr i + 1) 3 1 (.slice v0 v1 v2) (x.wrs[i].values.map intRow) ∧
      ∀ k' w' (C : Nat → Prop) x' vN' vC' vV', Evo k k' C w w' → (∀ c, C c → c = cXW ∨ c = cWr i ∨ c = cWr i + 1) → WrW k' w' g x.wrs.length cap (wrows.set i (wrRow x' vN' vC' vV')) i x' vN' vC' vV' → NotesIs k' w' (cWr i) vN' x'.notes → CutsIm k' w' vC' x'.cuts → Rows k' w' (cWr i + 1) 3 1 vV' (x'.values.map intRow) → XVolIs k' w' px (x.setWr i x') := by
  have hkx : k px = cX := by obtain ⟨_, _, _, _, hB, _⟩ := hx.ex; exact hB.2
  obtain ⟨g, cap, wrows, vN, vC, vV, q, hpl, hW, hN, hC, hV, back⟩ := wr_write hx i hi
  obtain ⟨rows, hR, hA⟩ := id hN
  obtain ⟨n0, n1, n2, hz⟩ := Rows.shape hR
  subst hz
  obtain ⟨c0, c1, c2, hz⟩ := Rows.shape hC
  subst hz
  obtain ⟨v0, v1, v2, hz⟩ := Rows.shape hV
  subst hz
  exact ⟨g, cap, wrows, n0, n1, n2, c0, c1, c2, v0, v1, v2, q, hpl, hkx, hW, hN, hC, hV, back⟩

theorem XOk.setWr {x : XVol} (h : XOk x) (i : Nat) (p : XWr) (hp : XWOk p) : XOk (x.setWr i p) :=
  ⟨h.rm, h.ml, h.mo, h.sk, fun q hq => by
    rcases List.mem_or_eq_of_mem_set hq with h1 | rfl
    · exact h.wk q h1
    · exact hp⟩

set_option maxRecDepth 3000 in
set_option maxHeartbeats 8000000 in
theorem xatWr_in {k : Nat → Nat} {w : World} {px : Nat} {x : XVol} (hx : XVolIs k w px x) (hok : XOk x) (i : Nat) (hi : i < x.wrs.length) (m : Msg) (hto : m.to_ = (i : Int) + 1) (z0 y0 : Option Addr) (z1 z2 y1 y2 : Nat) (hcz : CutsIm k w (.slice z0 z1 z2) m.cuts) (hmz : IntsIm k w (.slice y0 y1 y2) m.marks) (hmk : MsgOk m)
    (hn3 : x.wrs[i].phase = 1 → x.wrs[i].notes.length ≤ 3) (hok2 : XWOk (x.wrs[i].arrive m).1) (hok3 : ∀ m' ∈ (x.wrs[i].arrive m).2, MsgOk m') (hlen : (x.wrs[i].arrive m).2.length ≤ 100) :
    Calls Tryz.prog 114 #[.pointer (some ⟨px, 0, none⟩), .agg #[.int .i64 m.kind, .int .i64 m.frm, .int .i64 m.to_, .int .i64 m.epoch, .int .i64 m.lsn, .int .i64 m.value, .int .i64 m.scl, .slice z0 z1 z2, .slice y0 y1 y2]] w fun e w' => e = .returned (.tuple #[]) ∧ ∃ k', Evo k k' cXS w w' ∧ XVolIs k' w' px (x.atWr m) := by
  have h9 : x.wrs.length ≤ 9 := by obtain ⟨_, _, _, _, _, _, _, hW⟩ := hx.ex; exact hW.l2
  have HE : Hid (x.atWr m = (x.setWr i (x.wrs[i].arrive m).1).sendAll (x.wrs[i].arrive m).2) := hide (by
    unfold XVol.atWr
    rw [if_neg (by omega), show m.to_.toNat - 1 = i from by omega, List.getElem?_eq_getElem hi])
  have HI : Hid (∀ W, Below w.heap.size w W → Calls Tryz.prog 68 #[.pointer (some ⟨px, 0, none⟩), .int .i64 ((i : Int) + 1)] W fun e w' => e = .returned (.bool true) ∧ w' = W) := hide fun W hW => isWr_in (hx.evo (Evo.of_below (C := noC) hW) (noC_not _) (fun c _ _ => noC_not c)) i hi
  have hpk := hok.wk _ (List.getElem_mem hi)
  obtain ⟨mk, mf, mt, m3, m4, m5, m6, mc, mm⟩ := m
  dsimp only at hto hcz hmz
  subst hto
  have hpl : px < w.heap.size := by obtain ⟨_, _, _, _, hB, _⟩ := hx.ex; exact hB.lt
  have hix : (i : Int) + 1 - 1 = (i : Int) := by omega
  have hil : (i : Int) < (x.wrs.length : Int) := by omega
  have hwr : IntKind.i64.wrap ((i : Int) + 1 - 1) = (i : Int) := by rw [hix, IntKind.wrap_i64] <;> omega
  have hwr2 : IntKind.i64.wrap (i : Int) = (i : Int) := by rw [IntKind.wrap_i64] <;> omega
  have hi0 : ¬ (i : Int) < 0 := by omega
  have HXV := hide hx
  have HCz := hide hcz
  have HMz := hide hmz
  clear hx hcz hmz
  dsimp only
  go_enter Tryz.func114, Tryz.ntmps114
  go_wp2_with fail
  refine (HI.out _ ((Below.refl _ _).alloc (Nat.le_refl _) _)).mono ?_
  rintro e1 w1 ⟨rfl, hw1⟩
  have hw2 := hw1.symm
  subst hw2
  go_wp2_with fail
  obtain ⟨W0, hW0⟩ : ∃ W0, W0 = w.alloc (Obj.cells #[.int .i64 mk, .int .i64 mf, .int .i64 ((i : Int) + 1), .int .i64 m3, .int .i64 m4, .int .i64 m5, .int .i64 m6, .slice z0 z1 z2, .slice y0 y1 y2] 109) := ⟨_, rfl⟩
  rw [← hW0]
  obtain ⟨kx, hkx⟩ : ∃ kx : Nat → Nat, kx = fun b => if b < w.heap.size then k b else 0 := ⟨_, rfl⟩
  have evx : Evo k kx noC w W0 := by rw [hkx, hW0]; exact ((Evo.refl k noC w).alloc _).recolour _ (fun j hj => if_pos hj)
  obtain ⟨bi, hbi⟩ : ∃ bi, bi = w.heap.size := ⟨_, rfl⟩
  rw [← hbi]
  have bm0 : Blk kx W0 0 bi 109 [.int .i64 mk, .int .i64 mf, .int .i64 ((i : Int) + 1), .int .i64 m3, .int .i64 m4, .int .i64 m5, .int .i64 m6, .slice z0 z1 z2, .slice y0 y1 y2] := by rw [hW0, hbi]; exact ⟨heap_alloc_new w _, by rw [hkx]; simp⟩
  have HH := hide (And.intro hW0 (And.intro hkx hbi))
  clear hW0 hkx hbi
  have hx0 := HXV.out.evo evx (noC_not _) (fun c _ _ => noC_not c)
  obtain ⟨g, cap, wrows, n0, n1, n2, c0, c1, c2, v0, v1, v2, q, hpl0, hkpx, hW, hN, hC, hV, back⟩ := wr_write2 hx0 i hi
  have HS0 : Hid (W0.drew.cell? ⟨px, 741, none⟩ = some (.slice (some ⟨g, 0, none⟩) x.wrs.length cap) ∧ W0.drew.cell? ⟨bi, 0, none⟩ = some (.int .i64 mk) ∧ W0.drew.cell? ⟨bi, 1, none⟩ = some (.int .i64 mf) ∧ W0.drew.cell? ⟨bi, 2, none⟩ = some (.int .i64 ((i : Int) + 1)) ∧ W0.drew.cell? ⟨bi, 3, none⟩ = some (.int .i64 m3) ∧ W0.drew.cell? ⟨bi, 4, none⟩ = some (.int .i64 m4) ∧ W0.drew.cell? ⟨bi, 5, none⟩ = some (.int .i64 m5) ∧ W0.drew.cell? ⟨bi, 6, none⟩ = some (.int .i64 m6) ∧ W0.drew.cell? ⟨bi, 7, none⟩ = some (.slice z0 z1 z2) ∧ W0.drew.cell? ⟨bi, 8, none⟩ = some (.slice y0 y1 y2)) := hide ⟨q, bm0.cell 0, bm0.cell 1, bm0.cell 2, bm0.cell 3, bm0.cell 4, bm0.cell 5, bm0.cell 6, bm0.cell 7, bm0.cell 8⟩
  have HAr : Hid (∀ W, Below W0.heap.size W0 W → Calls Tryz.prog 123 #[.pointer (some ⟨g, i * 20, none⟩), .agg #[.int .i64 mk, .int .i64 mf, .int .i64 ((i : Int) + 1), .int .i64 m3, .int .i64 m4, .int .i64 m5, .int .i64 m6, .slice z0 z1 z2, .slice y0 y1 y2]] W fun e w' => (∃ s0 s1 s2, e = .returned (.slice s0 s1 s2) ∧ ∃ k', Evo k k' cXS w w' ∧ XVolIs k' w' px (x.setWr i (x.wrs[i].arrive ⟨mk, mf, (i : Int) + 1, m3, m4, m5, m6, mc, mm⟩).1) ∧ MsgsIs k' w' 0 (.slice s0 s1 s2) (x.wrs[i].arrive ⟨mk, mf, (i : Int) + 1, m3, m4, m5, m6, mc, mm⟩).2) ∧ (w'.cell? ⟨px, 741, none⟩ = some (.slice (some ⟨g, 0, none⟩) x.wrs.length cap) ∧ w'.cell? ⟨bi, 0, none⟩ = some (.int .i64 mk) ∧ w'.cell? ⟨bi, 1, none⟩ = some (.int .i64 mf) ∧ w'.cell? ⟨bi, 2, none⟩ = some (.int .i64 ((i : Int) + 1)) ∧ w'.cell? ⟨bi, 3, none⟩ = some (.int .i64 m3) ∧ w'.cell? ⟨bi, 4, none⟩ = some (.int .i64 m4) ∧ w'.cell? ⟨bi, 5, none⟩ = some (.int .i64 m5) ∧ w'.cell? ⟨bi, 6, none⟩ = some (.int .i64 m6) ∧ w'.cell? ⟨bi, 7, none⟩ = some (.slice z0 z1 z2) ∧ w'.cell? ⟨bi, 8, none⟩ = some (.slice y0 y1 y2)) ∧ px < w'.heap.size) := hide fun W hWb => by
    have e0 : Evo kx kx noC W0 W := Evo.of_below hWb
    have eA : Evo k kx noC w W := evx.trans e0
    refine (wArrive_any (hW.evo e0 (noC_not _)) (hN.evo e0 (noC_not _) (noC_not _)) (hC.evo e0 (noC_not _)) (hV.evo e0 (noC_not _)) hpk (by unfold cWr; omega) (by unfold cWr; omega) ⟨mk, mf, (i : Int) + 1, m3, m4, m5, m6, mc, mm⟩ z0 y0 z1 z2 y1 y2 (HCz.out.evo eA (noC_not _)) (HMz.out.evo eA (noC_not _)) hmk hn3).mono ?_
    rintro e w' ⟨s0, s1, s2, rfl, k', vN, vC, vV, ev, hw, hn, hc, hv, hl⟩
    have evT : Evo kx k' (fun d => d = cXW ∨ d = cWr i) W0 w' := (e0.mono (fun _ h => h.elim)).trans ev
    have hbk := back k' w' _ _ vN vC vV evT (fun c hc => by rcases hc with h | h; exact .inl h; exact .inr (.inl h)) hw hn hc hv
    have bm9 := bm0.evo evT (by unfold cXW cWr; omega)
    obtain ⟨_, hk9, _⟩ := hw.facts
    have q9 : w'.cell? ⟨px, 741, none⟩ = some (.slice (some ⟨g, 0, none⟩) x.wrs.length cap) := by
      rw [World.cell?_of_block (a := ⟨px, 741, none⟩) (evT.keep px hpl0 (by rw [hkpx]; unfold cX cXW cWr; omega))]
      exact q
    refine ⟨⟨s0, s1, s2, rfl, k', (evx.mono (fun _ h => h.elim)).trans (evT.mono (fun c h => by unfold cXW cWr at h; unfold cXS; omega)), hbk, hl⟩, ⟨q9, bm9.cell 0, bm9.cell 1, bm9.cell 2, bm9.cell 3, bm9.cell 4, bm9.cell 5, bm9.cell 6, bm9.cell 7, bm9.cell 8⟩, Nat.lt_of_lt_of_le hpl0 evT.size⟩
  have HSend : Hid (∀ k' w' v, Evo k k' cXS w w' → XVolIs k' w' px (x.setWr i (x.wrs[i].arrive ⟨mk, mf, (i : Int) + 1, m3, m4, m5, m6, mc, mm⟩).1) → MsgsIs k' w' 0 v (x.wrs[i].arrive ⟨mk, mf, (i : Int) + 1, m3, m4, m5, m6, mc, mm⟩).2 → Calls Tryz.prog 66 #[.pointer (some ⟨px, 0, none⟩), v] w' fun e w'' => e = .returned (.tuple #[]) ∧ ∃ k2, Evo k k2 cXS w w'' ∧ XVolIs k2 w'' px ((x.setWr i (x.wrs[i].arrive ⟨mk, mf, (i : Int) + 1, m3, m4, m5, m6, mc, mm⟩).1).sendAll (x.wrs[i].arrive ⟨mk, mf, (i : Int) + 1, m3, m4, m5, m6, mc, mm⟩).2)) := hide fun k' w' v ev hv hl => by
    refine (xsendAll_any _ hv (hok.setWr i _ hok2) hl (by omega) hok3).mono ?_
    rintro e w'' ⟨rfl, k2, ev2, h2⟩
    exact ⟨rfl, k2, ev.trans (ev2.mono (fun c h => by unfold cXN cX cXM at h; unfold cXS; omega)), h2⟩
  obtain ⟨_, hgl, _, _⟩ := hW.facts
  have bl0 := bm0.lt
  clear hW hN hC hV back q hx0 bm0
  generalize (x.wrs[i].arrive ⟨mk, mf, (i : Int) + 1, m3, m4, m5, m6, mc, mm⟩).2 = ol at *
  generalize (x.wrs[i].arrive ⟨mk, mf, (i : Int) + 1, m3, m4, m5, m6, mc, mm⟩).1 = xo at *
  go_region_held3 (fun W => W.cell? ⟨px, 741, none⟩ = some (.slice (some ⟨g, 0, none⟩) x.wrs.length cap) ∧ W.cell? ⟨bi, 0, none⟩ = some (.int .i64 mk) ∧ W.cell? ⟨bi, 1, none⟩ = some (.int .i64 mf) ∧ W.cell? ⟨bi, 2, none⟩ = some (.int .i64 ((i : Int) + 1)) ∧ W.cell? ⟨bi, 3, none⟩ = some (.int .i64 m3) ∧ W.cell? ⟨bi, 4, none⟩ = some (.int .i64 m4) ∧ W.cell? ⟨bi, 5, none⟩ = some (.int .i64 m5) ∧ W.cell? ⟨bi, 6, none⟩ = some (.int .i64 m6) ∧ W.cell? ⟨bi, 7, none⟩ = some (.slice z0 z1 z2) ∧ W.cell? ⟨bi, 8, none⟩ = some (.slice y0 y1 y2)) (first | with_reducible exact HS0.out | with_reducible exact HSy)
    (first | (go_at_call 123; refine (HAr.out _ (Below.drew (Below.refl _ _))).mono ?_; rintro e5 w5 ⟨⟨s0, s1, s2, rfl, HY⟩, HSy, hpl5⟩))
  obtain ⟨k5, ev5, hv5, hl5⟩ := HY
  have HS5 := hide (HSend.out k5 w5 _ ev5 hv5 hl5)
  clear hv5 hl5 ev5 HSy
  go_wp2_with fail
  refine HS5.out.mono ?_
  rintro e6 w6 ⟨rfl, HY6⟩
  have HY7 := hide HY6
  clear HY6
  go_wp2_with fail
  go_end0
  exact ⟨rfl, by rw [HE.out]; exact HY7.out⟩
end Go.Proofs.YtfpbkghcjaonlaaGreat

/-
  The program: a segment: status, refusal, marks.
-/
namespace Go.Proofs.YtfpbkghcjaonlaaGreat
open Go.RowKit

set_option maxRecDepth 3000 in
set_option maxHeartbeats 4000000 in
theorem sstatus_any {w : World} {b o : Nat} {s : XSeg} {vc : Value} (h : SegAt w b o s vc) (nr wr : Int) :
    Calls Tryz.prog 111 #[.pointer (some ⟨b, o, none⟩), .int .i64 nr, .int .i64 wr] w fun e w' => e = .returned (.agg #[.int .i64 4, .int .i64 nr, .int .i64 wr, .int .i64 wr, .int .i64 0, .int .i64 0, .int .i64 (xscl s), .slice none 0 0, .slice none 0 0]) ∧ Below w.heap.size w w' := by
  have HS : Hid (∀ W, Below w.heap.size w W → Calls Tryz.prog 113 #[.pointer (some ⟨b, o, none⟩)] W fun e w' => e = .returned (.int .i64 (xscl s)) ∧ w' = W) := hide fun W hW => xscl_any (h.below hW)
  clear h
  generalize xscl s = sc at *
  go_enter Tryz.func111, Tryz.ntmps111
  go_wp2_with fail
  refine (HS.out _ ((Below.refl _ _).alloc (Nat.le_refl _) _)).mono ?_
  rintro e1 w1 ⟨rfl, rfl⟩
  go_wp2_with fail
  exact bodyPost_ret (v := .agg #[.int .i64 4, .int .i64 nr, .int .i64 wr, .int .i64 wr, .int .i64 0, .int .i64 0, .int .i64 sc, .slice none 0 0, .slice none 0 0]) (by simp [results, Tryz.results111, go_sem]) rfl ⟨rfl, (Below.refl _ _).alloc (Nat.le_refl _) _⟩

set_option maxRecDepth 3000 in
set_option maxHeartbeats 4000000 in
theorem refusal_any {w : World} {b o : Nat} {s : XSeg} {vc : Value} (h : SegAt w b o s vc) (m0 m1 m2 m3 m4 m5 m6 : Int) (z0 y0 : Option Addr) (z1 z2 y1 y2 : Nat) :
    Calls Tryz.prog 138 #[.pointer (some ⟨b, o, none⟩), .agg #[.int .i64 m0, .int .i64 m1, .int .i64 m2, .int .i64 m3, .int .i64 m4, .int .i64 m5, .int .i64 m6, .slice z0 z1 z2, .slice y0 y1 y2]] w fun e w' => e = .returned (.agg #[.int .i64 5, .int .i64 m2, .int .i64 m1, .int .i64 s.epoch, .int .i64 0, .int .i64 0, .int .i64 0, .slice none 0 0, .slice none 0 0]) ∧ Below w.heap.size w w' := by
  have hbl := h.lt
  have q1 : w.cell? ⟨b, o + 1, none⟩ = some (.int .i64 s.epoch) := h.cell 1 (by omega)
  have hb0 : ¬ b = w.heap.size := by omega
  have hb1 : ¬ b = w.heap.size + 1 := by omega
  clear h
  go_enter Tryz.func138, Tryz.ntmps138
  go_wp2_with fail
  go_region_held3 (fun W => W.cell? ⟨b, o + 1, none⟩ = some (.int .i64 s.epoch) ∧ W.cell? ⟨w.heap.size, 1, none⟩ = some (.int .i64 m1) ∧ W.cell? ⟨w.heap.size, 2, none⟩ = some (.int .i64 m2)) (go_keep) (fail)
  go_wp2_with fail
  exact bodyPost_ret (v := .agg #[.int .i64 5, .int .i64 m2, .int .i64 m1, .int .i64 s.epoch, .int .i64 0, .int .i64 0, .int .i64 0, .slice none 0 0, .slice none 0 0]) (by simp [results, Tryz.results138, go_sem]) rfl ⟨rfl, (((Below.refl _ _).alloc (Nat.le_refl _) _).alloc (by simp) _).drew⟩

theorem xmarks_take (l : List (Int × Int × Int)) (j : Nat) (h : j < l.length) (hall : ∀ y ∈ l.take j, (y.1 == 2) = true) (hj : (l[j].1 == 2) = false) : xmarks l = (l.take j).map (fun p : Int × Int × Int => p.2.1) := by
  unfold xmarks
  congr 1
  conv => lhs; rw [← List.take_append_drop j l]
  rw [List.takeWhile_append_of_pos hall, List.drop_eq_getElem_cons h, List.takeWhile_cons_of_neg (by simpa using hj), List.append_nil]
theorem xmarks_all (l : List (Int × Int × Int)) (hall : ∀ y ∈ l, (y.1 == 2) = true) : xmarks l = l.map (fun p : Int × Int × Int => p.2.1) := by
  unfold xmarks
  congr 1
  have := List.takeWhile_append_of_pos (p := fun p : Int × Int × Int => p.1 == 2) (l₂ := []) hall
  simpa using this

set_option maxRecDepth 3000 in
set_option maxHeartbeats 4000000 in
theorem smarks_any {w : World} {b o : Nat} {s : XSeg} {vc : Value} (h : SegAt w b o s vc) :
    Calls Tryz.prog 139 #[.pointer (some ⟨b, o, none⟩)] w fun e w' => (∃ z, e = .returned z ∧ Made w' w.heap.size 3 1 z ((xmarks s.places).map intRow)) ∧ Below w.heap.size w w' := by
  have hl := h.len
  have hbl := h.lt
  have HP := hide h.place
  obtain ⟨mk, hmk⟩ : ∃ mk, mk = xmarks s.places := ⟨_, rfl⟩
  rw [← hmk]
  have HMK := hide hmk
  clear h hmk
  go_enter Tryz.func139, Tryz.ntmps139
  go_wp2_with fail
  go_loopw [3, 4] (fun z i wr => Below w.heap.size w wr ∧ ∃ j : Nat, j ≤ 40 ∧ i = .int .i64 j ∧ Made wr w.heap.size 3 1 z (((s.places.take j).map (fun p : Int × Int × Int => p.2.1)).map intRow) ∧ Hid (∀ y ∈ s.places.take j, (y.1 == 2) = true)) (fun _ i _ => 40 - (intOf i).toNat)
  case atStart => exact ⟨Below.refl _ _, 0, by omega, rfl, Made.nil _ _ _ _, hide (by simp)⟩
  case round =>
    obtain ⟨hB, j, hj, rfl, hM, hall⟩ := hrel
    have hsz := hB.size
    by_cases hlt : j < 40
    · have hd : decide ((j : Int) < 40) = true := by simp; omega
      have hj40 : (j : Int) < 40 := by omega
      have hjl : j < s.places.length := by omega
      obtain ⟨q0, q1, _⟩ := HP.out j hjl
      have u0 := (hB.cell (p := ⟨b, o + 3 + j * 3, none⟩) hbl).trans q0
      have u1 := (hB.cell (p := ⟨b, o + 3 + j * 3 + 1, none⟩) hbl).trans q1
      have hbl2 : b < wr.heap.size := by omega
      have HT : Hid ((s.places.take (j + 1)).map (fun p : Int × Int × Int => p.2.1) = (s.places.take j).map (fun p : Int × Int × Int => p.2.1) ++ [s.places[j].2.1]) := hide (by rw [List.take_succ_eq_append_getElem hjl, List.map_append]; rfl)
      have HAl : Hid ((s.places[j].1 == 2) = true → ∀ y ∈ s.places.take (j + 1), (y.1 == 2) = true) := hide fun h2 y hy => by
        rw [List.take_succ_eq_append_getElem hjl] at hy
        rcases List.mem_append.1 hy with h | h
        · exact hall.out y h
        · rw [List.mem_singleton.1 h]; exact h2
      have HEnd : Hid ((s.places[j].1 == 2) = false → mk = (s.places.take j).map (fun p : Int × Int × Int => p.2.1)) := hide fun h2 => by rw [HMK.out]; exact xmarks_take s.places j hjl hall.out h2
      generalize s.places[j].1 = p0 at *
      generalize s.places[j].2.1 = p1 at *
      clear q0 q1
      cases hst : (p0 == 2)
      · have HE := hide (HEnd.out hst)
        go_wp2_with fail
        go_ret
        exact ⟨⟨_, rfl, by rw [HE.out]; exact hM⟩, hB⟩
      · have HA2 := hide (HAl.out hst)
        have hln : (((s.places.take j).map (fun p : Int × Int × Int => p.2.1)).map intRow).length = j := by simp; omega
        have HLn := hide hln
        clear hln
        have hM2 := hM.kept ((Below.refl _ _).alloc (Nat.le_refl _) (Obj.cells #[.int .i64 p1] 3))
        go_wp2_with (at_builtin; go_must (refine wpList_append_made (.tmp 19) (.tmp 27) 61 3 _ 1 8 _ (((s.places.take j).map (fun p : Int × Int × Int => p.2.1)).map intRow) j (intRow p1) w.heap.size ⟨wr.heap.size, 0, none⟩ 1 HLn.out rfl rfl Tryz.underlying61 Tryz.infoInt rfl (by decide) rfl rfl hM2 rfl (cell_one_new' _ _ _) (by simp [intRow, Value.oneCell']) (by simp only [maxLen]; omega) (by omega) (by simp; omega) ?_; intro ao cap2 w2 hM3 hB3))
        go_roundw
        case rel => exact ⟨(hB.alloc (by omega) _).trans hB3, j + 1, by omega, by go_num, by rw [HT.out, List.map_append]; simpa using hM3, HA2⟩
        case measure => simp [intOf]; omega
    · have hj40 : j = 40 := by omega
      have hd : decide ((j : Int) < 40) = false := by simp; omega
      have HE : Hid (mk = (s.places.take j).map (fun p : Int × Int × Int => p.2.1)) := hide (by
        have hh := hall.out
        rw [hj40, ← hl, List.take_length] at hh
        rw [HMK.out, hj40, ← hl, List.take_length]
        exact xmarks_all _ hh)
      clear hj40
      go_wp2_with fail
      go_ret
      exact ⟨⟨_, rfl, by rw [HE.out]; exact hM⟩, hB⟩
end Go.Proofs.YtfpbkghcjaonlaaGreat

/-
  The simulation: messages in flight, the places of a segment.
-/
namespace Go.Proofs.YtfpbkghcjaonlaaGreat.Sim

/-- The messages in flight. -/
def liveOf (net : List (Msg × Bool)) : List Msg := (net.filter (fun p => !p.2)).map (·.1)
theorem liveOf_len (net : List (Msg × Bool)) : (liveOf net).length = flightOf net := by unfold liveOf flightOf; simp
theorem liveOf_send (fl : Int) (net : List (Msg × Bool)) (m : Msg) : liveOf (sendNet fl net m) = if fl ≤ ((liveOf net).length : Int) then liveOf net else liveOf net ++ [m] := by
  rw [liveOf_len]
  unfold sendNet
  by_cases h : (flightOf net : Int) < fl
  · rw [if_pos h, if_neg (by omega)]
    unfold liveOf; simp
  · rw [if_neg h, if_pos (by omega)]
theorem liveOf_mem {net : List (Msg × Bool)} {m : Msg} (h : m ∈ liveOf net) : (m, false) ∈ net := by
  unfold liveOf at h
  obtain ⟨p, hp, rfl⟩ := List.mem_map.1 h
  obtain ⟨h1, h2⟩ := List.mem_filter.1 hp
  have : p.2 = false := by simpa using h2
  rw [← this]; exact h1
theorem liveOf_place : ∀ (net : List (Msg × Bool)) (n : Nat), (∀ i, placeOf net n = some i → ∃ h : i < net.length, (liveOf net)[n]? = some net[i].1 ∧ net[i].2 = false ∧ liveOf (goneAt net i) = (liveOf net).eraseIdx n) ∧ (placeOf net n = none → (liveOf net)[n]? = none)
  | [], n => ⟨fun i h => by simp [placeOf] at h, fun _ => by simp [liveOf]⟩
  | (m, b) :: r, n => by
    cases b with
    | true =>
      have ih := liveOf_place r n
      have e0 : liveOf ((m, true) :: r) = liveOf r := by simp [liveOf]
      refine ⟨fun i h => ?_, fun h => ?_⟩
      · simp only [placeOf] at h
        cases hp : placeOf r n with
        | none => rw [hp] at h; simp at h
        | some j =>
          rw [hp] at h
          simp at h
          obtain ⟨hj, h1, h2, h3⟩ := ih.1 j hp
          subst h
          refine ⟨by simpa using hj, by rw [e0, h1]; simp, by simpa using h2, ?_⟩
          have : goneAt ((m, true) :: r) (j + 1) = (m, true) :: goneAt r j := by
            rw [goneAt_of (by simpa using hj), goneAt_of hj]; simp
          rw [this, e0, ← h3]; simp [liveOf]
      · simp only [placeOf] at h
        rw [e0]; exact ih.2 (by simpa using h)
    | false =>
      have e0 : liveOf ((m, false) :: r) = m :: liveOf r := by simp [liveOf]
      cases n with
      | zero =>
        refine ⟨fun i h => ?_, fun h => by simp [placeOf] at h⟩
        simp [placeOf] at h
        subst h
        refine ⟨by simp, by rw [e0]; rfl, rfl, ?_⟩
        rw [goneAt_of (by simp), e0]
        simp [liveOf]
      | succ n =>
        have ih := liveOf_place r n
        refine ⟨fun i h => ?_, fun h => ?_⟩
        · simp only [placeOf] at h
          cases hp : placeOf r n with
          | none => rw [hp] at h; simp at h
          | some j =>
            rw [hp] at h
            simp at h
            obtain ⟨hj, h1, h2, h3⟩ := ih.1 j hp
            subst h
            refine ⟨by simpa using hj, by rw [e0]; simpa using h1, by simpa using h2, ?_⟩
            have : goneAt ((m, false) :: r) (j + 1) = (m, false) :: goneAt r j := by
              rw [goneAt_of (by simpa using hj), goneAt_of hj]; simp
            rw [this, e0]; simp only [List.eraseIdx_cons_succ]; rw [← h3]; simp [liveOf]
        · simp only [placeOf] at h
          rw [e0]; simpa using ih.2 (by simpa using h)

/-- The place of a number, by what came to the segment. -/
def plOf (l : List Ent) (lsn : Int) : Int × Int × Int := match l.find? (entHit lsn) with | none => (0, 0, 0) | some e => (if e.kept then 2 else 1, e.epoch, e.value)
def xseg (g : RSeg) : XSeg := ⟨g.up, g.epoch, g.cuts, (List.range 40).map fun (n : Nat) => plOf g.entries ((n : Int) + 1)⟩

theorem entIdx_find (l : List Ent) (lsn : Int) : (entIdx l lsn).bind (fun i => l[i]?) = l.find? (entHit lsn) := by
  unfold entIdx
  induction l with
  | nil => rfl
  | cons a r ih =>
    rw [List.findIdx?_cons, List.find?_cons]
    cases h : entHit lsn a with
    | true => simp
    | false =>
      rw [← ih]
      cases List.findIdx? (entHit lsn) r <;> simp
theorem entIdx_none (l : List Ent) (lsn : Int) : entIdx l lsn = none ↔ l.find? (entHit lsn) = none := by
  rw [← entIdx_find]
  cases h : entIdx l lsn with
  | none => simp
  | some i =>
    obtain ⟨hi, _⟩ := List.findIdx?_eq_some_iff_getElem.1 h
    simp; omega
theorem keptAt_find (l : List Ent) (lsn : Int) : keptAt l lsn = (l.find? (entHit lsn)).bind fun e => if e.kept then some e else none := by
  unfold keptAt
  rw [← entIdx_find]
  cases entIdx l lsn <;> simp
theorem keptAt_pl (l : List Ent) (lsn : Int) : (keptAt l lsn).isSome = ((plOf l lsn).1 == 2) := by
  rw [keptAt_find]; unfold plOf
  cases l.find? (entHit lsn) with
  | none => rfl
  | some e => cases h : e.kept <;> simp [h]
theorem keptAt_eq {l : List Ent} {lsn : Int} {e : Ent} (h : keptAt l lsn = some e) : e.lsn = lsn ∧ plOf l lsn = (2, e.epoch, e.value) ∧ e ∈ l ∧ e.gone = false ∧ e.kept = true := by
  rw [keptAt_find] at h
  unfold plOf
  cases hf : l.find? (entHit lsn) with
  | none => rw [hf] at h; simp at h
  | some a =>
    rw [hf] at h
    have hp := List.find?_some hf
    have hm := List.mem_of_find?_eq_some hf
    cases hk : a.kept with
    | false => simp [hk] at h
    | true =>
      simp [hk] at h
      subst h
      unfold entHit at hp
      simp at hp
      exact ⟨hp.2, by simp [hk], hm, hp.1, hk⟩
theorem xseg_get (g : RSeg) (n : Nat) (h : n < 40) : (xseg g).places[n]? = some (plOf g.entries ((n : Int) + 1)) := by
  unfold xseg; simp [h]
theorem xseg_len (g : RSeg) : (xseg g).places.length = 40 := by simp [xseg]

/-- What is live has a number from 1 to 40, and no number stands twice. -/
structure EntsOk (l : List Ent) : Prop where
  rng : ∀ e ∈ l, e.gone = false → 1 ≤ e.lsn ∧ e.lsn ≤ 40
  one : ∀ n, l.countP (entHit n) ≤ 1

theorem plOf_out {l : List Ent} (h : EntsOk l) (n : Int) (hn : n < 1 ∨ 40 < n) : l.find? (entHit n) = none := by
  rw [List.find?_eq_none]
  intro e he
  simp only [entHit, Bool.and_eq_true, Bool.not_eq_true', beq_iff_eq, not_and]
  intro h1 h2
  have := h.rng e he h1
  omega

theorem xsclUp_spec (l : List (Int × Int × Int)) (m : Nat) (hm : m ≤ l.length) (hno : ∀ h : m < l.length, (l[m].1 == 2) = false) : ∀ f n, n ≤ m → m ≤ n + f → (∀ i, n ≤ i → (h2 : i < m) → ((l[i]'(by omega)).1 == 2) = true) → xsclUp l f n = m := by
  intro f
  induction f with
  | zero => intro n h1 h2 _; simp only [xsclUp]; omega
  | succ f ih =>
    intro n h1 h2 h
    by_cases hn : n = m
    · subst hn
      by_cases hl : n < l.length
      · rw [xsclUp_step l f n hl, hno hl]; rfl
      · simp only [xsclUp]; rw [List.getElem?_eq_none (by omega)]
    · rw [xsclUp_step l f n (by omega), h n (Nat.le_refl _) (by omega)]
      exact ih (n + 1) (by omega) (by omega) (fun i a b => h i (by omega) b)

theorem xscl_exists (s : XSeg) (hl : s.places.length = 40) : ∃ m, m ≤ 40 ∧ xscl s = m ∧ (∀ h : m < s.places.length, (s.places[m].1 == 2) = false) ∧ ∀ i, (h : i < m) → ∃ h2 : i < s.places.length, (s.places[i].1 == 2) = true := by
  have key : ∀ f n, n + f = 40 → (∀ i, (h : i < n) → ∃ h2 : i < s.places.length, (s.places[i].1 == 2) = true) → ∃ m, m ≤ 40 ∧ (∀ h : m < s.places.length, (s.places[m].1 == 2) = false) ∧ ∀ i, (h : i < m) → ∃ h2 : i < s.places.length, (s.places[i].1 == 2) = true := by
    intro f
    induction f with
    | zero => intro n h1 h2; exact ⟨n, by omega, fun h => by omega, h2⟩
    | succ f ih =>
      intro n h1 h2
      have hn : n < s.places.length := by omega
      cases hb : (s.places[n].1 == 2) with
      | false => exact ⟨n, by omega, fun _ => hb, h2⟩
      | true =>
        refine ih (n + 1) (by omega) (fun i hi => ?_)
        by_cases e : i = n
        · subst e; exact ⟨hn, hb⟩
        · exact h2 i (by omega)
  obtain ⟨m, h1, h2, h3⟩ := key 40 0 rfl (fun i h => by omega)
  refine ⟨m, h1, ?_, h2, h3⟩
  unfold xscl
  exact xsclUp_spec _ _ (by omega) h2 _ _ (by omega) (by omega) (fun i _ h => (h3 i h).2)

theorem xseg_state (g : RSeg) (i : Nat) (h : i < (xseg g).places.length) : ((xseg g).places[i].1 == 2) = (keptAt g.entries ((i : Int) + 1)).isSome := by
  rw [xseg_len] at h
  rw [keptAt_pl]
  have := xseg_get g i h
  rw [List.getElem?_eq_getElem (by rw [xseg_len]; omega)] at this
  rw [Option.some.inj this]

theorem xscl_seg (g : RSeg) (h : EntsOk g.entries) : xscl (xseg g) = sclOf g.entries := by
  obtain ⟨m, h1, h2, h3, h4⟩ := xscl_exists (xseg g) (xseg_len g)
  rw [h2]
  symm
  refine sclOf_spec (fun i a b => ?_) ?_
  · obtain ⟨hi, hs⟩ := h4 (i - 1) (by omega)
    rw [xseg_state] at hs
    rw [show ((i - 1 : Nat) : Int) + 1 = (i : Int) from by omega] at hs
    exact hs
  · by_cases hm : m < (xseg g).places.length
    · have := h3 hm
      rw [xseg_state] at this
      exact this
    · rw [xseg_len] at hm
      rw [keptAt_find, plOf_out h _ (by omega)]; rfl
theorem scl_le40 (g : RSeg) (h : EntsOk g.entries) : sclOf g.entries ≤ 40 := by
  obtain ⟨m, h1, h2, _, _⟩ := xscl_exists (xseg g) (xseg_len g)
  rw [← xscl_seg g h, h2]; exact h1

theorem xmarks_seg (g : RSeg) (h : EntsOk g.entries) : xmarks (xseg g).places = marksOf g.entries := by
  obtain ⟨m, h1, h2, h3, h4⟩ := xscl_exists (xseg g) (xseg_len g)
  have hs : sclOf g.entries = m := by rw [← xscl_seg g h, h2]
  have hl := xseg_len g
  unfold marksOf
  rw [hs]
  have htk : (xseg g).places.takeWhile (fun p => p.1 == 2) = (xseg g).places.take m := by
    conv => lhs; rw [← List.take_append_drop m (xseg g).places]
    rw [List.takeWhile_append_of_pos (fun y hy => by
      obtain ⟨i, hi, rfl⟩ := List.getElem_of_mem hy
      rw [List.length_take] at hi
      rw [List.getElem_take]
      exact (h4 i (by omega)).2)]
    by_cases hm : m < (xseg g).places.length
    · rw [List.drop_eq_getElem_cons hm, List.takeWhile_cons_of_neg (by simpa using h3 hm), List.append_nil]
    · rw [List.drop_eq_nil_of_le (by omega)]; simp
  unfold xmarks marksUp
  rw [htk]
  apply List.ext_getElem?
  intro i
  by_cases hi : i < m
  · have hx := xseg_get g i (by omega)
    simp only [List.getElem?_map, List.getElem?_take, hi, if_true, hx, List.getElem?_range hi, Option.map_some]
    unfold epochAt
    have hk := (h4 i hi).2
    rw [xseg_state] at hk
    cases hka : keptAt g.entries ((i : Int) + 1) with
    | none => rw [hka] at hk; simp at hk
    | some e => rw [(keptAt_eq hka).2.1]; rfl
  · rw [List.getElem?_eq_none (by simp; omega), List.getElem?_eq_none (by simp; omega)]
end Go.Proofs.YtfpbkghcjaonlaaGreat.Sim

/-
  The simulation: what a segment does.
-/
namespace Go.Proofs.YtfpbkghcjaonlaaGreat.Sim

theorem find_sift {A : Type} (p c : A → Bool) (f : A → A) : ∀ l : List A, l.countP p ≤ 1 → (∀ e ∈ l, p (f e) = (p e && c e)) → (l.map f).find? p = (l.find? p).bind fun e => if c e then some (f e) else none
  | [], _, _ => rfl
  | a :: r, hc, h => by
    rw [List.map_cons, List.find?_cons, List.find?_cons]
    have ha := h a List.mem_cons_self
    have hr := fun e he => h e (List.mem_cons_of_mem _ he)
    cases hp : p a with
    | false =>
      rw [hp] at ha
      simp only [Bool.false_and] at ha
      rw [ha]
      rw [List.countP_cons_of_neg (by simp [hp])] at hc
      exact find_sift p c f r hc hr
    | true =>
      rw [hp] at ha
      simp only [Bool.true_and] at ha
      rw [List.countP_cons_of_pos hp] at hc
      have h0 : r.countP p = 0 := by omega
      rw [ha]
      cases hca : c a with
      | true => simp [hca]
      | false =>
        simp only [hca, Option.bind_some, Bool.false_eq_true, if_false]
        rw [List.find?_eq_none]
        intro e he
        obtain ⟨e0, he0, rfl⟩ := List.mem_map.1 he
        rw [hr e0 he0, List.countP_eq_zero.1 h0 e0 he0 |> Bool.eq_false_iff.2]
        simp

theorem count_sift {A : Type} (p : A → Bool) (f : A → A) (l : List A) (h : ∀ e ∈ l, p (f e) = true → p e = true) : (l.map f).countP p ≤ l.countP p := by
  induction l with
  | nil => simp
  | cons a r ih =>
    have := ih (fun e he => h e (List.mem_cons_of_mem _ he))
    rw [List.map_cons, List.countP_cons, List.countP_cons]
    have ha := h a List.mem_cons_self
    by_cases hp : p (f a) = true
    · rw [if_pos hp, if_pos (ha hp)]; omega
    · rw [if_neg hp]; omega

theorem crash_hit (n : Int) (e : Ent) : entHit n (crashE e) = (entHit n e && e.kept) := by
  unfold entHit crashE
  cases h : e.kept <;> simp
theorem crash_pl {l : List Ent} (h : EntsOk l) (n : Int) : plOf (l.map crashE) n = crashAt (plOf l n) := by
  unfold plOf
  rw [find_sift (entHit n) (fun e => e.kept) crashE l (h.one n) (fun e _ => crash_hit n e)]
  cases l.find? (entHit n) with
  | none => rfl
  | some e => cases hk : e.kept <;> simp [crashAt, crashE, hk]
theorem crash_ok {l : List Ent} (h : EntsOk l) : EntsOk (l.map crashE) := by
  refine ⟨fun e he hg => ?_, fun n => Nat.le_trans (count_sift _ _ _ (fun e _ hp => ?_)) (h.one n)⟩
  · obtain ⟨e0, he0, rfl⟩ := List.mem_map.1 he
    unfold crashE at hg ⊢
    split at hg
    · rename_i hk; rw [if_pos hk]; exact h.rng e0 he0 hg
    · simp at hg
  · rw [crash_hit] at hp; simp at hp; exact hp.1

theorem sync_hit (n : Int) (e : Ent) : entHit n (syncE e) = entHit n e := by
  unfold entHit syncE
  cases h : e.gone <;> simp [h]
theorem sync_pl {l : List Ent} (h : EntsOk l) (n : Int) : plOf (l.map syncE) n = syncAt (plOf l n) := by
  unfold plOf
  rw [find_sift (entHit n) (fun _ => true) syncE l (h.one n) (fun e _ => by rw [sync_hit]; simp)]
  cases hf : l.find? (entHit n) with
  | none => rfl
  | some e =>
    have hp := List.find?_some hf
    unfold entHit at hp
    simp at hp
    cases hk : e.kept <;> simp [syncAt, syncE, hk, hp.1]
theorem sync_ok {l : List Ent} (h : EntsOk l) : EntsOk (l.map syncE) := by
  refine ⟨fun e he hg => ?_, fun n => Nat.le_trans (count_sift _ _ _ (fun e _ hp => ?_)) (h.one n)⟩
  · obtain ⟨e0, he0, rfl⟩ := List.mem_map.1 he
    unfold syncE at hg ⊢
    split at hg
    · rename_i hk; rw [if_pos hk]; exact h.rng e0 he0 hg
    · rename_i hk; rw [if_neg hk]; exact h.rng e0 he0 (by simpa using hk)
  · rw [sync_hit] at hp; exact hp

theorem sift_hit (cs : List (Int × Int)) (n : Int) (e : Ent) : entHit n (siftBy cs e) = (entHit n e && good cs e.lsn e.epoch) := by
  unfold entHit siftBy
  cases h : good cs e.lsn e.epoch <;> simp
theorem sift_pl {l : List Ent} (h : EntsOk l) (cs : List (Int × Int)) (n : Nat) : plOf (l.map (siftBy cs)) ((n : Int) + 1) = forgetAt cs n (plOf l ((n : Int) + 1)) := by
  unfold plOf
  rw [find_sift (entHit ((n : Int) + 1)) (fun e => good cs e.lsn e.epoch) (siftBy cs) l (h.one _) (fun e _ => sift_hit cs _ e)]
  cases hf : l.find? (entHit ((n : Int) + 1)) with
  | none => simp [forgetAt]
  | some e =>
    have hp := List.find?_some hf
    unfold entHit at hp
    simp at hp
    have hl := hp.2
    cases hg : good cs ((n : Int) + 1) e.epoch <;> simp [forgetAt, siftBy, hg, hl]
theorem sift_ok {l : List Ent} (h : EntsOk l) (cs : List (Int × Int)) : EntsOk (l.map (siftBy cs)) := by
  refine ⟨fun e he hg => ?_, fun n => Nat.le_trans (count_sift _ _ _ (fun e _ hp => ?_)) (h.one n)⟩
  · obtain ⟨e0, he0, rfl⟩ := List.mem_map.1 he
    unfold siftBy at hg ⊢
    split at hg
    · rename_i hk; rw [if_pos hk]; exact h.rng e0 he0 hg
    · simp at hg
  · rw [sift_hit] at hp; simp at hp; exact hp.1

theorem come_pl (l : List Ent) (lsn ep v n : Int) : plOf (comeTo l (lsn, ep, v)) n = if n = lsn ∧ (plOf l lsn).1 = 0 then (1, ep, v) else plOf l n := by
  have hz : (plOf l lsn).1 = 0 ↔ l.find? (entHit lsn) = none := by
    unfold plOf
    cases l.find? (entHit lsn) with
    | none => simp
    | some e => cases h : e.kept <;> simp [h]
  unfold comeTo
  by_cases hi : entIdx l lsn = none
  · rw [if_pos hi]
    rw [entIdx_none] at hi
    by_cases hn : n = lsn
    · subst hn
      rw [if_pos ⟨rfl, hz.2 hi⟩]
      unfold plOf
      rw [List.find?_append, hi]
      simp [entHit]
    · rw [if_neg (fun h => hn h.1)]
      unfold plOf
      rw [List.find?_append]
      cases l.find? (entHit n) with
      | some e => rfl
      | none => simp [entHit, show ¬ lsn = n from fun e => hn e.symm]
  · rw [if_neg hi, if_neg (fun h => hi ((entIdx_none _ _).2 (hz.1 h.2)))]
theorem come_ok {l : List Ent} (h : EntsOk l) (lsn ep v : Int) (h1 : 1 ≤ lsn) (h2 : lsn ≤ 40) : EntsOk (comeTo l (lsn, ep, v)) := by
  unfold comeTo
  by_cases hi : entIdx l lsn = none
  · rw [if_pos hi]
    rw [entIdx_none] at hi
    refine ⟨fun e he hg => ?_, fun n => ?_⟩
    · rcases List.mem_append.1 he with h3 | h3
      · exact h.rng e h3 hg
      · rw [List.mem_singleton.1 h3]; exact ⟨h1, h2⟩
    · rw [List.countP_append]
      by_cases hn : n = lsn
      · subst hn
        have : l.countP (entHit n) = 0 := by
          rw [List.countP_eq_zero]; exact List.find?_eq_none.1 hi
        rw [this]; exact Nat.le_trans (Nat.le_of_eq (Nat.zero_add _)) List.countP_le_length
      · have := h.one n
        rw [show List.countP (entHit n) [(⟨lsn, ep, v, false, false⟩ : Ent)] = 0 from by simp [entHit]; exact fun e => hn e.symm]
        exact this
  · rw [if_neg hi]; exact h

theorem seg_ext {s t : XSeg} (h1 : s.up = t.up) (h2 : s.epoch = t.epoch) (h3 : s.cuts = t.cuts) (h4 : s.places = t.places) : s = t := by
  cases s; cases t; simp at *; exact ⟨h1, h2, h3, h4⟩

theorem xseg_at (g : RSeg) (h : EntsOk g.entries) (lsn : Int) : (xseg g).at_ lsn = plOf g.entries lsn := by
  unfold XSeg.at_
  by_cases hn : lsn < 1 ∨ 40 < lsn
  · rw [if_pos hn]; unfold plOf; rw [plOf_out h _ hn]
  · rw [if_neg hn, List.getD_eq_getElem?_getD, xseg_get g _ (by omega)]
    simp only [Option.getD_some]
    rw [show ((lsn - 1).toNat : Int) + 1 = lsn from by omega]

theorem xseg_places (g : RSeg) (f : Int × Int × Int → Int × Int × Int) (l : List Ent) (h : ∀ n : Nat, plOf l ((n : Int) + 1) = f (plOf g.entries ((n : Int) + 1))) : (List.range 40).map (fun (n : Nat) => plOf l ((n : Int) + 1)) = (xseg g).places.map f := by
  unfold xseg
  rw [List.map_map]
  exact List.map_congr_left fun n _ => h n

theorem xseg_crash (g : RSeg) (h : EntsOk g.entries) : (xseg g).crash = xseg { g with up := false, entries := g.entries.map crashE } :=
  seg_ext rfl rfl rfl (xseg_places g crashAt _ (fun _ => crash_pl h _)).symm
theorem xseg_restart (g : RSeg) : (xseg g).restart = xseg { g with up := true } := rfl
theorem xseg_synced (g : RSeg) (h : EntsOk g.entries) : (xseg g).synced = xseg { g with entries := g.entries.map syncE } :=
  seg_ext rfl rfl rfl (xseg_places g syncAt _ (fun _ => sync_pl h _)).symm
theorem xseg_forget (g : RSeg) (h : EntsOk g.entries) (e : Int) (l : List (Int × Int)) : XSeg.forget { xseg g with epoch := e, cuts := l } = xseg ((g.epochUp e).cutBy l) := by
  refine seg_ext rfl (by simp [XSeg.forget, xseg, RSeg.cutBy, RSeg.epochUp, RSeg.epoch]) (by simp [XSeg.forget, xseg, RSeg.cutBy, RSeg.epochUp, RSeg.cuts]) ?_
  simp only [XSeg.forget, xseg, RSeg.cutBy, RSeg.epochUp]
  apply List.ext_getElem?
  intro i
  rw [List.getElem?_mapIdx, List.getElem?_map, List.getElem?_map]
  by_cases hi : i < 40
  · rw [List.getElem?_range hi]; simp [sift_pl h]
  · rw [List.getElem?_eq_none (by simp; omega)]; rfl
theorem xseg_take (g : RSeg) (m : Msg) (h1 : 1 ≤ m.lsn) (h2 : m.lsn ≤ 40) : (xseg g).take m = xseg (g.coming m) := by
  unfold XSeg.take
  have e1 : ((m.lsn - 1).toNat : Int) + 1 = m.lsn := by omega
  rw [if_neg (by omega), List.getD_eq_getElem?_getD, xseg_get g _ (by omega), e1]
  simp only [Option.getD_some]
  have hp : (List.range 40).map (fun (n : Nat) => plOf (comeTo g.entries (m.lsn, m.epoch, m.value)) ((n : Int) + 1)) = if (plOf g.entries m.lsn).1 = 0 then (xseg g).places.set (m.lsn - 1).toNat (1, m.epoch, m.value) else (xseg g).places := by
    apply List.ext_getElem?
    intro i
    by_cases hi : i < 40
    · rw [List.getElem?_map, List.getElem?_range hi]
      simp only [Option.map_some, come_pl]
      by_cases hz : (plOf g.entries m.lsn).1 = 0
      · rw [if_pos hz]
        by_cases he : (i : Int) + 1 = m.lsn
        · rw [if_pos ⟨he, hz⟩, show i = (m.lsn - 1).toNat from by omega, List.getElem?_set_self (by rw [xseg_len]; omega)]
        · rw [if_neg (fun h => he h.1), List.getElem?_set_ne (by omega), xseg_get g i hi]
      · rw [if_neg hz, if_neg (fun h => hz h.2), xseg_get g i hi]
    · rw [List.getElem?_eq_none (by simp; omega), List.getElem?_eq_none (by split <;> simp [xseg_len] <;> omega)]
  by_cases hz : (plOf g.entries m.lsn).1 = 0
  · rw [if_pos hz] at hp ⊢
    exact seg_ext rfl rfl rfl hp.symm
  · rw [if_neg hz] at hp ⊢
    exact seg_ext rfl rfl rfl hp.symm
theorem xseg_value (g : RSeg) (h : EntsOk g.entries) (lsn : Int) : (xseg g).value lsn = recV (keptAt g.entries lsn) := by
  unfold XSeg.value recV
  rw [xseg_at g h]
  have hk := keptAt_pl g.entries lsn
  cases hka : keptAt g.entries lsn with
  | none =>
    rw [hka] at hk
    rw [if_neg (by intro h2; rw [h2] at hk; simp at hk)]; rfl
  | some e => rw [(keptAt_eq hka).2.1]; rfl
end Go.Proofs.YtfpbkghcjaonlaaGreat.Sim
