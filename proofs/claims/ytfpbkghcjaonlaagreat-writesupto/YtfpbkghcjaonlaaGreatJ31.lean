import Derived.Test.YtfpbkghcjaonlaaGreatJ30
/-
  The program: Gossip.
-/
namespace Go.Proofs.YtfpbkghcjaonlaaGreat
open Go.RowKit

set_option maxRecDepth 3000 in
set_option maxHeartbeats 2000000 in
theorem xgossip_bad {k : Nat → Nat} {w : World} {px : Nat} {x : XVol} (hx : XVolIs k w px x) (a b : Int) (hbad : ¬ (0 ≤ a ∧ a < 6) ∨ ¬ (0 ≤ b ∧ b < 6) ∨ a = b) :
    Calls Tryz.prog 38 #[.pointer (some ⟨px, 0, none⟩), .int .i64 a, .int .i64 b] w fun e w' => e = .returned (.int .i64 (x.gossip a b).2) ∧ ∃ k', Evo k k' cXS w w' ∧ XVolIs k' w' px (x.gossip a b).1 := by
  have h6 := segs6' hx
  have HE : Hid (x.gossip a b = (x, 11)) := hide (by
    unfold XVol.gossip XVol.segAt
    by_cases hb : b < 0 ∨ 6 ≤ b ∨ a = b
    · rw [if_pos hb]
    · rw [if_neg hb]
      by_cases h0 : a < 0
      · rw [if_pos h0]
      · rw [if_neg h0, List.getElem?_eq_none (by omega)])
  have HIa := hide (fun W => isSegment_any W a)
  have HIb := hide (fun W => isSegment_any W b)
  by_cases ha : 0 ≤ a ∧ a < 6
  · rw [show (decide (0 ≤ a) && decide (a < 6)) = true from by simp; omega] at HIa
    by_cases hb : 0 ≤ b ∧ b < 6
    · rw [show (decide (0 ≤ b) && decide (b < 6)) = true from by simp; omega] at HIb
      have hab : a = b := by omega
      have hd : (a == b) = true := by simpa using hab
      clear ha hb hab hbad
      go_enter Tryz.func38, Tryz.ntmps38
      go_wp2_with fail
      refine (HIa.out _).mono ?_
      rintro e1 w1 ⟨rfl, hw⟩
      have hw2 := hw.symm
      subst hw2
      go_wp2_with fail
      refine (HIb.out _).mono ?_
      rintro e1 w1 ⟨rfl, hw⟩
      have hw2 := hw.symm
      subst hw2
      go_wp2_with fail
      go_ret
      exact ⟨by rw [HE.out]; rfl, k, Evo.refl _ _ _, by rw [HE.out]; exact hx⟩
    · rw [show (decide (0 ≤ b) && decide (b < 6)) = false from by rw [Bool.and_eq_false_iff]; simp; omega] at HIb
      clear ha hb hbad
      go_enter Tryz.func38, Tryz.ntmps38
      go_wp2_with fail
      refine (HIa.out _).mono ?_
      rintro e1 w1 ⟨rfl, hw⟩
      have hw2 := hw.symm
      subst hw2
      go_wp2_with fail
      refine (HIb.out _).mono ?_
      rintro e1 w1 ⟨rfl, hw⟩
      have hw2 := hw.symm
      subst hw2
      go_wp2_with fail
      go_ret
      exact ⟨by rw [HE.out]; rfl, k, Evo.refl _ _ _, by rw [HE.out]; exact hx⟩
  · rw [show (decide (0 ≤ a) && decide (a < 6)) = false from by rw [Bool.and_eq_false_iff]; simp; omega] at HIa
    clear ha hbad
    go_enter Tryz.func38, Tryz.ntmps38
    go_wp2_with fail
    refine (HIa.out _).mono ?_
    rintro e1 w1 ⟨rfl, hw⟩
    have hw2 := hw.symm
    subst hw2
    go_wp2_with fail
    go_ret
    exact ⟨by rw [HE.out]; rfl, k, Evo.refl _ _ _, by rw [HE.out]; exact hx⟩

set_option maxRecDepth 3000 in
set_option maxHeartbeats 2000000 in
theorem xgossip_good {k : Nat → Nat} {w : World} {px : Nat} {x : XVol} (hx : XVolIs k w px x) (hok : XOk x) (i : Nat) (b : Int) (hi6 : i < 6) (hb : 0 ≤ b ∧ b < 6) (hab : ¬ (i : Int) = b) :
    Calls Tryz.prog 38 #[.pointer (some ⟨px, 0, none⟩), .int .i64 (i : Int), .int .i64 b] w fun e w' => e = .returned (.int .i64 (x.gossip (i : Int) b).2) ∧ ∃ k', Evo k k' cXS w w' ∧ XVolIs k' w' px (x.gossip (i : Int) b).1 := by
  have HIa := hide (fun W => isSegment_any W (i : Int))
  have HIb := hide (fun W => isSegment_any W b)
  rw [show (decide (0 ≤ (i : Int)) && decide ((i : Int) < 6)) = true from by simp; omega] at HIa
  rw [show (decide (0 ≤ b) && decide (b < 6)) = true from by simp; omega] at HIb
  obtain ⟨r, c0, c1, c2, hl, hS, hC, back⟩ := seg_write hx i hi6
  have hat : x.segAt (i : Int) = some x.segs[i] := by unfold XVol.segAt; rw [if_neg (by omega), Int.toNat_natCast, List.getElem?_eq_getElem hl]
  have hpl := hS.lt
  have hi6' : (i : Int) < 6 := by omega
  have hi0 : ¬ (i : Int) < 0 := by omega
  have hd : ((i : Int) == b) = false := by simpa using hab
  have hgu : x.gossip (i : Int) b = if x.segs[i].up then (x.send (x.segs[i].need (i : Int) b), 0) else (x, 9) := by unfold XVol.gossip; rw [if_neg (by omega), hat]
  have HD := hide (sdown_any hS.at_)
  cases hu : x.segs[i].up
  · have HE : Hid (x.gossip (i : Int) b = (x, 9)) := hide (by rw [hgu, hu]; rfl)
    have HXV := hide hx
    rw [hu] at HD
    clear hx hS hC back hat hu hgu hb hab
    go_enter Tryz.func38, Tryz.ntmps38
    go_wp2_with fail
    refine (HIa.out _).mono ?_
    rintro e1 w1 ⟨rfl, hw⟩
    have hw2 := hw.symm
    subst hw2
    go_wp2_with fail
    refine (HIb.out _).mono ?_
    rintro e1 w1 ⟨rfl, hw⟩
    have hw2 := hw.symm
    subst hw2
    go_wp2_with fail
    refine HD.out.mono ?_
    rintro e1 w1 ⟨rfl, hw⟩
    have hw2 := hw.symm
    subst hw2
    go_wp2_with fail
    go_ret
    exact ⟨by rw [HE.out]; rfl, k, Evo.refl _ _ _, by rw [HE.out]; exact HXV.out⟩
  · have HE : Hid (x.gossip (i : Int) b = (x.send (x.segs[i].need (i : Int) b), 0)) := hide (by rw [hgu, hu]; rfl)
    have HNd := hide (sneed_any hS.at_ (i : Int) b)
    have HXV := hide hx
    rw [hu] at HD
    have HS : Hid (∀ w1, Below w.heap.size w w1 → ∀ W, Below w1.heap.size w1 W → Calls Tryz.prog 87 #[.pointer (some ⟨px, 1, none⟩), .agg #[.int .i64 7, .int .i64 (i : Int), .int .i64 b, .int .i64 0, .int .i64 ((xscl x.segs[i] : Int) + 1), .int .i64 0, .int .i64 0, .slice none 0 0, .slice none 0 0]] W fun e w' => e = .returned (.tuple #[]) ∧ ∃ k', Evo k k' cXS w w' ∧ XVolIs k' w' px (x.send (x.segs[i].need (i : Int) b))) := hide fun w1 hb1 W hW =>
      send_of (C := noC) (fun c h => h.elim) (Evo.of_below hb1) (hx.evo (Evo.of_below (C := noC) hb1) (noC_not _) (fun c _ _ => noC_not c)) hok (x.segs[i].need (i : Int) b) ⟨by simp [XSeg.need], by simp [XSeg.need]⟩ (Rows.nil _ _ _ _ _) (Rows.nil _ _ _ _ _) W hW
    clear hx hS hC back hat hu hgu hb hab
    generalize xscl x.segs[i] = sc at *
    generalize x.send (x.segs[i].need (i : Int) b) = xe at *
    go_enter Tryz.func38, Tryz.ntmps38
    go_wp2_with fail
    refine (HIa.out _).mono ?_
    rintro e1 w1 ⟨rfl, hw⟩
    have hw2 := hw.symm
    subst hw2
    go_wp2_with fail
    refine (HIb.out _).mono ?_
    rintro e1 w1 ⟨rfl, hw⟩
    have hw2 := hw.symm
    subst hw2
    go_wp2_with fail
    refine HD.out.mono ?_
    rintro e1 w1 ⟨rfl, hw⟩
    have hw2 := hw.symm
    subst hw2
    go_wp2_with fail
    refine HNd.out.mono ?_
    rintro e2 w2 ⟨rfl, hb2⟩
    have hpl2 : px < w2.heap.size := Nat.lt_of_lt_of_le hpl hb2.size
    have HS2 := hide (HS.out w2 hb2)
    go_wp2_with fail
    go_region_with (go_at_call 87; refine (HS2.out _ (Below.drew ((Below.refl _ _).alloc (Nat.le_refl _) _))).mono ?_; rintro e3 w4 ⟨rfl, HY2⟩)
    all_goals go_wp2_with fail
    all_goals go_ret
    all_goals exact ⟨by rw [HE.out]; rfl, by rw [HE.out]; exact HY2⟩

theorem xgossip_any {k : Nat → Nat} {w : World} {px : Nat} {x : XVol} (hx : XVolIs k w px x) (hok : XOk x) (a b : Int) :
    Calls Tryz.prog 38 #[.pointer (some ⟨px, 0, none⟩), .int .i64 a, .int .i64 b] w fun e w' => e = .returned (.int .i64 (x.gossip a b).2) ∧ ∃ k', Evo k k' cXS w w' ∧ XVolIs k' w' px (x.gossip a b).1 := by
  by_cases hbad : ¬ (0 ≤ a ∧ a < 6) ∨ ¬ (0 ≤ b ∧ b < 6) ∨ a = b
  · exact xgossip_bad hx a b hbad
  · obtain ⟨i, rfl⟩ := Int.eq_ofNat_of_zero_le (show 0 ≤ a by omega)
    exact xgossip_good hx hok i b (by omega) (by omega) (by omega)
end Go.Proofs.YtfpbkghcjaonlaaGreat

/-
  The program: a writer: Readable, Reaches.
-/
namespace Go.Proofs.YtfpbkghcjaonlaaGreat
open Go.RowKit

set_option maxHeartbeats 2000000 in
theorem readable_any {k : Nat → Nat} {w : World} {c b o : Nat} {x : XWr} (h : WrAt k w c b o x) (lsn : Int) :
    Calls Tryz.prog 76 #[.pointer (some ⟨b, o, none⟩), .int .i64 lsn] w fun e w' => e = .returned (.int .i64 (x.readable lsn)) ∧ w' = w := by
  obtain ⟨n0, n1, n2, c0, c1, c2, v0, v1, v2, hc, _, _, _⟩ := h.ex
  have q1 : w.cell? ⟨b, o + 1, none⟩ = some (.int .i64 x.phase) := hc 1 (by omega)
  have q4 : w.cell? ⟨b, o + 4, none⟩ = some (.int .i64 x.dur) := hc 4 (by omega)
  clear hc h
  by_cases p4 : x.phase = 4
  · have HE : Hid (x.readable lsn = 4) := hide (by unfold XWr.readable; rw [if_pos p4])
    rw [p4] at q1
    clear p4
    go_enter Tryz.func76, Tryz.ntmps76
    go_wp2_with fail
    go_ret
    exact ⟨by rw [HE.out]; rfl, rfl⟩
  · have d4 : (x.phase == 4) = false := by simpa using p4
    by_cases p3 : x.phase = 3
    · have hr : x.readable lsn = if lsn < 1 ∨ x.dur < lsn then 8 else 0 := by unfold XWr.readable; rw [if_neg p4, if_neg (by simpa using p3)]
      rw [p3] at q1
      clear p4 p3 d4
      by_cases h1 : lsn < 1
      · have HE : Hid (x.readable lsn = 8) := hide (by rw [hr, if_pos (.inl h1)])
        have d1 : decide (lsn < 1) = true := by simpa using h1
        clear hr h1
        go_enter Tryz.func76, Tryz.ntmps76
        go_wp2_with fail
        go_ret
        exact ⟨by rw [HE.out]; rfl, rfl⟩
      · have d1 : decide (lsn < 1) = false := by simpa using h1
        by_cases h2 : x.dur < lsn
        · have HE : Hid (x.readable lsn = 8) := hide (by rw [hr, if_pos (.inr h2)])
          have d2 : decide (x.dur < lsn) = true := by simpa using h2
          clear hr h1 h2
          go_enter Tryz.func76, Tryz.ntmps76
          go_wp2_with fail
          go_ret
          exact ⟨by rw [HE.out]; rfl, rfl⟩
        · have HE : Hid (x.readable lsn = 0) := hide (by rw [hr, if_neg (by omega)])
          have d2 : decide (x.dur < lsn) = false := by simpa using h2
          clear hr h1 h2
          go_enter Tryz.func76, Tryz.ntmps76
          go_wp2_with fail
          go_ret
          exact ⟨by rw [HE.out]; rfl, rfl⟩
    · have HE : Hid (x.readable lsn = 5) := hide (by unfold XWr.readable; rw [if_neg p4, if_pos p3])
      have d3 : (x.phase != 3) = true := by simpa using p3
      clear p4 p3
      go_enter Tryz.func76, Tryz.ntmps76
      go_wp2_with fail
      go_ret
      exact ⟨by rw [HE.out]; rfl, rfl⟩

set_option maxHeartbeats 2000000 in
theorem reaches_any {k : Nat → Nat} {w : World} {c b o : Nat} {x : XWr} (h : WrAt k w c b o x) (s : Nat) (hs : s < 6) (lsn : Int) :
    Calls Tryz.prog 77 #[.pointer (some ⟨b, o, none⟩), .int .i64 (s : Int), .int .i64 lsn] w fun e w' => e = .returned (.bool (decide (lsn ≤ x.noted.getD s 0))) ∧ w' = w := by
  obtain ⟨n0, n1, n2, c0, c1, c2, v0, v1, v2, hc, _, _, _⟩ := h.ex
  have q : w.cell? ⟨b, o + 14 + s, none⟩ = some (.int .i64 (x.noted.getD s 0)) := by have := (hc (14 + s) (by omega)).trans (wrRow_noted x _ _ _ s hs h.h6 h.n6); rwa [← Nat.add_assoc] at this
  have hs6 : (s : Int) < 6 := by omega
  have d0 : decide ((s : Int) < 0) = false := by simp
  have d6 : decide ((6 : Int) ≤ (s : Int)) = false := by simp; omega
  clear hc h
  generalize x.noted.getD s 0 = nt at *
  go_enter Tryz.func77, Tryz.ntmps77
  go_wp2_with fail
  go_ret
  exact ⟨rfl, rfl⟩
end Go.Proofs.YtfpbkghcjaonlaaGreat

/-
  The program: Read.
-/
namespace Go.Proofs.YtfpbkghcjaonlaaGreat
open Go.RowKit

def askOk (x : XVol) (p : XWr) (lsn : Int) (s : Nat) : Bool := decide (lsn ≤ p.noted.getD s 0) && ((x.segs[s]?).elim false (·.up))
theorem asked_some {x : XVol} {p : XWr} {lsn : Int} {j : Nat} (hj : j < 6) (h : askOk x p lsn j = true) (hno : ∀ s, s < j → askOk x p lsn s = false) : x.asked p lsn = some j := by
  unfold XVol.asked
  rw [List.find?_range_eq_some]
  exact ⟨h, by simpa using hj, fun s hs => by have h9 := hno s hs; unfold askOk at h9; rw [h9]; rfl⟩
theorem asked_none {x : XVol} {p : XWr} {lsn : Int} (hno : ∀ s, s < 6 → askOk x p lsn s = false) : x.asked p lsn = none := by
  unfold XVol.asked
  rw [List.find?_eq_none]
  intro s hs
  have := hno s (by simpa using hs)
  unfold askOk at this
  rw [this]; simp

set_option maxRecDepth 3000 in
set_option maxHeartbeats 4000000 in
theorem xread_in {k : Nat → Nat} {w : World} {px : Nat} {x : XVol} (hx : XVolIs k w px x) (i : Nat) (hi : i < x.wrs.length) (lsn : Int) :
    Calls Tryz.prog 34 #[.pointer (some ⟨px, 0, none⟩), .int .i64 ((i : Int) + 1), .int .i64 lsn] w fun e w' => e = .returned (.tuple #[.int .i64 (x.read ((i : Int) + 1) lsn).2.1, .int .i64 (x.read ((i : Int) + 1) lsn).2.2]) ∧ ∃ k', Evo k k' cXS w w' ∧ XVolIs k' w' px (x.read ((i : Int) + 1) lsn).1 := by
  have h9 : x.wrs.length ≤ 9 := by obtain ⟨_, _, _, _, _, _, _, hW⟩ := hx.ex; exact hW.l2
  have h6 := segs6' hx
  have HI := hide (isWr_in hx i hi)
  obtain ⟨g, cap, wrows, n0, n1, n2, c0, c1, c2, v0, v1, v2, q, hpl, hkpx, hW, hN, hC, hV, back⟩ := wr_write2 hx i hi
  have hat0 : x.wrAt ((i : Int) + 1) = some x.wrs[i] := by unfold XVol.wrAt; rw [if_neg (by omega), show ((i : Int) + 1).toNat - 1 = i from by omega, List.getElem?_eq_getElem hi]
  have hru : x.read ((i : Int) + 1) lsn = if x.wrs[i].readable lsn ≠ 0 then (x, 0, x.wrs[i].readable lsn) else match x.asked x.wrs[i] lsn with
    | none => (x, 0, 9)
    | some s => match x.segs[s]? with
      | none => (x, 0, 9)
      | some g => if (i : Int) + 1 < g.epoch then (x.setWr i x.wrs[i].stop, 0, 4) else (x, g.value lsn, 0) := by
    unfold XVol.read
    rw [hat0]
    simp only [show ((i : Int) + 1).toNat - 1 = i from by omega]
    rfl
  have hA := hW.at hN hC hV
  obtain ⟨hkg, hgl, -, -⟩ := hW.facts
  have hix : (i : Int) + 1 - 1 = (i : Int) := by omega
  have hil : (i : Int) < (x.wrs.length : Int) := by omega
  have hwr : IntKind.i64.wrap ((i : Int) + 1 - 1) = (i : Int) := by rw [hix, IntKind.wrap_i64] <;> omega
  have hi0 : ¬ (i : Int) < 0 := by omega
  have HRd := hide (readable_any hA lsn)
  have HRu := hide hru
  have HXV := hide hx
  have HRc : Hid (∀ s, s < 6 → Calls Tryz.prog 77 #[.pointer (some ⟨g, i * 20, none⟩), .int .i64 (s : Nat), .int .i64 lsn] w fun e w' => e = .returned (.bool (decide (lsn ≤ x.wrs[i].noted.getD s 0))) ∧ w' = w) := hide fun s hs => reaches_any hA s hs lsn
  have HSg : Hid (∀ s, s < 6 → ∃ (hl : s < x.segs.length) (vc : Value), SegAt w px (3 + s * 123) x.segs[s] vc) := hide fun s hs => by
    obtain ⟨r, d0, d1, d2, hl, hS, _, _⟩ := seg_write hx s hs
    exact ⟨hl, _, hS.at_⟩
  have HSt : Hid (Calls Tryz.prog 80 #[.pointer (some ⟨g, i * 20, none⟩)] w fun e w' => e = .returned (.tuple #[]) ∧ ∃ k', Evo k k' cXS w w' ∧ XVolIs k' w' px (x.setWr i x.wrs[i].stop)) := hide (by
    refine (stop_any hW).mono ?_
    rintro e w' ⟨rfl, ev, hW'⟩
    exact ⟨rfl, k, ev.mono (fun c h => by unfold cXW at h; unfold cXS; omega), back k w' _ _ _ _ _ ev (fun c h => .inl h) hW' ⟨[], Rows.nil _ _ _ _ _, rfl, fun i h1 => by simp [XWr.stop] at h1⟩ (Rows.nil _ _ _ _ _) (Rows.nil _ _ _ _ _)⟩)
  have HAk : Hid (∀ s (hs : s < x.segs.length), askOk x x.wrs[i] lsn s = (decide (lsn ≤ x.wrs[i].noted.getD s 0) && x.segs[s].up)) := hide fun s hs => by unfold askOk; rw [List.getElem?_eq_getElem hs]; rfl
  clear hW hN hC hV back hA hru hat0 hx
  by_cases hr : x.wrs[i].readable lsn = 0
  · have hd : (x.wrs[i].readable lsn != 0) = false := by simpa using hr
    have HR2 : Hid (x.read ((i : Int) + 1) lsn = match x.asked x.wrs[i] lsn with
      | none => (x, 0, 9)
      | some s => match x.segs[s]? with
        | none => (x, 0, 9)
        | some g => if (i : Int) + 1 < g.epoch then (x.setWr i x.wrs[i].stop, 0, 4) else (x, g.value lsn, 0)) := hide (by rw [HRu.out, if_neg (by simpa using hr)])
    clear hr HRu
    generalize x.wrs[i].readable lsn = rd at *
    go_enter Tryz.func34, Tryz.ntmps34
    go_wp2_with fail
    refine HI.out.mono ?_
    rintro e1 w1 ⟨rfl, hw⟩
    have hw2 := hw.symm
    subst hw2
    go_wp2_with fail
    refine HRd.out.mono ?_
    rintro e1 w1 ⟨rfl, hw⟩
    have hw2 := hw.symm
    subst hw2
    go_wp2_with fail
    go_loop [9] (fun i' => ∃ j : Nat, j ≤ 6 ∧ i' = .int .i64 j ∧ Hid (∀ s, s < j → askOk x x.wrs[i] lsn s = false)) (fun i' => 6 - (intOf i').toNat)
    case atStart => exact ⟨0, by omega, rfl, hide (fun s hs => by omega)⟩
    case round =>
      obtain ⟨j, hj, rfl, hno⟩ := hrel
      by_cases hlt : j < 6
      · have hdj : decide ((j : Int) < 6) = true := by simp; omega
        have hj6 : (j : Int) < 6 := by omega
        have hj0 : ¬ (j : Int) < 0 := by omega
        obtain ⟨hl, vc, hS⟩ := HSg.out j hlt
        have HRj := hide (HRc.out j hlt)
        have HAj := hide (HAk.out j hl)
        have HNx : Hid (askOk x x.wrs[i] lsn j = false → ∀ s, s < j + 1 → askOk x x.wrs[i] lsn s = false) := hide fun h s hs => by
          by_cases e : s = j
          · subst e; exact h
          · exact hno.out s (by omega)
        cases hrc : decide (lsn ≤ x.wrs[i].noted.getD j 0)
        · rw [hrc] at HRj
          have HN2 := hide (HNx.out (by rw [HAj.out, hrc]; rfl))
          clear hS hrc
          go_wp2_with fail
          refine HRj.out.mono ?_
          rintro e1 w1 ⟨rfl, hw⟩
          have hw2 := hw.symm
          subst hw2
          go_wp2_with fail
          go_round
          case rel => exact ⟨j + 1, by omega, by go_num, HN2⟩
          case measure => simp [intOf]; omega
        · rw [hrc] at HRj
          have HDn := hide (sdown_any hS)
          cases hu : x.segs[j].up
          · rw [hu] at HDn
            have HN2 := hide (HNx.out (by rw [HAj.out, hrc, hu]; rfl))
            clear hS hrc hu
            go_wp2_with fail
            refine HRj.out.mono ?_
            rintro e1 w1 ⟨rfl, hw⟩
            have hw2 := hw.symm
            subst hw2
            go_wp2_with fail
            refine HDn.out.mono ?_
            rintro e1 w1 ⟨rfl, hw⟩
            have hw2 := hw.symm
            subst hw2
            go_wp2_with fail
            go_round
            case rel => exact ⟨j + 1, by omega, by go_num, HN2⟩
            case measure => simp [intOf]; omega
          · rw [hu] at HDn
            have has := asked_some hlt (by rw [HAj.out, hrc, hu]; rfl) hno.out
            have HE0 : Hid (x.read ((i : Int) + 1) lsn = if (i : Int) + 1 < x.segs[j].epoch then (x.setWr i x.wrs[i].stop, 0, 4) else (x, x.segs[j].value lsn, 0)) := hide (by
              rw [HR2.out, has]
              simp only
              rw [List.getElem?_eq_getElem hl])
            have HNw := hide (snewer_any hS ((i : Int) + 1))
            have HVl := hide (svalue_any hS lsn)
            clear has hrc hu hS
            cases hnw : decide ((i : Int) + 1 < x.segs[j].epoch)
            · rw [hnw] at HNw
              have HE : Hid (x.read ((i : Int) + 1) lsn = (x, x.segs[j].value lsn, 0)) := hide (by rw [HE0.out, if_neg (by simpa using hnw)])
              clear hnw HE0
              generalize x.segs[j].value lsn = vl at *
              go_wp2_with fail
              refine HRj.out.mono ?_
              rintro e1 w1 ⟨rfl, hw⟩
              have hw2 := hw.symm
              subst hw2
              go_wp2_with fail
              refine HDn.out.mono ?_
              rintro e1 w1 ⟨rfl, hw⟩
              have hw2 := hw.symm
              subst hw2
              go_wp2_with fail
              refine HNw.out.mono ?_
              rintro e1 w1 ⟨rfl, hw⟩
              have hw2 := hw.symm
              subst hw2
              go_wp2_with fail
              refine HVl.out.mono ?_
              rintro e1 w1 ⟨rfl, hb1⟩
              go_wp2_with fail
              go_ret2
              exact ⟨by rw [HE.out]; rfl, k, Evo.of_below hb1, by rw [HE.out]; exact HXV.out.evo (Evo.of_below (C := noC) hb1) (noC_not _) (fun c _ _ => noC_not c)⟩
            · rw [hnw] at HNw
              have HE : Hid (x.read ((i : Int) + 1) lsn = (x.setWr i x.wrs[i].stop, 0, 4)) := hide (by rw [HE0.out, if_pos (by simpa using hnw)])
              clear hnw HE0
              go_wp2_with fail
              refine HRj.out.mono ?_
              rintro e1 w1 ⟨rfl, hw⟩
              have hw2 := hw.symm
              subst hw2
              go_wp2_with fail
              refine HDn.out.mono ?_
              rintro e1 w1 ⟨rfl, hw⟩
              have hw2 := hw.symm
              subst hw2
              go_wp2_with fail
              refine HNw.out.mono ?_
              rintro e1 w1 ⟨rfl, hw⟩
              have hw2 := hw.symm
              subst hw2
              go_wp2_with fail
              refine HSt.out.mono ?_
              rintro e1 w1 ⟨rfl, HY⟩
              go_wp2_with fail
              go_ret2
              exact ⟨by rw [HE.out]; rfl, by rw [HE.out]; exact HY⟩
      · have hdj : decide ((j : Int) < 6) = false := by simp; omega
        have HE : Hid (x.read ((i : Int) + 1) lsn = (x, 0, 9)) := hide (by rw [HR2.out, asked_none (fun s hs => hno.out s (by omega))])
        go_wp2_with fail
        go_ret2
        exact ⟨by rw [HE.out]; rfl, k, Evo.refl _ _ _, by rw [HE.out]; exact HXV.out⟩
  · have hd : (x.wrs[i].readable lsn != 0) = true := by simpa using hr
    have HE : Hid (x.read ((i : Int) + 1) lsn = (x, 0, x.wrs[i].readable lsn)) := hide (by rw [HRu.out, if_pos hr])
    clear hr HRu
    generalize x.wrs[i].readable lsn = rd at *
    go_enter Tryz.func34, Tryz.ntmps34
    go_wp2_with fail
    refine HI.out.mono ?_
    rintro e1 w1 ⟨rfl, hw⟩
    have hw2 := hw.symm
    subst hw2
    go_wp2_with fail
    refine HRd.out.mono ?_
    rintro e1 w1 ⟨rfl, hw⟩
    have hw2 := hw.symm
    subst hw2
    go_wp2_with fail
    go_ret2
    exact ⟨by rw [HE.out]; rfl, k, Evo.refl _ _ _, by rw [HE.out]; exact HXV.out⟩

set_option maxRecDepth 3000 in
set_option maxHeartbeats 2000000 in
theorem xread_out {k : Nat → Nat} {w : World} {px : Nat} {x : XVol} (hx : XVolIs k w px x) (n v : Int) (hn : ¬ (1 ≤ n ∧ n ≤ (x.wrs.length : Int))) :
    Calls Tryz.prog 34 #[.pointer (some ⟨px, 0, none⟩), .int .i64 n, .int .i64 v] w fun e w' => e = .returned (.tuple #[.int .i64 (x.read n v).2.1, .int .i64 (x.read n v).2.2]) ∧ ∃ k', Evo k k' cXS w w' ∧ XVolIs k' w' px (x.read n v).1 := by
  have HE : Hid (x.read n v = (x, 0, 3)) := hide (by
    unfold XVol.read XVol.wrAt
    by_cases h0 : n < 1
    · rw [if_pos h0]
    · rw [if_neg h0, List.getElem?_eq_none (by omega)])
  obtain ⟨a, cap, hc⟩ := wrs_cell hx
  have hiw := isWriter_any w px n _ _ _ hc
  rw [show (decide (1 ≤ n) && decide (n ≤ (x.wrs.length : Int))) = false from by rw [Bool.and_eq_false_iff]; simp; omega] at hiw
  have HI := hide hiw
  clear hiw hn
  go_enter Tryz.func34, Tryz.ntmps34
  go_wp2_with fail
  refine HI.out.mono ?_
  rintro e1 w1 ⟨rfl, hw⟩
  have hw2 := hw.symm
  subst hw2
  go_wp2_with fail
  go_ret2
  exact ⟨by rw [HE.out]; rfl, k, Evo.refl _ _ _, by rw [HE.out]; exact hx⟩

theorem xread_any {k : Nat → Nat} {w : World} {px : Nat} {x : XVol} (hx : XVolIs k w px x) (n lsn : Int) :
    Calls Tryz.prog 34 #[.pointer (some ⟨px, 0, none⟩), .int .i64 n, .int .i64 lsn] w fun e w' => e = .returned (.tuple #[.int .i64 (x.read n lsn).2.1, .int .i64 (x.read n lsn).2.2]) ∧ ∃ k', Evo k k' cXS w w' ∧ XVolIs k' w' px (x.read n lsn).1 := by
  by_cases hn : 1 ≤ n ∧ n ≤ (x.wrs.length : Int)
  · obtain ⟨i, hi⟩ : ∃ i : Nat, n = (i : Int) + 1 := ⟨(n - 1).toNat, by omega⟩
    subst hi
    exact xread_in hx i (by omega) lsn
  · exact xread_out hx n lsn hn
end Go.Proofs.YtfpbkghcjaonlaaGreat

/-
  The program: arriveAtSegment.
-/
namespace Go.Proofs.YtfpbkghcjaonlaaGreat
open Go.RowKit

set_option maxRecDepth 3000 in
set_option maxHeartbeats 8000000 in
theorem xatSeg_in {k : Nat → Nat} {w : World} {px : Nat} {x : XVol} (hx : XVolIs k w px x) (hok : XOk x) (i : Nat) (hi : i < 6) (hl : i < x.segs.length) (m : Msg) (hto : m.to_ = (i : Int)) (z0 y0 : Option Addr) (z1 z2 y1 y2 : Nat) (hcz : CutsIm k w (.slice z0 z1 z2) m.cuts) (hmk : MsgOk m)
    (hok2 : XOk (x.setSeg i (x.segs[i].arrive m).1)) (hok3 : ∀ m', (x.segs[i].arrive m).2 = some m' → MsgOk m') :
    Calls Tryz.prog 115 #[.pointer (some ⟨px, 0, none⟩), .agg #[.int .i64 m.kind, .int .i64 m.frm, .int .i64 m.to_, .int .i64 m.epoch, .int .i64 m.lsn, .int .i64 m.value, .int .i64 m.scl, .slice z0 z1 z2, .slice y0 y1 y2]] w fun e w' => e = .returned (.tuple #[]) ∧ ∃ k', Evo k k' cXS w w' ∧ XVolIs k' w' px (x.atSeg m) := by
  have HE : Hid (x.atSeg m = (x.setSeg i (x.segs[i].arrive m).1).sendO (x.segs[i].arrive m).2) := hide (by
    unfold XVol.atSeg
    rw [if_neg (by omega), show m.to_.toNat = i from by omega, List.getElem?_eq_getElem hl])
  have HI := hide (fun W => isSegment_any W (i : Int))
  rw [show (decide (0 ≤ (i : Int)) && decide ((i : Int) < 6)) = true from by simp; omega] at HI
  obtain ⟨mk, mf, mt, m3, m4, m5, m6, mc, mm⟩ := m
  dsimp only at hto hcz hmk
  subst hto
  have hpl : px < w.heap.size := by obtain ⟨_, _, _, _, hB, _⟩ := hx.ex; exact hB.lt
  have hcl := hok.sk _ (List.getElem_mem hl)
  have hil : (i : Int) < 6 := by omega
  have hi0 : ¬ (i : Int) < 0 := by omega
  have hmc : mc.length ≤ 1000 := hmk.1
  have HXV := hide hx
  have HCz := hide hcz
  have HO2 := hide hok2
  have HO3 := hide hok3
  clear hx hcz hok2 hok3 hmk
  dsimp only
  go_enter Tryz.func115, Tryz.ntmps115
  go_wp2_with fail
  refine (HI.out _).mono ?_
  rintro e1 w1 ⟨rfl, hw1⟩
  have hw2 := hw1.symm
  subst hw2
  go_wp2_with fail
  obtain ⟨W0, hW0⟩ : ∃ W0, W0 = w.alloc (Obj.cells #[.int .i64 mk, .int .i64 mf, .int .i64 (i : Int), .int .i64 m3, .int .i64 m4, .int .i64 m5, .int .i64 m6, .slice z0 z1 z2, .slice y0 y1 y2] 109) := ⟨_, rfl⟩
  rw [← hW0]
  obtain ⟨kx, hkx⟩ : ∃ kx : Nat → Nat, kx = fun b => if b < w.heap.size then k b else 0 := ⟨_, rfl⟩
  have evx : Evo k kx noC w W0 := by rw [hkx, hW0]; exact ((Evo.refl k noC w).alloc _).recolour _ (fun j hj => if_pos hj)
  obtain ⟨bi, hbi⟩ : ∃ bi, bi = w.heap.size := ⟨_, rfl⟩
  rw [← hbi]
  have bm0 : Blk kx W0 0 bi 109 [.int .i64 mk, .int .i64 mf, .int .i64 (i : Int), .int .i64 m3, .int .i64 m4, .int .i64 m5, .int .i64 m6, .slice z0 z1 z2, .slice y0 y1 y2] := by rw [hW0, hbi]; exact ⟨heap_alloc_new w _, by rw [hkx]; simp⟩
  have HH := hide (And.intro hW0 (And.intro hkx hbi))
  clear hW0 hkx hbi
  have hx0 := HXV.out.evo evx (noC_not _) (fun c _ _ => noC_not c)
  obtain ⟨r, d0, d1, d2, _, hS, hC, back⟩ := seg_write hx0 i hi
  have hpl0 := hS.lt
  have HK0 : Hid (∀ g, W0.heap.size ≤ g → kx g = 0) := hide (fun g hg => by
    obtain ⟨h1, h2, _⟩ := HH.out
    rw [h2]
    have : w.heap.size ≤ W0.heap.size := evx.size
    exact if_neg (by omega))
  have HS0 : Hid (W0.drew.cell? ⟨bi, 0, none⟩ = some (.int .i64 mk) ∧ W0.drew.cell? ⟨bi, 1, none⟩ = some (.int .i64 mf) ∧ W0.drew.cell? ⟨bi, 2, none⟩ = some (.int .i64 (i : Int)) ∧ W0.drew.cell? ⟨bi, 3, none⟩ = some (.int .i64 m3) ∧ W0.drew.cell? ⟨bi, 4, none⟩ = some (.int .i64 m4) ∧ W0.drew.cell? ⟨bi, 5, none⟩ = some (.int .i64 m5) ∧ W0.drew.cell? ⟨bi, 6, none⟩ = some (.int .i64 m6) ∧ W0.drew.cell? ⟨bi, 7, none⟩ = some (.slice z0 z1 z2) ∧ W0.drew.cell? ⟨bi, 8, none⟩ = some (.slice y0 y1 y2)) := hide ⟨bm0.cell 0, bm0.cell 1, bm0.cell 2, bm0.cell 3, bm0.cell 4, bm0.cell 5, bm0.cell 6, bm0.cell 7, bm0.cell 8⟩
  have bl0 := bm0.lt
  have bmA : Blk kx (W0.alloc (Obj.cells #[.int .i64 0, .int .i64 0, .int .i64 0, .int .i64 0, .int .i64 0, .int .i64 0, .int .i64 0, .slice none 0 0, .slice none 0 0] 109)).drew 0 bi 109 [.int .i64 mk, .int .i64 mf, .int .i64 (i : Int), .int .i64 m3, .int .i64 m4, .int .i64 m5, .int .i64 m6, .slice z0 z1 z2, .slice y0 y1 y2] := bm0.evo (((Evo.refl kx noC W0).alloc _).drew) (noC_not _)
  have HS1 : Hid ((W0.alloc (Obj.cells #[.int .i64 0, .int .i64 0, .int .i64 0, .int .i64 0, .int .i64 0, .int .i64 0, .int .i64 0, .slice none 0 0, .slice none 0 0] 109)).drew.cell? ⟨bi, 0, none⟩ = some (.int .i64 mk) ∧ (W0.alloc (Obj.cells #[.int .i64 0, .int .i64 0, .int .i64 0, .int .i64 0, .int .i64 0, .int .i64 0, .int .i64 0, .slice none 0 0, .slice none 0 0] 109)).drew.cell? ⟨bi, 1, none⟩ = some (.int .i64 mf) ∧ (W0.alloc (Obj.cells #[.int .i64 0, .int .i64 0, .int .i64 0, .int .i64 0, .int .i64 0, .int .i64 0, .int .i64 0, .slice none 0 0, .slice none 0 0] 109)).drew.cell? ⟨bi, 2, none⟩ = some (.int .i64 (i : Int)) ∧ (W0.alloc (Obj.cells #[.int .i64 0, .int .i64 0, .int .i64 0, .int .i64 0, .int .i64 0, .int .i64 0, .int .i64 0, .slice none 0 0, .slice none 0 0] 109)).drew.cell? ⟨bi, 3, none⟩ = some (.int .i64 m3) ∧ (W0.alloc (Obj.cells #[.int .i64 0, .int .i64 0, .int .i64 0, .int .i64 0, .int .i64 0, .int .i64 0, .int .i64 0, .slice none 0 0, .slice none 0 0] 109)).drew.cell? ⟨bi, 4, none⟩ = some (.int .i64 m4) ∧ (W0.alloc (Obj.cells #[.int .i64 0, .int .i64 0, .int .i64 0, .int .i64 0, .int .i64 0, .int .i64 0, .int .i64 0, .slice none 0 0, .slice none 0 0] 109)).drew.cell? ⟨bi, 5, none⟩ = some (.int .i64 m5) ∧ (W0.alloc (Obj.cells #[.int .i64 0, .int .i64 0, .int .i64 0, .int .i64 0, .int .i64 0, .int .i64 0, .int .i64 0, .slice none 0 0, .slice none 0 0] 109)).drew.cell? ⟨bi, 6, none⟩ = some (.int .i64 m6) ∧ (W0.alloc (Obj.cells #[.int .i64 0, .int .i64 0, .int .i64 0, .int .i64 0, .int .i64 0, .int .i64 0, .int .i64 0, .slice none 0 0, .slice none 0 0] 109)).drew.cell? ⟨bi, 7, none⟩ = some (.slice z0 z1 z2) ∧ (W0.alloc (Obj.cells #[.int .i64 0, .int .i64 0, .int .i64 0, .int .i64 0, .int .i64 0, .int .i64 0, .int .i64 0, .slice none 0 0, .slice none 0 0] 109)).drew.cell? ⟨bi, 8, none⟩ = some (.slice y0 y1 y2)) := hide ⟨bmA.cell 0, bmA.cell 1, bmA.cell 2, bmA.cell 3, bmA.cell 4, bmA.cell 5, bmA.cell 6, bmA.cell 7, bmA.cell 8⟩
  have HAr : Hid (∀ W, Below W0.heap.size W0 W → Calls Tryz.prog 124 #[.pointer (some ⟨px, 3 + i * 123, none⟩), .agg #[.int .i64 mk, .int .i64 mf, .int .i64 (i : Int), .int .i64 m3, .int .i64 m4, .int .i64 m5, .int .i64 m6, .slice z0 z1 z2, .slice y0 y1 y2]] W fun e w' => (∃ (nn : Msg) (u0 : Option Addr) (u1 u2 : Nat) (v0 : Option Addr) (v1 v2 : Nat), e = .returned (.tuple #[.agg #[.int .i64 nn.kind, .int .i64 nn.frm, .int .i64 nn.to_, .int .i64 nn.epoch, .int .i64 nn.lsn, .int .i64 nn.value, .int .i64 nn.scl, .slice u0 u1 u2, .slice v0 v1 v2], .bool (x.segs[i].arrive ⟨mk, mf, (i : Int), m3, m4, m5, m6, mc, mm⟩).2.isSome]) ∧ ∃ k2, Evo k k2 cXS w w' ∧ XVolIs k2 w' px (x.setSeg i (x.segs[i].arrive ⟨mk, mf, (i : Int), m3, m4, m5, m6, mc, mm⟩).1) ∧ CutsIm k2 w' (.slice u0 u1 u2) nn.cuts ∧ IntsIm k2 w' (.slice v0 v1 v2) nn.marks ∧ (∀ m', (x.segs[i].arrive ⟨mk, mf, (i : Int), m3, m4, m5, m6, mc, mm⟩).2 = some m' → m' = nn) ∧ (∀ g, W0.heap.size ≤ g → g < W.heap.size → k2 g = 0 ∧ w'.heap[g]? = W.heap[g]?)) ∧ (w'.cell? ⟨bi, 0, none⟩ = some (.int .i64 mk) ∧ w'.cell? ⟨bi, 1, none⟩ = some (.int .i64 mf) ∧ w'.cell? ⟨bi, 2, none⟩ = some (.int .i64 (i : Int)) ∧ w'.cell? ⟨bi, 3, none⟩ = some (.int .i64 m3) ∧ w'.cell? ⟨bi, 4, none⟩ = some (.int .i64 m4) ∧ w'.cell? ⟨bi, 5, none⟩ = some (.int .i64 m5) ∧ w'.cell? ⟨bi, 6, none⟩ = some (.int .i64 m6) ∧ w'.cell? ⟨bi, 7, none⟩ = some (.slice z0 z1 z2) ∧ w'.cell? ⟨bi, 8, none⟩ = some (.slice y0 y1 y2)) ∧ px < w'.heap.size ∧ W.heap.size ≤ w'.heap.size) := hide fun W hWb => by
    have e0 : Evo kx kx noC W0 W := Evo.of_below hWb
    have eA : Evo k kx noC w W := evx.trans e0
    refine (sarrive_any (hS.evo e0 (noC_not _)) (hC.evo e0 (noC_not _)) hcl ⟨mk, mf, (i : Int), m3, m4, m5, m6, mc, mm⟩ z0 y0 z1 z2 y1 y2 (HCz.out.evo eA (noC_not _)) hmc).mono ?_
    rintro e w' ⟨vv, rfl, k2, a0, a1, a2, ev2, hS2, hC2, nn, u0, u1, u2, v0, v1, v2, rfl, hz2, hy2, hm2⟩
    have evT : Evo kx k2 (fun c => c = cX) W0 w' := (e0.mono (fun _ h => h.elim)).trans ev2
    have hbk := back k2 w' _ _ evT hS2 hC2
    have bm9 := bm0.evo evT (by decide)
    exact ⟨⟨nn, u0, u1, u2, v0, v1, v2, rfl, k2, (evx.mono (fun _ h => h.elim)).trans (evT.mono (fun c h => by unfold cX at h; unfold cXS; omega)), hbk, hz2, hy2, hm2, fun g hg1 hg2 => ⟨(ev2.col g hg2).trans (HK0.out g hg1), ev2.keep g hg2 (by rw [HK0.out g hg1]; decide)⟩⟩, ⟨bm9.cell 0, bm9.cell 1, bm9.cell 2, bm9.cell 3, bm9.cell 4, bm9.cell 5, bm9.cell 6, bm9.cell 7, bm9.cell 8⟩, Nat.lt_of_lt_of_le hpl0 evT.size, ev2.size⟩
  clear hS hC back hx0 bm0 bmA HH
  generalize x.segs[i].arrive ⟨mk, mf, (i : Int), m3, m4, m5, m6, mc, mm⟩ = xa at *
  obtain ⟨s2, ow⟩ := xa
  dsimp only at *
  go_cut [4, 5] (fun v4 v5 wc => ∃ b, v4 = .pointer (some ⟨b, 0, none⟩) ∧ v5 = .bool ow.isSome ∧ Hid (∃ (nn : Msg) (u0 : Option Addr) (u1 u2 : Nat) (v0 : Option Addr) (v1 v2 : Nat) (k2 : Nat → Nat), wc.heap[b]? = some (.cells #[.int .i64 nn.kind, .int .i64 nn.frm, .int .i64 nn.to_, .int .i64 nn.epoch, .int .i64 nn.lsn, .int .i64 nn.value, .int .i64 nn.scl, .slice u0 u1 u2, .slice v0 v1 v2] 109 (0, 0)) ∧ Evo k k2 cXS w wc ∧ XVolIs k2 wc px (x.setSeg i s2) ∧ CutsIm k2 wc (.slice u0 u1 u2) nn.cuts ∧ IntsIm k2 wc (.slice v0 v1 v2) nn.marks ∧ ∀ m', ow = some m' → m' = nn))
  case first =>
    have hbw : ¬ bi = W0.heap.size := by omega
    have HbA : Hid (Below W0.heap.size W0 (W0.alloc (Obj.cells #[.int .i64 0, .int .i64 0, .int .i64 0, .int .i64 0, .int .i64 0, .int .i64 0, .int .i64 0, .slice none 0 0, .slice none 0 0] 109)).drew) := hide (((Below.refl _ _).alloc (Nat.le_refl _) _).drew)
    have HbB : Hid (Below W0.heap.size W0 W0.drew) := hide (Below.drew (Below.refl _ _))
    go_region_held3 (fun W => W.cell? ⟨bi, 0, none⟩ = some (.int .i64 mk) ∧ W.cell? ⟨bi, 1, none⟩ = some (.int .i64 mf) ∧ W.cell? ⟨bi, 2, none⟩ = some (.int .i64 (i : Int)) ∧ W.cell? ⟨bi, 3, none⟩ = some (.int .i64 m3) ∧ W.cell? ⟨bi, 4, none⟩ = some (.int .i64 m4) ∧ W.cell? ⟨bi, 5, none⟩ = some (.int .i64 m5) ∧ W.cell? ⟨bi, 6, none⟩ = some (.int .i64 m6) ∧ W.cell? ⟨bi, 7, none⟩ = some (.slice z0 z1 z2) ∧ W.cell? ⟨bi, 8, none⟩ = some (.slice y0 y1 y2)) (first | with_reducible exact HS0.out | with_reducible exact HS1.out | with_reducible exact HSy | with_reducible exact HSz | go_keep)
      (first | (go_at_call 124; refine (HAr.out _ HbA.out).mono ?_; rintro e5 w5 ⟨⟨nn, u0, u1, u2, v0, v1, v2, rfl, k2, ev2, hv2, hz2, hy2, hm2, hkp⟩, HSy, hpl5, hsz5⟩; have hzz : w5.heap[W0.heap.size]? = some (.cells #[.int .i64 0, .int .i64 0, .int .i64 0, .int .i64 0, .int .i64 0, .int .i64 0, .int .i64 0, .slice none 0 0, .slice none 0 0] 109 (0, 0)) := (hkp W0.heap.size (Nat.le_refl _) (by simp)).2.trans (heap_alloc_new W0 _); have HKP := hide (hkp W0.heap.size (Nat.le_refl _) (by simp)).1; have HZZ := hide hzz; obtain ⟨⟨r0, r1, r2, r3, r4, r5, r6, r7, r8⟩, ⟨f0, f1, f2, f3, f4, f5, f6, f7, f8⟩, hlr⟩ := cells9m hzz; have HSz : (((((((((w5.setCell ⟨W0.heap.size, 0, none⟩ (.int .i64 nn.kind)).setCell ⟨W0.heap.size, 1, none⟩ (.int .i64 nn.frm)).setCell ⟨W0.heap.size, 2, none⟩ (.int .i64 nn.to_)).setCell ⟨W0.heap.size, 3, none⟩ (.int .i64 nn.epoch)).setCell ⟨W0.heap.size, 4, none⟩ (.int .i64 nn.lsn)).setCell ⟨W0.heap.size, 5, none⟩ (.int .i64 nn.value)).setCell ⟨W0.heap.size, 6, none⟩ (.int .i64 nn.scl)).setCell ⟨W0.heap.size, 7, none⟩ (.slice u0 u1 u2)).setCell ⟨W0.heap.size, 8, none⟩ (.slice v0 v1 v2)).cell? ⟨bi, 0, none⟩ = some (.int .i64 mk) ∧ (((((((((w5.setCell ⟨W0.heap.size, 0, none⟩ (.int .i64 nn.kind)).setCell ⟨W0.heap.size, 1, none⟩ (.int .i64 nn.frm)).setCell ⟨W0.heap.size, 2, none⟩ (.int .i64 nn.to_)).setCell ⟨W0.heap.size, 3, none⟩ (.int .i64 nn.epoch)).setCell ⟨W0.heap.size, 4, none⟩ (.int .i64 nn.lsn)).setCell ⟨W0.heap.size, 5, none⟩ (.int .i64 nn.value)).setCell ⟨W0.heap.size, 6, none⟩ (.int .i64 nn.scl)).setCell ⟨W0.heap.size, 7, none⟩ (.slice u0 u1 u2)).setCell ⟨W0.heap.size, 8, none⟩ (.slice v0 v1 v2)).cell? ⟨bi, 1, none⟩ = some (.int .i64 mf) ∧ (((((((((w5.setCell ⟨W0.heap.size, 0, none⟩ (.int .i64 nn.kind)).setCell ⟨W0.heap.size, 1, none⟩ (.int .i64 nn.frm)).setCell ⟨W0.heap.size, 2, none⟩ (.int .i64 nn.to_)).setCell ⟨W0.heap.size, 3, none⟩ (.int .i64 nn.epoch)).setCell ⟨W0.heap.size, 4, none⟩ (.int .i64 nn.lsn)).setCell ⟨W0.heap.size, 5, none⟩ (.int .i64 nn.value)).setCell ⟨W0.heap.size, 6, none⟩ (.int .i64 nn.scl)).setCell ⟨W0.heap.size, 7, none⟩ (.slice u0 u1 u2)).setCell ⟨W0.heap.size, 8, none⟩ (.slice v0 v1 v2)).cell? ⟨bi, 2, none⟩ = some (.int .i64 (i : Int)) ∧ (((((((((w5.setCell ⟨W0.heap.size, 0, none⟩ (.int .i64 nn.kind)).setCell ⟨W0.heap.size, 1, none⟩ (.int .i64 nn.frm)).setCell ⟨W0.heap.size, 2, none⟩ (.int .i64 nn.to_)).setCell ⟨W0.heap.size, 3, none⟩ (.int .i64 nn.epoch)).setCell ⟨W0.heap.size, 4, none⟩ (.int .i64 nn.lsn)).setCell ⟨W0.heap.size, 5, none⟩ (.int .i64 nn.value)).setCell ⟨W0.heap.size, 6, none⟩ (.int .i64 nn.scl)).setCell ⟨W0.heap.size, 7, none⟩ (.slice u0 u1 u2)).setCell ⟨W0.heap.size, 8, none⟩ (.slice v0 v1 v2)).cell? ⟨bi, 3, none⟩ = some (.int .i64 m3) ∧ (((((((((w5.setCell ⟨W0.heap.size, 0, none⟩ (.int .i64 nn.kind)).setCell ⟨W0.heap.size, 1, none⟩ (.int .i64 nn.frm)).setCell ⟨W0.heap.size, 2, none⟩ (.int .i64 nn.to_)).setCell ⟨W0.heap.size, 3, none⟩ (.int .i64 nn.epoch)).setCell ⟨W0.heap.size, 4, none⟩ (.int .i64 nn.lsn)).setCell ⟨W0.heap.size, 5, none⟩ (.int .i64 nn.value)).setCell ⟨W0.heap.size, 6, none⟩ (.int .i64 nn.scl)).setCell ⟨W0.heap.size, 7, none⟩ (.slice u0 u1 u2)).setCell ⟨W0.heap.size, 8, none⟩ (.slice v0 v1 v2)).cell? ⟨bi, 4, none⟩ = some (.int .i64 m4) ∧ (((((((((w5.setCell ⟨W0.heap.size, 0, none⟩ (.int .i64 nn.kind)).setCell ⟨W0.heap.size, 1, none⟩ (.int .i64 nn.frm)).setCell ⟨W0.heap.size, 2, none⟩ (.int .i64 nn.to_)).setCell ⟨W0.heap.size, 3, none⟩ (.int .i64 nn.epoch)).setCell ⟨W0.heap.size, 4, none⟩ (.int .i64 nn.lsn)).setCell ⟨W0.heap.size, 5, none⟩ (.int .i64 nn.value)).setCell ⟨W0.heap.size, 6, none⟩ (.int .i64 nn.scl)).setCell ⟨W0.heap.size, 7, none⟩ (.slice u0 u1 u2)).setCell ⟨W0.heap.size, 8, none⟩ (.slice v0 v1 v2)).cell? ⟨bi, 5, none⟩ = some (.int .i64 m5) ∧ (((((((((w5.setCell ⟨W0.heap.size, 0, none⟩ (.int .i64 nn.kind)).setCell ⟨W0.heap.size, 1, none⟩ (.int .i64 nn.frm)).setCell ⟨W0.heap.size, 2, none⟩ (.int .i64 nn.to_)).setCell ⟨W0.heap.size, 3, none⟩ (.int .i64 nn.epoch)).setCell ⟨W0.heap.size, 4, none⟩ (.int .i64 nn.lsn)).setCell ⟨W0.heap.size, 5, none⟩ (.int .i64 nn.value)).setCell ⟨W0.heap.size, 6, none⟩ (.int .i64 nn.scl)).setCell ⟨W0.heap.size, 7, none⟩ (.slice u0 u1 u2)).setCell ⟨W0.heap.size, 8, none⟩ (.slice v0 v1 v2)).cell? ⟨bi, 6, none⟩ = some (.int .i64 m6) ∧ (((((((((w5.setCell ⟨W0.heap.size, 0, none⟩ (.int .i64 nn.kind)).setCell ⟨W0.heap.size, 1, none⟩ (.int .i64 nn.frm)).setCell ⟨W0.heap.size, 2, none⟩ (.int .i64 nn.to_)).setCell ⟨W0.heap.size, 3, none⟩ (.int .i64 nn.epoch)).setCell ⟨W0.heap.size, 4, none⟩ (.int .i64 nn.lsn)).setCell ⟨W0.heap.size, 5, none⟩ (.int .i64 nn.value)).setCell ⟨W0.heap.size, 6, none⟩ (.int .i64 nn.scl)).setCell ⟨W0.heap.size, 7, none⟩ (.slice u0 u1 u2)).setCell ⟨W0.heap.size, 8, none⟩ (.slice v0 v1 v2)).cell? ⟨bi, 7, none⟩ = some (.slice z0 z1 z2) ∧ (((((((((w5.setCell ⟨W0.heap.size, 0, none⟩ (.int .i64 nn.kind)).setCell ⟨W0.heap.size, 1, none⟩ (.int .i64 nn.frm)).setCell ⟨W0.heap.size, 2, none⟩ (.int .i64 nn.to_)).setCell ⟨W0.heap.size, 3, none⟩ (.int .i64 nn.epoch)).setCell ⟨W0.heap.size, 4, none⟩ (.int .i64 nn.lsn)).setCell ⟨W0.heap.size, 5, none⟩ (.int .i64 nn.value)).setCell ⟨W0.heap.size, 6, none⟩ (.int .i64 nn.scl)).setCell ⟨W0.heap.size, 7, none⟩ (.slice u0 u1 u2)).setCell ⟨W0.heap.size, 8, none⟩ (.slice v0 v1 v2)).cell? ⟨bi, 8, none⟩ = some (.slice y0 y1 y2) := ⟨(cell_far9 hbw).trans HSy.1, (cell_far9 hbw).trans HSy.2.1, (cell_far9 hbw).trans HSy.2.2.1, (cell_far9 hbw).trans HSy.2.2.2.1, (cell_far9 hbw).trans HSy.2.2.2.2.1, (cell_far9 hbw).trans HSy.2.2.2.2.2.1, (cell_far9 hbw).trans HSy.2.2.2.2.2.2.1, (cell_far9 hbw).trans HSy.2.2.2.2.2.2.2.1, (cell_far9 hbw).trans HSy.2.2.2.2.2.2.2.2⟩; clear hzz hkp; have HY2 := hide (And.intro ev2 (And.intro hv2 (And.intro hz2 (And.intro hy2 hm2)))); clear ev2 hv2 hz2 hy2 hm2) | (go_at_call 124; refine (HAr.out _ HbB.out).mono ?_; rintro e5 w5 ⟨⟨nn, u0, u1, u2, v0, v1, v2, rfl, k2, ev2, hv2, hz2, hy2, hm2, hkp⟩, HSy, hpl5, hsz5⟩; clear hkp; have HY2 := hide (And.intro ev2 (And.intro hv2 (And.intro hz2 (And.intro hy2 hm2)))); clear ev2 hv2 hz2 hy2 hm2))
    · go_wp2_with fail
      go_meet
      obtain ⟨ev2, hv2, hz2, hy2, hm2⟩ := HY2.out
      have e9 : Evo k2 k2 noC w5 (w5.alloc (Obj.cells #[.int .i64 nn.kind, .int .i64 nn.frm, .int .i64 nn.to_, .int .i64 nn.epoch, .int .i64 nn.lsn, .int .i64 nn.value, .int .i64 nn.scl, .slice u0 u1 u2, .slice v0 v1 v2] 109)) := (Evo.refl k2 noC w5).alloc _
      exact ⟨w5.heap.size, rfl, rfl, hide ⟨nn, u0, u1, u2, v0, v1, v2, k2, heap_alloc_new w5 _, ev2.alloc _, hv2.evo e9 (noC_not _) (fun c _ _ => noC_not c), hz2.evo e9 (noC_not _), hy2.evo e9 (noC_not _), hm2⟩⟩
    · go_wp2_with fail
      go_meet
      obtain ⟨ev2, hv2, hz2, hy2, hm2⟩ := HY2.out
      have hbz : Blk k2 w5 0 W0.heap.size 109 [.int .i64 0, .int .i64 0, .int .i64 0, .int .i64 0, .int .i64 0, .int .i64 0, .int .i64 0, .slice none 0 0, .slice none 0 0] := ⟨HZZ.out, HKP.out⟩
      have e9 := ev_set9 (w := w5) HKP.out (.int .i64 nn.kind) (.int .i64 nn.frm) (.int .i64 nn.to_) (.int .i64 nn.epoch) (.int .i64 nn.lsn) (.int .i64 nn.value) (.int .i64 nn.scl) (.slice u0 u1 u2) (.slice v0 v1 v2)
      have b9 := ((((((((hbz.set 0 (.int .i64 nn.kind)).set 1 (.int .i64 nn.frm)).set 2 (.int .i64 nn.to_)).set 3 (.int .i64 nn.epoch)).set 4 (.int .i64 nn.lsn)).set 5 (.int .i64 nn.value)).set 6 (.int .i64 nn.scl)).set 7 (.slice u0 u1 u2)).set 8 (.slice v0 v1 v2)
      have hw0 : w.heap.size ≤ W0.heap.size := evx.size
      have evb : Evo k k2 cXS w (((((((((w5.setCell ⟨W0.heap.size, 0, none⟩ (.int .i64 nn.kind)).setCell ⟨W0.heap.size, 1, none⟩ (.int .i64 nn.frm)).setCell ⟨W0.heap.size, 2, none⟩ (.int .i64 nn.to_)).setCell ⟨W0.heap.size, 3, none⟩ (.int .i64 nn.epoch)).setCell ⟨W0.heap.size, 4, none⟩ (.int .i64 nn.lsn)).setCell ⟨W0.heap.size, 5, none⟩ (.int .i64 nn.value)).setCell ⟨W0.heap.size, 6, none⟩ (.int .i64 nn.scl)).setCell ⟨W0.heap.size, 7, none⟩ (.slice u0 u1 u2)).setCell ⟨W0.heap.size, 8, none⟩ (.slice v0 v1 v2)) := ev2.then_below (below9 (Below.refl w.heap.size w5) hw0 _ _ _ _ _ _ _ _ _) (fun _ _ => rfl)
      exact ⟨W0.heap.size, rfl, rfl, hide ⟨nn, u0, u1, u2, v0, v1, v2, k2, b9.1, evb, hv2.evo e9 (by decide) (fun c h1 h2 => by omega), hz2.evo e9 (by decide), hy2.evo e9 (by decide), hm2⟩⟩
  case rest =>
    obtain ⟨b, rfl, rfl, HB⟩ := hcut
    obtain ⟨nn, u0, u1, u2, v0, v1, v2, k2, hbc, ev2, hv2, hz2, hy2, hm2⟩ := HB.out
    have hplc : px < wc.heap.size := by obtain ⟨_, _, _, _, hB, _⟩ := hv2.ex; exact hB.lt
    cases ow with
    | none =>
      have HX := hide (And.intro ev2 hv2)
      clear ev2 hv2 hz2 hy2 hm2 hbc HB
      simp only [Option.isSome]
      go_wp2_with fail
      go_end0
      exact ⟨rfl, k2, HX.out.1, by rw [HE.out]; exact HX.out.2⟩
    | some m' =>
      have he := hm2 m' rfl
      subst he
      have HS := hide (send_of (fun c h => h) ev2 hv2 HO2.out m' (HO3.out m' rfl) hz2 hy2)
      obtain ⟨⟨r0, r1, r2, r3, r4, r5, r6, r7, r8⟩, -, hlr⟩ := cells9m hbc
      clear ev2 hv2 hz2 hy2 hm2 HB hbc
      simp only [Option.isSome]
      go_wp2_with fail
      go_region_with (go_at_call 87; refine (HS.out _ (Below.drew (Below.refl _ _))).mono ?_; rintro e3 w4 ⟨rfl, HY2⟩)
      all_goals go_wp2_with fail
      all_goals go_end0
      all_goals exact ⟨rfl, by rw [HE.out]; exact HY2⟩
end Go.Proofs.YtfpbkghcjaonlaaGreat
