import Derived.Test.YtfpbkghcjaonlaaGreatJ08
/-
  sixfoldref: end, may, status.
-/
namespace Go.Proofs.YtfpbkghcjaonlaaGreat
open Go.RowKit

def RPen.ended (p : RPen) : RPen := if p.over then p else { p with over := true, a0 := 4, a1 := p.stands.base, a2 := p.stands.next, a3 := p.stands.dur }

set_option maxHeartbeats 2000000 in
theorem end_any {k : Nat → Nat} {w : World} {cp b : Nat} {p : RPen} (e : Int) (h : PenIs k w cp b p) (hok : PenOk p) (hi : cp ≠ IM) :
    Calls Tryz.prog 83 #[.pointer (some ⟨b, 0, none⟩), .int .i64 e] w fun en w' => en = .returned (.tuple #[]) ∧ ∃ k', Evo k k' (fun c => c = cp) w w' ∧ PenIs k' w' cp b p.ended := by
  obtain ⟨vF, vS, vV, hB, hF, hS, hV⟩ := h.ex
  have z3 : w.cell? ⟨b, 3, none⟩ = some (.bool p.over) := hB.cell 3
  cases ho : p.over
  · have HE : Hid (p.ended = { p with over := true, a0 := 4, a1 := p.stands.base, a2 := p.stands.next, a3 := p.stands.dur }) := hide (by unfold RPen.ended; rw [ho]; rfl)
    rw [ho] at z3
    have HK := hide (stands_any e h hok)
    generalize p.stands = s at *
    unfold WSt.val at HK
    have hbl := hB.lt
    go_enter Tryz.func83, Tryz.ntmps83
    go_wp2_with fail
    refine HK.out.mono ?_
    rintro e1 w1 ⟨rfl, hb1⟩
    have ev1 : Evo k k noC w w1 := Evo.of_below hb1
    have hB1 := hB.evo ev1 (noC_not _)
    have c3 : w1.cell? ⟨b, 3, none⟩ = some (.bool p.over) := hB1.cell 3
    have c4 : w1.cell? ⟨b, 4, none⟩ = some (.int .i64 p.a0) := hB1.cell 4
    have c5 : w1.cell? ⟨b, 5, none⟩ = some (.int .i64 p.a1) := hB1.cell 5
    have c6 : w1.cell? ⟨b, 6, none⟩ = some (.int .i64 p.a2) := hB1.cell 6
    have c7 : w1.cell? ⟨b, 7, none⟩ = some (.int .i64 p.a3) := hB1.cell 7
    have f3 := hB1.free 3
    have f4 := hB1.free 4
    have f5 := hB1.free 5
    have f6 := hB1.free 6
    have f7 := hB1.free 7
    have hbl1 := hB1.lt
    go_wp2_with fail
    go_end0
    have hkb : k b = cp := hB.2
    have evS : Evo k k (fun c => c = cp) w _ := ((((((ev1.mono (fun _ h => h.elim)).setCell ⟨b, 4, none⟩ (.int .i64 4) (fun _ => hkb)).setCell ⟨b, 5, none⟩ (.int .i64 s.base) (fun _ => hkb)).setCell ⟨b, 6, none⟩ (.int .i64 s.next) (fun _ => hkb)).setCell ⟨b, 7, none⟩ (.int .i64 s.dur) (fun _ => hkb)).setCell ⟨b, 3, none⟩ (.bool true) (fun _ => hkb)).alloc (Obj.cells #[.int .i64 4, .int .i64 s.base, .int .i64 s.next, .int .i64 s.dur] 105)
    have hBS := (((((hB1.set 4 (.int .i64 4)).set 5 (.int .i64 s.base)).set 6 (.int .i64 s.next)).set 7 (.int .i64 s.dur)).set 3 (.bool true)).evo ((Evo.refl k noC _).alloc (Obj.cells #[.int .i64 4, .int .i64 s.base, .int .i64 s.next, .int .i64 s.dur] 105)) (noC_not _)
    refine ⟨rfl, k, evS, ?_⟩
    rw [HE.out]
    exact ⟨vF, vS, vV, hBS, hF.evo evS (by omega) (fun e => hi e.symm), hS.evo evS (by omega) (fun e => hi e.symm), hV.evo evS (by omega)⟩
  · have HE : Hid (p.ended = p) := hide (by unfold RPen.ended; rw [ho]; rfl)
    rw [ho] at z3
    go_enter Tryz.func83, Tryz.ntmps83
    go_wp2_with fail
    exact bodyPost_ret (v := .tuple #[]) (by simp [results, Tryz.results83]) rfl ⟨rfl, k, Evo.refl _ _ _, by rw [HE.out]; exact h⟩

/-- The pens, one of them turned. -/
theorem PensIs.set {k k' : Nat → Nat} {w w' : World} {v : Value} {bs : List Nat} {pens : List RPen} {C : Nat → Prop} (h : PensIs k w v bs pens) (i : Nat) (hib : i < bs.length) (g : Evo k k' C w w') (hC : ∀ c, C c → cP i ≤ c ∧ c < cP i + 4) {p' : RPen} (hp : PenIs k' w' (cP i) bs[i] p') : PensIs k' w' v bs (pens.set i p') := by
  have l1 := h.l1
  have l2 := h.l2
  have him : ¬ C IM := fun e => by have := hC _ e; unfold cP IM at this; omega
  refine ⟨h.own.evo g (fun e => by have := hC _ e; unfold cP cPens at this; omega), by simp [l1], by simpa using l2, fun j a b => ?_⟩
  by_cases hj : i = j
  · subst hj; simpa using hp
  · simp only [List.getElem_set_ne hj]
    have hne : ∀ d, d < 4 → ¬ C (cP j + d) := fun d hd e => by have := hC _ e; unfold cP at this; omega
    exact (h.all j a (by simpa using b)).evo g him (hne 0 (by omega)) (hne 1 (by omega)) (hne 2 (by omega)) (hne 3 (by omega))

/-- The stores, one of them turned. -/
theorem SegsIs.set {k k' : Nat → Nat} {w w' : World} {v : Value} {bs : List Nat} {segs : List RSeg} {C : Nat → Prop} (h : SegsIs k w v bs segs) (i : Nat) (hib : i < bs.length) (g : Evo k k' C w w') (hC : ∀ c, C c → cS i ≤ c ∧ c < cS i + 4) {s' : RSeg} (hs : StoreIs k' w' (cS i) bs[i] s') : SegsIs k' w' v bs (segs.set i s') := by
  have l1 := h.l1
  have him : ¬ C IM := fun e => by have := hC _ e; unfold cS IM at this; omega
  refine ⟨h.own.evo g (fun e => by have := hC _ e; unfold cS cSegs at this; omega), l1, by simpa using h.l2, fun j a b => ?_⟩
  by_cases hj : i = j
  · subst hj; simpa using hs
  · simp only [List.getElem_set_ne hj]
    have hne : ∀ d, d < 4 → ¬ C (cS j + d) := fun d hd e => by have := hC _ e; unfold cS at this; omega
    exact (h.all j a (by simpa using b)).evo g him (hne 0 (by omega)) (hne 1 (by omega)) (hne 2 (by omega)) (hne 3 (by omega))

theorem YVol.set_pen {k k' : Nat → Nat} {w w' : World} {q : Nat} {r : RVol} {vSegs vPens : Value} {sb pb : List Nat} {C : Nat → Prop} (hN : YNet k w q r.wi r.fl vSegs vPens r.net) (hS : SegsIs k w vSegs sb r.segs) (hP : PensIs k w vPens pb r.pens)
    (i : Nat) (hib : i < pb.length) (g : Evo k k' C w w') (hC : ∀ c, C c → cP i ≤ c ∧ c < cP i + 4) {p' : RPen} (hp : PenIs k' w' (cP i) pb[i] p') : YVol k' w' q { r with pens := r.pens.set i p' } := by
  have hno : ∀ c, c < 50 → ¬ C c := fun c hc e => by have := hC _ e; unfold cP at this; omega
  exact ⟨vSegs, vPens, sb, pb, hN.evo g (hno _ (by decide)) (hno _ (by decide)) (hno _ (by decide)), hS.evo g (hno _ (by decide)) (hno _ (by decide)) (fun c _ h => hno c h), hP.set i hib g hC hp⟩

theorem YVol.set_seg {k k' : Nat → Nat} {w w' : World} {q : Nat} {r : RVol} {vSegs vPens : Value} {sb pb : List Nat} {C : Nat → Prop} (hN : YNet k w q r.wi r.fl vSegs vPens r.net) (hS : SegsIs k w vSegs sb r.segs) (hP : PensIs k w vPens pb r.pens)
    (i : Nat) (hib : i < sb.length) (g : Evo k k' C w w') (hC : ∀ c, C c → cS i ≤ c ∧ c < cS i + 4) {s' : RSeg} (hs : StoreIs k' w' (cS i) sb[i] s') : YVol k' w' q { r with segs := r.segs.set i s' } := by
  have l1 := hS.l1
  have hno : ∀ c, c < 20 ∨ 44 ≤ c → ¬ C c := fun c hc e => by have := hC _ e; unfold cS at this; omega
  exact ⟨vSegs, vPens, sb, pb, hN.evo g (hno _ (by decide)) (hno _ (by decide)) (hno _ (by decide)), hS.set i hib g hC hs, hP.evo g (hno _ (by decide)) (hno _ (by decide)) (fun c h1 h2 => hno c (by omega))⟩

def statusMsg (s : Nat) (g : RSeg) : Msg := ⟨4, s, g.epoch, g.epoch, 0, 0, sclOf g.entries, [], []⟩

set_option maxHeartbeats 2000000 in
theorem refStatus_any {k : Nat → Nat} {w : World} {q : Nat} {r : RVol} (s : Nat) (hs : s < r.segs.length) (hY : YVol k w q r) (hok : YOk r) :
    Calls Tryz.prog 90 #[.pointer (some ⟨q, 0, none⟩), .int .i64 s] w fun e w' => e = .returned (.tuple #[]) ∧ ∃ k', Evo k k' (fun c => c = cY ∨ c = cNet) w w' ∧ YVol k' w' q (r.send (statusMsg s r.segs[s])) := by
  have hY0 := hY
  obtain ⟨vSegs, vPens, sb, pb, ⟨vNet, rows, hB, hN⟩, hS, hP⟩ := hY.ex
  have l1 := hS.l1
  have l2 := hS.l2
  have hsb : s < sb.length := by omega
  obtain ⟨a, cap, hv, hg⟩ := ptrs_cells hS.own
  obtain ⟨g, rfl, hp⟩ := hg s hsb
  have y3 : w.cell? ⟨q, 3, none⟩ = some (.slice (some ⟨g, 0, none⟩) sb.length cap) := by rw [hB.cell, hv]; rfl
  rw [l1] at y3
  have hst := hS.all s hsb hs
  have hsk := hok.sk r.segs[s] (List.getElem_mem hs)
  obtain ⟨vE, vL, vN, sB, sE, sL, sN⟩ := hst.ex
  have HE : Hid (∀ W, Below w.heap.size w W → Calls Tryz.prog 82 #[.pointer (some ⟨sb[s], 0, none⟩)] W fun e w' => e = .returned (.int .i64 r.segs[s].epoch) ∧ Below W.heap.size W w') := hide fun W hW =>
    have ev : Evo k k noC w W := Evo.of_below hW
    epoch_any ((sB.evo ev (noC_not _)).cell 1) (sE.evo ev (noC_not _)) hsk.e0 hsk.el
  have HC : Hid (∀ W, Below w.heap.size w W → Calls Tryz.prog 92 #[.pointer (some ⟨sb[s], 0, none⟩)] W fun e w' => e = .returned (.int .i64 (sclOf r.segs[s].entries)) ∧ Below W.heap.size W w') := hide fun W hW =>
    have ev : Evo k k noC w W := Evo.of_below hW
    scl_any ((sB.evo ev (noC_not _)).cell 3) (sN.evo ev (noC_not _)) hsk.nl
  have HS : Hid (∀ W, Below w.heap.size w W → Calls Tryz.prog 67 #[.pointer (some ⟨q, 0, none⟩), .agg #[.int .i64 4, .int .i64 s, .int .i64 r.segs[s].epoch, .int .i64 r.segs[s].epoch, .int .i64 0, .int .i64 0, .int .i64 (sclOf r.segs[s].entries), .slice none 0 0, .slice none 0 0]] W fun e w' => e = .returned (.tuple #[]) ∧
      ∃ k', Evo k k' (fun c => c = cY ∨ c = cNet) W w' ∧ YVol k' w' q (r.send (statusMsg s r.segs[s]))) := hide fun W hW =>
    refSend_any (statusMsg s r.segs[s]) (hY0.evo (Evo.of_below (C := noC) hW) (noC_not _) (fun c _ _ => noC_not c)) hok.nl (Rows.nil _ _ _ _ _) (Rows.nil _ _ _ _ _)
  have hs6 : (s : Int) < 6 := by omega
  clear hg hst sB sE sL sN hsk hB hN hS hP hv
  generalize sb[s] = g2 at *
  go_enter Tryz.func90, Tryz.ntmps90
  go_wp2_with fail
  refine (HE.out _ (Below.refl _ _)).mono ?_
  rintro e1 w1 ⟨rfl, hb1⟩
  go_wp2_with fail
  refine (HC.out _ hb1).mono ?_
  rintro e1 w2 ⟨rfl, hb2⟩
  have bw2 : Below w.heap.size w w2 := hb1.trans (hb2.mono hb1.size)
  go_wp2_with fail
  refine (HS.out _ bw2).mono ?_
  rintro e1 w3 ⟨rfl, k', ev, hY'⟩
  go_wp2_with fail
  go_end0
  exact ⟨rfl, k', (Evo.of_below bw2).trans ev, hY'⟩
end Go.Proofs.YtfpbkghcjaonlaaGreat

/-
  sixfoldref: Restart, Crash, Gossip.
-/
namespace Go.Proofs.YtfpbkghcjaonlaaGreat
open Go.RowKit

/-- What every call on a segment needs. -/
theorem seg_open {k : Nat → Nat} {w : World} {q : Nat} {r : RVol} (hY : YVol k w q r) (s : Nat) (hs : s < 6) :
    ∃ vSegs vPens sb pb g cap vNet rows, YNet k w q r.wi r.fl vSegs vPens r.net ∧ SegsIs k w vSegs sb r.segs ∧ PensIs k w vPens pb r.pens ∧ Blk k w cY q 84 [.int .i64 r.wi, .int .i64 r.fl, vNet, vSegs, vPens] ∧ NetIs k w vNet r.net rows ∧
      sb.length = 6 ∧ w.cell? ⟨q, 3, none⟩ = some (.slice (some ⟨g, 0, none⟩) 6 cap) ∧ ∃ (h1 : s < sb.length) (h2 : s < r.segs.length), w.cell? ⟨g, s, none⟩ = some (.pointer (some ⟨sb[s], 0, none⟩)) ∧ StoreIs k w (cS s) sb[s] r.segs[s] := by
  obtain ⟨vSegs, vPens, sb, pb, ⟨vNet, rows, hB, hN⟩, hS, hP⟩ := hY.ex
  have l1 := hS.l1
  have l2 := hS.l2
  obtain ⟨a, cap, hv, hg⟩ := ptrs_cells hS.own
  obtain ⟨g, rfl, hp⟩ := hg s (by omega)
  refine ⟨vSegs, vPens, sb, pb, g, cap, vNet, rows, ⟨vNet, rows, hB, hN⟩, hS, hP, hB, hN, l1, ?_, by omega, by omega, hp, hS.all s (by omega) (by omega)⟩
  rw [hB.cell, hv, l1]; rfl

def badSeg (s : Int) : Bool := decide (s < 0) || decide (5 < s)

def RVol.restart (r : RVol) (s : Int) : RVol × Int :=
  if s < 0 then (r, 11) else match r.segs[s.toNat]? with
  | none => (r, 11)
  | some g => if g.up then (r, 10) else ({ r with segs := r.segs.set s.toNat { g with up := true } }, 0)

set_option maxHeartbeats 1000000 in
theorem refRestart_any {k : Nat → Nat} {w : World} {q : Nat} {r : RVol} (n : Int) (hY : YVol k w q r) :
    Calls Tryz.prog 43 #[.pointer (some ⟨q, 0, none⟩), .int .i64 n] w fun e w' => e = .returned (.int .i64 (r.restart n).2) ∧ ∃ k', Evo k k' cRef w w' ∧ YVol k' w' q (r.restart n).1 := by
  have hl2 : r.segs.length = 6 := by obtain ⟨_, _, _, _, _, hS, _⟩ := hY.ex; exact hS.l2
  by_cases h0 : n < 0
  · have HE : Hid (r.restart n = (r, 11)) := hide (by unfold RVol.restart; rw [if_pos h0])
    have d0 : decide (n < 0) = true := by simpa using h0
    go_enter Tryz.func43, Tryz.ntmps43
    go_wp2
    go_ret
    exact ⟨by rw [HE.out]; rfl, k, Evo.refl _ _ _, by rw [HE.out]; exact hY⟩
  · have d0 : decide (n < 0) = false := by simpa using h0
    by_cases h5 : 5 < n
    · have HE : Hid (r.restart n = (r, 11)) := hide (by unfold RVol.restart; rw [if_neg h0, List.getElem?_eq_none (by omega)])
      go_enter Tryz.func43, Tryz.ntmps43
      go_wp2
      go_ret
      exact ⟨by rw [HE.out]; rfl, k, Evo.refl _ _ _, by rw [HE.out]; exact hY⟩
    · obtain ⟨s, rfl⟩ := Int.eq_ofNat_of_zero_le (show 0 ≤ n by omega)
      obtain ⟨vSegs, vPens, sb, pb, g, cap, vNet, rows, hN, hS, hP, _, _, l1, y3, h1, h2, hp, hst⟩ := seg_open hY s (by omega)
      obtain ⟨vE, vL, vN, sB, sE, sL, sN⟩ := hst.ex
      have c0 : w.cell? ⟨sb[s], 0, none⟩ = some (.bool r.segs[s].up) := sB.cell 0
      have f0 := sB.free 0
      have hs6 : (s : Int) < 6 := by omega
      have h50 : decide ((5 : Int) < (s : Int)) = false := by simp; omega
      cases hu : r.segs[s].up
      · rw [hu] at c0
        have HE : Hid (r.restart (s : Int) = ({ r with segs := r.segs.set s { r.segs[s] with up := true } }, 0)) := hide (by
          unfold RVol.restart; rw [if_neg h0, Int.toNat_natCast, List.getElem?_eq_getElem h2]; simp [hu])
        have ev : Evo k k (fun c => c = cS s) w (w.setCell ⟨sb[s], 0, none⟩ (.bool true)) := (Evo.refl _ _ _).setCell _ _ (fun _ => sB.2)
        have hst' : StoreIs k (w.setCell ⟨sb[s], 0, none⟩ (.bool true)) (cS s) sb[s] { r.segs[s] with up := true } := ⟨vE, vL, vN, sB.set 0 _, sE.evo ev (by omega), sL.evo ev (by omega) (by unfold cS IM; omega), sN.evo ev (by omega)⟩
        have hY' := YVol.set_seg hN hS hP s h1 ev (fun c h => by omega) hst'
        clear hu hN hS hP hst sB sE sL sN
        go_enter Tryz.func43, Tryz.ntmps43
        go_wp2
        go_ret
        exact ⟨by rw [HE.out]; rfl, k, ev.mono (fun c h => by unfold cS at h; unfold cRef; omega), by rw [HE.out]; exact hY'⟩
      · rw [hu] at c0
        have HE : Hid (r.restart (s : Int) = (r, 10)) := hide (by
          unfold RVol.restart; rw [if_neg h0, Int.toNat_natCast, List.getElem?_eq_getElem h2]; simp [hu])
        clear hu hN hS hP hst sB sE sL sN
        go_enter Tryz.func43, Tryz.ntmps43
        go_wp2
        go_ret
        exact ⟨by rw [HE.out]; rfl, k, Evo.refl _ _ _, by rw [HE.out]; exact hY⟩

/-- A loop over a segment's records in which some are turned: f, cell j of each. -/
def mapUp (f : Ent → Ent) (l : List Ent) (n : Nat) : List Ent := (l.take n).map f ++ l.drop n
theorem mapUp_at (f : Ent → Ent) (l : List Ent) (j : Nat) (h : j < l.length) : (mapUp f l j)[j]'(by simp [mapUp]; omega) = l[j] := by
  unfold mapUp
  rw [List.getElem_append_right (by simp; omega)]
  simp [show min j l.length = j from by omega]
theorem mapUp_succ (f : Ent → Ent) (l : List Ent) (j : Nat) (h : j < l.length) : mapUp f l (j + 1) = (mapUp f l j).set j (f l[j]) := by
  unfold mapUp
  rw [List.set_append_right _ _ (by simp; omega)]
  simp only [List.length_map, List.length_take]
  rw [show j - min j l.length = 0 from by omega, List.drop_eq_getElem_cons h, List.set_cons_zero, List.take_succ_eq_append_getElem h, List.map_append]
  simp
theorem mapUp_same {f : Ent → Ent} {l : List Ent} {j : Nat} (h : j < l.length) (hf : f l[j] = l[j]) : mapUp f l (j + 1) = mapUp f l j := by
  rw [mapUp_succ f l j h, hf]
  have e : l[j] = (mapUp f l j)[j]'(by simp [mapUp]; omega) := by rw [mapUp_at f l j h]
  rw [e, List.set_getElem_self]
theorem mapUp_len (f : Ent → Ent) (l : List Ent) (j : Nat) : (mapUp f l j).length = l.length := by simp [mapUp]; omega
theorem mapUp_all (f : Ent → Ent) (l : List Ent) : mapUp f l l.length = l.map f := by simp [mapUp]

def crashE (e : Ent) : Ent := if e.kept then e else { e with gone := true }
def RVol.crash (r : RVol) (s : Int) : RVol × Int :=
  if s < 0 then (r, 11) else match r.segs[s.toNat]? with
  | none => (r, 11)
  | some g => if g.up then ({ r with segs := r.segs.set s.toNat { g with up := false, entries := g.entries.map crashE } }, 0) else (r, 9)

set_option maxHeartbeats 4000000 in
theorem refCrash_any {k : Nat → Nat} {w : World} {q : Nat} {r : RVol} (n : Int) (hY : YVol k w q r) (hok : YOk r) :
    Calls Tryz.prog 41 #[.pointer (some ⟨q, 0, none⟩), .int .i64 n] w fun e w' => e = .returned (.int .i64 (r.crash n).2) ∧ ∃ k', Evo k k' cRef w w' ∧ YVol k' w' q (r.crash n).1 := by
  have hl2 : r.segs.length = 6 := by obtain ⟨_, _, _, _, _, hS, _⟩ := hY.ex; exact hS.l2
  by_cases h0 : n < 0
  · have HE : Hid (r.crash n = (r, 11)) := hide (by unfold RVol.crash; rw [if_pos h0])
    have d0 : decide (n < 0) = true := by simpa using h0
    go_enter Tryz.func41, Tryz.ntmps41
    go_wp2
    go_ret
    exact ⟨by rw [HE.out]; rfl, k, Evo.refl _ _ _, by rw [HE.out]; exact hY⟩
  · have d0 : decide (n < 0) = false := by simpa using h0
    by_cases h5 : 5 < n
    · have HE : Hid (r.crash n = (r, 11)) := hide (by unfold RVol.crash; rw [if_neg h0, List.getElem?_eq_none (by omega)])
      go_enter Tryz.func41, Tryz.ntmps41
      go_wp2
      go_ret
      exact ⟨by rw [HE.out]; rfl, k, Evo.refl _ _ _, by rw [HE.out]; exact hY⟩
    · obtain ⟨s, rfl⟩ := Int.eq_ofNat_of_zero_le (show 0 ≤ n by omega)
      obtain ⟨vSegs, vPens, sb, pb, g, cap, vNet, rows, hN, hS, hP, _, _, l1, y3, h1, h2, hp, hst⟩ := seg_open hY s (by omega)
      have hsk := hok.sk r.segs[s] (List.getElem_mem h2)
      obtain ⟨vE, vL, vN, sB, sE, sL, sN⟩ := hst.ex
      have c0 : w.cell? ⟨sb[s], 0, none⟩ = some (.bool r.segs[s].up) := sB.cell 0
      have f0 := sB.free 0
      have hs6 : (s : Int) < 6 := by omega
      have h50 : decide ((5 : Int) < (s : Int)) = false := by simp; omega
      cases hu : r.segs[s].up
      · rw [hu] at c0
        have HE : Hid (r.crash (s : Int) = (r, 9)) := hide (by
          unfold RVol.crash; rw [if_neg h0, Int.toNat_natCast, List.getElem?_eq_getElem h2]; simp [hu])
        clear hu hN hS hP hst sB sE sL sN
        go_enter Tryz.func41, Tryz.ntmps41
        go_wp2
        go_ret
        exact ⟨by rw [HE.out]; rfl, k, Evo.refl _ _ _, by rw [HE.out]; exact hY⟩
      · rw [hu] at c0
        have HE : Hid (r.crash (s : Int) = ({ r with segs := r.segs.set s { r.segs[s] with up := false, entries := r.segs[s].entries.map crashE } }, 0)) := hide (by
          unfold RVol.crash; rw [if_neg h0, Int.toNat_natCast, List.getElem?_eq_getElem h2]; simp [hu])
        have hnl := hsk.nl
        have ev0 : Evo k k (fun c => c = cS s ∨ c = cS s + 3) w (w.setCell ⟨sb[s], 0, none⟩ (.bool false)) := (Evo.refl _ _ _).setCell _ _ (fun _ => .inl sB.2)
        have sB1 := sB.set 0 (.bool false)
        have sN1 := sN.other ⟨sb[s], 0, none⟩ (.bool false) (by show k sb[s] ≠ _; rw [sB.2]; omega)
        generalize hen : r.segs[s].entries = en at *
        have HEN := hide hen
        clear hu hen
        go_enter Tryz.func41, Tryz.ntmps41
        go_wp2
        go_loopw [6] (fun i wr => ∃ j : Nat, j ≤ en.length ∧ i = .int .i64 j ∧ Hid (Evo k k (fun c => c = cS s ∨ c = cS s + 3) w wr ∧ Blk k wr (cS s) sb[s] 89 [.bool false, vE, vL, vN] ∧ Rows k wr (cS s + 3) 141 5 vN ((mapUp crashE en j).map entRow))) (fun i _ => en.length - (intOf i).toNat)
        case atStart => exact ⟨0, Nat.zero_le _, rfl, hide ⟨ev0, sB1, by simpa [mapUp] using sN1⟩⟩
        case round =>
          obtain ⟨j, hj, rfl, hst⟩ := hrel
          obtain ⟨ev, hB, hR⟩ := hst.out
          have y3 : wr.cell? ⟨sb[s], 3, none⟩ = some vN := hB.cell 3
          obtain ⟨a, cp, hv, hcells⟩ := ents_cells hR
          rw [mapUp_len] at hv
          subst hv
          by_cases hlt : j < en.length
          · obtain ⟨gb, rfl, hcol, _, _, _, q3, q4, hf⟩ := hcells j (by rw [mapUp_len]; exact hlt)
            rw [mapUp_at crashE en j hlt] at q3 q4
            have hf4 := hf (j * 5 + 4)
            clear hcells hf hst
            cases hk : en[j].kept
            · rw [hk] at q3
              have hce : crashE en[j] = { en[j] with gone := true } := by unfold crashE; rw [if_neg (by simp [hk])]
              have HS : Hid (mapUp crashE en (j + 1) = (mapUp crashE en j).set j { (mapUp crashE en j)[j]'(by rw [mapUp_len]; exact hlt) with gone := true }) := hide (by
                rw [mapUp_succ crashE en j hlt, mapUp_at crashE en j hlt, hce])
              clear hce
              clear hk
              go_wp2_with fail
              go_roundw
              case rel =>
                have hs := hR.set j 4 (by simp [mapUp_len]; omega) (by omega) (.bool true)
                refine ⟨j + 1, by omega, by go_num, hide ⟨ev.setCell _ _ (fun _ => .inr hcol), hB.other _ _ (fun e => by have := hB.2; rw [e] at this; have h9 : k gb = cS s := this; omega), ?_⟩⟩
                rw [HS.out, List.map_set]
                simpa [entRow] using hs
              case measure => simp [intOf]; omega
            · rw [hk] at q3
              have HS := hide (mapUp_same (f := crashE) hlt (by unfold crashE; rw [hk]; rfl))
              clear hk
              go_wp2_with fail
              go_roundw
              case rel => exact ⟨j + 1, by omega, by go_num, hide ⟨ev, hB, by rw [HS.out]; exact hR⟩⟩
              case measure => simp [intOf]; omega
          · have hje : j = en.length := by omega
            go_wp2
            go_ret
            rw [hje, mapUp_all] at hR
            have hst' : StoreIs k wr (cS s) sb[s] { r.segs[s] with up := false, entries := en.map crashE } := ⟨vE, vL, _, hB, sE.evo ev (by omega), sL.evo ev (by omega) (by unfold cS IM; omega), hR⟩
            have hY' := YVol.set_seg hN hS hP s h1 ev (fun c h => by omega) hst'
            exact ⟨by rw [HE.out]; rfl, k, ev.mono (fun c h => by unfold cS at h; unfold cRef; omega), by rw [HE.out]; exact hY'⟩
end Go.Proofs.YtfpbkghcjaonlaaGreat

/-
  sixfoldref: Sync.
-/
namespace Go.Proofs.YtfpbkghcjaonlaaGreat
open Go.RowKit

def syncE (e : Ent) : Ent := if e.gone then e else { e with kept := true }
def RVol.synced (r : RVol) (s : Nat) : RVol := match r.segs[s]? with | some g => { r with segs := r.segs.set s { g with entries := g.entries.map syncE } } | none => r
def RVol.after (r : RVol) (s : Nat) : RVol := match r.segs[s]? with | some g => if g.epoch ≠ 0 ∧ topOf g.cuts = g.epoch then r.send (statusMsg s g) else r | none => r
def RVol.sync (r : RVol) (s : Int) : RVol × Int :=
  if s < 0 then (r, 11) else match r.segs[s.toNat]? with
  | none => (r, 11)
  | some g => if g.up then ((r.synced s.toNat).after s.toNat, 0) else (r, 9)

theorem YOk.set_seg {r : RVol} (h : YOk r) (i : Nat) (g : RSeg) (hg : StoreOk g) : YOk { r with segs := r.segs.set i g } :=
  ⟨h.nl, h.nk, fun s hs => by
    rcases List.mem_or_eq_of_mem_set hs with hs | rfl
    · exact h.sk s hs
    · exact hg, h.pk⟩

set_option maxHeartbeats 4000000 in
theorem refSync_any {k : Nat → Nat} {w : World} {q : Nat} {r : RVol} (n : Int) (hY : YVol k w q r) (hok : YOk r) :
    Calls Tryz.prog 37 #[.pointer (some ⟨q, 0, none⟩), .int .i64 n] w fun e w' => e = .returned (.int .i64 (r.sync n).2) ∧ ∃ k', Evo k k' cRef w w' ∧ YVol k' w' q (r.sync n).1 := by
  have hl2 : r.segs.length = 6 := by obtain ⟨_, _, _, _, _, hS, _⟩ := hY.ex; exact hS.l2
  by_cases h0 : n < 0
  · have HE : Hid (r.sync n = (r, 11)) := hide (by unfold RVol.sync; rw [if_pos h0])
    have d0 : decide (n < 0) = true := by simpa using h0
    go_enter Tryz.func37, Tryz.ntmps37
    go_wp2
    go_ret
    exact ⟨by rw [HE.out]; rfl, k, Evo.refl _ _ _, by rw [HE.out]; exact hY⟩
  · have d0 : decide (n < 0) = false := by simpa using h0
    by_cases h5 : 5 < n
    · have HE : Hid (r.sync n = (r, 11)) := hide (by unfold RVol.sync; rw [if_neg h0, List.getElem?_eq_none (by omega)])
      go_enter Tryz.func37, Tryz.ntmps37
      go_wp2
      go_ret
      exact ⟨by rw [HE.out]; rfl, k, Evo.refl _ _ _, by rw [HE.out]; exact hY⟩
    · obtain ⟨s, rfl⟩ := Int.eq_ofNat_of_zero_le (show 0 ≤ n by omega)
      obtain ⟨vSegs, vPens, sb, pb, g, cap, vNet, rows, hN, hS, hP, _, _, l1, y3, h1, h2, hp, hst⟩ := seg_open hY s (by omega)
      have hsk := hok.sk r.segs[s] (List.getElem_mem h2)
      obtain ⟨vE, vL, vN, sB, sE, sL, sN⟩ := hst.ex
      have c0 : w.cell? ⟨sb[s], 0, none⟩ = some (.bool r.segs[s].up) := sB.cell 0
      have f0 := sB.free 0
      have hs6 : (s : Int) < 6 := by omega
      have h50 : decide ((5 : Int) < (s : Int)) = false := by simp; omega
      cases hu : r.segs[s].up
      · rw [hu] at c0
        have HE : Hid (r.sync (s : Int) = (r, 9)) := hide (by
          unfold RVol.sync; rw [if_neg h0, Int.toNat_natCast, List.getElem?_eq_getElem h2]; simp [hu])
        clear hu hN hS hP hst sB sE sL sN
        go_enter Tryz.func37, Tryz.ntmps37
        go_wp2
        go_ret
        exact ⟨by rw [HE.out]; rfl, k, Evo.refl _ _ _, by rw [HE.out]; exact hY⟩
      · rw [hu] at c0
        have HE : Hid (r.sync (s : Int) = ((r.synced s).after s, 0)) := hide (by
          unfold RVol.sync; rw [if_neg h0, Int.toNat_natCast, List.getElem?_eq_getElem h2]; simp [hu])
        have HRS : Hid (r.synced s = { r with segs := r.segs.set s { r.segs[s] with entries := r.segs[s].entries.map syncE } }) := hide (by unfold RVol.synced; rw [List.getElem?_eq_getElem h2])
        have hnl := hsk.nl
        have hu2 := hu
        generalize hen : r.segs[s].entries = en at *
        have HEN := hide hen
        have HU := hide hu2
        clear hu hen hu2
        go_enter Tryz.func37, Tryz.ntmps37
        go_wp2
        go_loopw [6] (fun i wr => ∃ j : Nat, j ≤ en.length ∧ i = .int .i64 j ∧ Hid (Evo k k (fun c => c = cS s + 3) w wr ∧ Blk k wr (cS s) sb[s] 89 [.bool true, vE, vL, vN] ∧ Rows k wr (cS s + 3) 141 5 vN ((mapUp syncE en j).map entRow))) (fun i _ => en.length - (intOf i).toNat)
        case atStart => exact ⟨0, Nat.zero_le _, rfl, hide ⟨Evo.refl _ _ _, by rw [← HU.out]; exact sB, by simpa [mapUp] using sN⟩⟩
        case round =>
          obtain ⟨j, hj, rfl, hst⟩ := hrel
          obtain ⟨ev, hB, hR⟩ := hst.out
          have y3 : wr.cell? ⟨sb[s], 3, none⟩ = some vN := hB.cell 3
          obtain ⟨a, cp, hv, hcells⟩ := ents_cells hR
          rw [mapUp_len] at hv
          subst hv
          by_cases hlt : j < en.length
          · obtain ⟨gb, rfl, hcol, _, _, _, q3, q4, hf⟩ := hcells j (by rw [mapUp_len]; exact hlt)
            rw [mapUp_at syncE en j hlt] at q3 q4
            have hf4 := hf (j * 5 + 3)
            clear hcells hf hst
            cases hk : en[j].gone
            · rw [hk] at q4
              have hce : syncE en[j] = { en[j] with kept := true } := by unfold syncE; rw [if_neg (by simp [hk])]
              have HS : Hid (mapUp syncE en (j + 1) = (mapUp syncE en j).set j { (mapUp syncE en j)[j]'(by rw [mapUp_len]; exact hlt) with kept := true }) := hide (by
                rw [mapUp_succ syncE en j hlt, mapUp_at syncE en j hlt, hce])
              clear hce
              clear hk
              go_wp2_with fail
              go_roundw
              case rel =>
                have hs := hR.set j 3 (by simp [mapUp_len]; omega) (by omega) (.bool true)
                refine ⟨j + 1, by omega, by go_num, hide ⟨ev.setCell _ _ (fun _ => hcol), hB.other _ _ (fun e => by have := hB.2; rw [e] at this; have h9 : k gb = cS s := this; omega), ?_⟩⟩
                rw [HS.out, List.map_set]
                simpa [entRow] using hs
              case measure => simp [intOf]; omega
            · rw [hk] at q4
              have HS := hide (mapUp_same (f := syncE) hlt (by unfold syncE; rw [hk]; rfl))
              clear hk
              go_wp2_with fail
              go_roundw
              case rel => exact ⟨j + 1, by omega, by go_num, hide ⟨ev, hB, by rw [HS.out]; exact hR⟩⟩
              case measure => simp [intOf]; omega
          · have hje : j = en.length := by omega
            rw [hje, mapUp_all] at hR
            have hd : decide ((j : Int) < (en.length : Int)) = false := by simp; omega
            have sE' := sE.evo ev (by omega)
            have sL' := sL.evo ev (by omega) (by unfold cS IM; omega)
            have hst' : StoreIs k wr (cS s) sb[s] { r.segs[s] with entries := en.map syncE } := ⟨vE, vL, _, by rw [HU.out]; exact hB, sE', sL', hR⟩
            have hY' := YVol.set_seg hN hS hP s h1 ev (fun c h => by omega) hst'
            rw [← HRS.out] at hY'
            have hepo := epoch_any (hB.cell 1) sE' hsk.e0 hsk.el
            have hevR : Evo k k cRef w wr := ev.mono (fun c h => by unfold cS at h; unfold cRef; omega)
            have hok' : YOk (r.synced s) := by rw [HRS.out]; exact hok.set_seg s { r.segs[s] with entries := en.map syncE } ⟨hsk.e0, hsk.el, hsk.l0, hsk.ll, hsk.lk, by simpa using hnl⟩
            have hs2 : s < (r.synced s).segs.length := by rw [HRS.out]; simpa using h2
            have hseg : (r.synced s).segs[s] = { r.segs[s] with entries := en.map syncE } := by simp only [HRS.out]; simp
            have hep2 : (r.synced s).segs[s].epoch = r.segs[s].epoch := by rw [hseg]; rfl
            have hcu2 : (r.synced s).segs[s].cuts = r.segs[s].cuts := by rw [hseg]; rfl
            have HK := hide hepo
            have HLs : Hid (∀ W, Below wr.heap.size wr W → Calls Tryz.prog 89 #[.pointer (some ⟨sb[s], 0, none⟩)] W fun e w' => (∃ z, e = .returned z ∧ CutsIm k wr z r.segs[s].cuts) ∧ Below W.heap.size W w') := hide fun W hW => list_in hW (hB.cell 2) sL' hsk.l0 hsk.ll
            have HST : Hid (∀ W, Below wr.heap.size wr W → Calls Tryz.prog 90 #[.pointer (some ⟨q, 0, none⟩), .int .i64 s] W fun e w' => e = .returned (.tuple #[]) ∧ ∃ k', Evo k k' (fun c => c = cY ∨ c = cNet) W w' ∧ YVol k' w' q ((r.synced s).send (statusMsg s (r.synced s).segs[s]))) := hide fun W hW =>
              refStatus_any s hs2 (hY'.evo (Evo.of_below (C := noC) hW) (noC_not _) (fun c _ _ => noC_not c)) hok'
            have hcl : r.segs[s].cuts.length ≤ 1000 := by
              unfold RSeg.cuts
              rw [List.getLastD_eq_getLast?]
              cases hx : r.segs[s].lists.getLast? with
              | none => simp
              | some l => exact hsk.lk l (List.mem_of_getLast? hx)
            have HAF : Hid ((r.synced s).after s = if r.segs[s].epoch ≠ 0 ∧ topOf r.segs[s].cuts = r.segs[s].epoch then (r.synced s).send (statusMsg s (r.synced s).segs[s]) else r.synced s) := hide (by
              unfold RVol.after; rw [List.getElem?_eq_getElem hs2]; simp only [hep2, hcu2])
            have hep3 : r.segs[s].epochs.getLastD 0 = r.segs[s].epoch := rfl
            rw [hep3] at HK
            clear hst hje hR hst' hepo hep2 hcu2 hseg hep3 sB sE sL sN
            generalize r.segs[s].epoch = ep at *
            generalize r.segs[s].cuts = cu at *
            by_cases hz : ep = 0
            · have hz' : (ep != 0) = false := by simp [hz]
              have HAF2 : Hid ((r.synced s).after s = r.synced s) := hide (by rw [HAF.out, if_neg (by simp [hz])])
              clear hz HAF
              go_wp2_with fail
              refine HK.out.mono ?_
              rintro e1 w1 ⟨rfl, hb1⟩
              go_wp2_with fail
              go_ret
              exact ⟨by rw [HE.out]; rfl, k, hevR.trans (Evo.of_below hb1), by rw [HE.out]; show YVol _ _ _ ((r.synced s).after s); rw [HAF2.out]; exact (hY'.evo (Evo.of_below (C := noC) hb1) (noC_not _) (fun c _ _ => noC_not c))⟩
            · have hz' : (ep != 0) = true := by simp [hz]
              by_cases ht : topOf cu = ep
              · have ht' : (topOf cu == ep) = true := by simp [ht]
                have HAF2 : Hid ((r.synced s).after s = (r.synced s).send (statusMsg s (r.synced s).segs[s])) := hide (by rw [HAF.out, if_pos ⟨hz, ht⟩])
                clear hz HAF ht
                go_wp2_with fail
                refine HK.out.mono ?_
                rintro e1 w1 ⟨rfl, hb1⟩
                go_wp2_with fail
                refine (HLs.out _ hb1).mono ?_
                rintro e1 w2 ⟨⟨z, rfl, hz3⟩, hb2⟩
                have bw2 : Below wr.heap.size wr w2 := hb1.trans (hb2.mono hb1.size)
                obtain ⟨z0, z1, z2, hzz⟩ := Rows.shape hz3
                subst hzz
                have HT := hide (top_any (Rows.evo hz3 (Evo.of_below (C := noC) bw2) (noC_not _)) (by omega))
                go_wp2_with fail
                refine HT.out.mono ?_
                rintro e1 w3 ⟨rfl, hw⟩
                subst hw
                go_wp2_with fail
                refine (HST.out _ bw2).mono ?_
                rintro e1 w4 ⟨rfl, k4, ev4, hY4⟩
                go_wp2_with fail
                go_ret
                exact ⟨by rw [HE.out]; rfl, k4, (hevR.trans (Evo.of_below bw2)).trans (ev4.mono (fun c h => cRef_of h)), by rw [HE.out]; exact HAF2.out ▸ hY4⟩
              · have ht' : (topOf cu == ep) = false := by simp [ht]
                have HAF2 : Hid ((r.synced s).after s = r.synced s) := hide (by rw [HAF.out, if_neg (fun h => ht h.2)])
                clear hz HAF ht
                go_wp2_with fail
                refine HK.out.mono ?_
                rintro e1 w1 ⟨rfl, hb1⟩
                go_wp2_with fail
                refine (HLs.out _ hb1).mono ?_
                rintro e1 w2 ⟨⟨z, rfl, hz3⟩, hb2⟩
                have bw2 : Below wr.heap.size wr w2 := hb1.trans (hb2.mono hb1.size)
                obtain ⟨z0, z1, z2, hzz⟩ := Rows.shape hz3
                subst hzz
                have HT := hide (top_any (Rows.evo hz3 (Evo.of_below (C := noC) bw2) (noC_not _)) (by omega))
                go_wp2_with fail
                refine HT.out.mono ?_
                rintro e1 w3 ⟨rfl, hw⟩
                subst hw
                go_wp2_with fail
                go_ret
                exact ⟨by rw [HE.out]; rfl, k, hevR.trans (Evo.of_below bw2), by rw [HE.out]; show YVol _ _ _ ((r.synced s).after s); rw [HAF2.out]; exact (hY'.evo (Evo.of_below (C := noC) bw2) (noC_not _) (fun c _ _ => noC_not c))⟩
end Go.Proofs.YtfpbkghcjaonlaaGreat

/-
  sixfoldref: Gossip, may.
-/
namespace Go.Proofs.YtfpbkghcjaonlaaGreat
open Go.RowKit

def needMsg (a b : Int) (n : Nat) : Msg := ⟨7, a, b, 0, (n : Int) + 1, 0, 0, [], []⟩
def RVol.gossip (r : RVol) (a b : Int) : RVol × Int :=
  if a < 0 ∨ 5 < a ∨ b < 0 ∨ 5 < b ∨ a = b then (r, 11) else match r.segs[a.toNat]? with
  | none => (r, 11)
  | some g => if g.up then (r.send (needMsg a b (sclOf g.entries)), 0) else (r, 9)

set_option maxHeartbeats 2000000 in
theorem refGossip_any {k : Nat → Nat} {w : World} {q : Nat} {r : RVol} (n m : Int) (hY : YVol k w q r) (hok : YOk r) :
    Calls Tryz.prog 39 #[.pointer (some ⟨q, 0, none⟩), .int .i64 n, .int .i64 m] w fun e w' => e = .returned (.int .i64 (r.gossip n m).2) ∧ ∃ k', Evo k k' cRef w w' ∧ YVol k' w' q (r.gossip n m).1 := by
  have hl2 : r.segs.length = 6 := by obtain ⟨_, _, _, _, _, hS, _⟩ := hY.ex; exact hS.l2
  by_cases hbad : n < 0 ∨ 5 < n ∨ m < 0 ∨ 5 < m ∨ n = m
  · have HE : Hid (r.gossip n m = (r, 11)) := hide (by unfold RVol.gossip; rw [if_pos hbad])
    by_cases h1 : n < 0
    · have d1 : decide (n < 0) = true := by simpa using h1
      clear hbad
      go_enter Tryz.func39, Tryz.ntmps39
      go_wp2
      go_ret
      exact ⟨by rw [HE.out]; rfl, k, Evo.refl _ _ _, by rw [HE.out]; exact hY⟩
    · have d1 : decide (n < 0) = false := by simpa using h1
      by_cases h2 : 5 < n
      · have d2 : decide (5 < n) = true := by simpa using h2
        clear hbad
        go_enter Tryz.func39, Tryz.ntmps39
        go_wp2
        go_ret
        exact ⟨by rw [HE.out]; rfl, k, Evo.refl _ _ _, by rw [HE.out]; exact hY⟩
      · have d2 : decide (5 < n) = false := by simpa using h2
        by_cases h3 : m < 0
        · have d3 : decide (m < 0) = true := by simpa using h3
          clear hbad
          go_enter Tryz.func39, Tryz.ntmps39
          go_wp2
          go_ret
          exact ⟨by rw [HE.out]; rfl, k, Evo.refl _ _ _, by rw [HE.out]; exact hY⟩
        · have d3 : decide (m < 0) = false := by simpa using h3
          by_cases h4 : 5 < m
          · have d4 : decide (5 < m) = true := by simpa using h4
            clear hbad
            go_enter Tryz.func39, Tryz.ntmps39
            go_wp2
            go_ret
            exact ⟨by rw [HE.out]; rfl, k, Evo.refl _ _ _, by rw [HE.out]; exact hY⟩
          · have d4 : decide (5 < m) = false := by simpa using h4
            have h5 : n = m := by omega
            subst h5
            clear hbad
            go_enter Tryz.func39, Tryz.ntmps39
            go_wp2
            go_ret
            exact ⟨by rw [HE.out]; rfl, k, Evo.refl _ _ _, by rw [HE.out]; exact hY⟩
  · obtain ⟨s, rfl⟩ := Int.eq_ofNat_of_zero_le (show 0 ≤ n by omega)
    have d1 : decide ((s : Int) < 0) = false := by simp
    have d2 : decide ((5 : Int) < (s : Int)) = false := by simp; omega
    have d3 : decide (m < 0) = false := by simp; omega
    have d4 : decide (5 < m) = false := by simp; omega
    have d5 : ((s : Int) == m) = false := by simp; omega
    obtain ⟨vSegs, vPens, sb, pb, g, cap, vNet, rows, hN, hS, hP, _, _, l1, y3, h1, h2, hp, hst⟩ := seg_open hY s (by omega)
    have hsk := hok.sk r.segs[s] (List.getElem_mem h2)
    obtain ⟨vE, vL, vN, sB, sE, sL, sN⟩ := hst.ex
    have c0 : w.cell? ⟨sb[s], 0, none⟩ = some (.bool r.segs[s].up) := sB.cell 0
    have hs6 : (s : Int) < 6 := by omega
    have HC := hide (scl_any (sB.cell 3) sN hsk.nl)
    cases hu : r.segs[s].up
    · rw [hu] at c0
      have HE : Hid (r.gossip (s : Int) m = (r, 9)) := hide (by
        unfold RVol.gossip; rw [if_neg hbad, Int.toNat_natCast, List.getElem?_eq_getElem h2]; simp [hu])
      clear hu hN hS hP hst sB sE sL sN hbad
      go_enter Tryz.func39, Tryz.ntmps39
      go_wp2
      go_ret
      exact ⟨by rw [HE.out]; rfl, k, Evo.refl _ _ _, by rw [HE.out]; exact hY⟩
    · rw [hu] at c0
      have HE : Hid (r.gossip (s : Int) m = (r.send (needMsg s m (sclOf r.segs[s].entries)), 0)) := hide (by
        unfold RVol.gossip; rw [if_neg hbad, Int.toNat_natCast, List.getElem?_eq_getElem h2]; simp [hu])
      have hsc : sclOf r.segs[s].entries ≤ r.segs[s].entries.length := sclOf_le _
      have hnl := hsk.nl
      have HS : Hid (∀ W, Below w.heap.size w W → Calls Tryz.prog 67 #[.pointer (some ⟨q, 0, none⟩), .agg #[.int .i64 7, .int .i64 s, .int .i64 m, .int .i64 0, .int .i64 ((sclOf r.segs[s].entries : Int) + 1), .int .i64 0, .int .i64 0, .slice none 0 0, .slice none 0 0]] W fun e w' => e = .returned (.tuple #[]) ∧
          ∃ k', Evo k k' (fun c => c = cY ∨ c = cNet) W w' ∧ YVol k' w' q (r.send (needMsg s m (sclOf r.segs[s].entries)))) := hide fun W hW =>
        refSend_any (needMsg s m (sclOf r.segs[s].entries)) (hY.evo (Evo.of_below (C := noC) hW) (noC_not _) (fun c _ _ => noC_not c)) hok.nl (Rows.nil _ _ _ _ _) (Rows.nil _ _ _ _ _)
      have hscl : sclOf r.segs[s].entries ≤ 4000000000 := by omega
      clear hu hN hS hP hst sB sE sL sN hbad hnl hsc
      generalize sclOf r.segs[s].entries = sc at *
      go_enter Tryz.func39, Tryz.ntmps39
      go_wp2_with fail
      refine HC.out.mono ?_
      rintro e1 w1 ⟨rfl, hb1⟩
      go_wp2_with fail
      refine (HS.out _ hb1).mono ?_
      rintro e1 w2 ⟨rfl, k', ev, hY'⟩
      go_wp2_with fail
      go_ret
      exact ⟨by rw [HE.out]; rfl, k', (Evo.of_below hb1).trans (ev.mono (fun c h => cRef_of h)), by rw [HE.out]; exact hY'⟩
end Go.Proofs.YtfpbkghcjaonlaaGreat
