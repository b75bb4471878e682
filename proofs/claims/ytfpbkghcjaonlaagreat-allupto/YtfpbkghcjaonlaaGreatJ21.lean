import Derived.Test.YtfpbkghcjaonlaaGreatJ20
import Derived.Test.YtfpbkghcjaonlaaGreatJ16
/-
  The program: MFenced at a writer.
-/
namespace Go.Proofs.YtfpbkghcjaonlaaGreat
open Go.RowKit

theorem Tryz.infoNote : (Tryz.prog.info? 164).map (fun i => (i.zero, i.size, i.bytes)) = some (some (.agg #[.int .i64 0, .slice none 0 0, .slice none 0 0]), 3, 56) := by kernel_rfl

/-- What a writer is behind hearing, and what it sends. -/
def HeardSt (k : Nat → Nat) (w w' : World) (c g n cap : Nat) (wrows : List (List Value)) (i : Nat) (x' : XWr) (v0 : Option Addr) (v1 v2 : Nat) (l : List Msg) (v : Value) : Prop :=
  ∃ k' n0 n1 n2 c0 c1 c2, Evo k k' (fun d => d = cXW ∨ d = c) w w' ∧ WrW k' w' g n cap (wrows.set i (wrRow x' (.slice n0 n1 n2) (.slice c0 c1 c2) (.slice v0 v1 v2))) i x' (.slice n0 n1 n2) (.slice c0 c1 c2) (.slice v0 v1 v2) ∧
    NotesIs k' w' c (.slice n0 n1 n2) x'.notes ∧ CutsIm k' w' (.slice c0 c1 c2) x'.cuts ∧ MsgsIs k' w' 0 v l

section
variable {k : Nat → Nat} {w : World} {c g n cap i : Nat} {wrows : List (List Value)} {x : XWr} {n0 c0 v0 : Option Addr} {n1 n2 c1 c2 v1 v2 : Nat}

theorem set_row_same {l : List (List Value)} {i : Nat} {r : List Value} (h : i < l.length) (e : l[i] = r) : l.set i r = l := by subst e; exact List.set_getElem_self h

set_option maxRecDepth 3000 in
set_option maxHeartbeats 4000000 in
/-- Nothing is heard. -/
theorem hearFenced_no (h : WrW k w g n cap wrows i x (.slice n0 n1 n2) (.slice c0 c1 c2) (.slice v0 v1 v2)) (hN : NotesIs k w c (.slice n0 n1 n2) x.notes) (hC : CutsIm k w (.slice c0 c1 c2) x.cuts) (hV : Rows k w (c + 1) 3 1 (.slice v0 v1 v2) (x.values.map intRow)) (hok : XWOk x)
    (m : Msg) (z0 y0 : Option Addr) (z1 z2 y1 y2 : Nat) (hno : x.phase ≠ 1 ∨ x.hasNote m.frm = true) :
    Calls Tryz.prog 128 #[.pointer (some ⟨g, i * 20, none⟩), .agg #[.int .i64 m.kind, .int .i64 m.frm, .int .i64 m.to_, .int .i64 m.epoch, .int .i64 m.lsn, .int .i64 m.value, .int .i64 m.scl, .slice z0 z1 z2, .slice y0 y1 y2]] w fun e w' => e = .returned (.slice none 0 0) ∧ Below w.heap.size w w' := by
  obtain ⟨hk, hl, hc, hf⟩ := h.facts
  have q1 : w.cell? ⟨g, i * 20 + 1, none⟩ = some (.int .i64 x.phase) := hc 1 (by omega)
  have HN : Hid (∀ W, Below w.heap.size w W → Calls Tryz.prog 121 #[.pointer (some ⟨g, i * 20, none⟩), .int .i64 m.frm] W fun e w' => e = .returned (.bool (x.hasNote m.frm)) ∧ Below W.heap.size W w') := hide fun W hW => hasNote_any m.frm ((h.at hN hC hV).below hW) hok.nl
  have hgn : ¬ g = w.heap.size := by omega
  clear hc hf h hN hC hV
  by_cases hp : x.phase = 1
  · have hh : x.hasNote m.frm = true := by rcases hno with h | h; exact absurd hp h; exact h
    rw [hp] at q1
    rw [hh] at HN
    clear hno hp hh
    go_enter Tryz.func128, Tryz.ntmps128
    go_wp2_with fail
    refine (HN.out _ ((Below.refl _ _).alloc (Nat.le_refl _) _)).mono ?_
    rintro e1 w1 ⟨rfl, hb1⟩
    go_wp2_with fail
    go_ret
    exact ⟨rfl, ((Below.refl _ _).alloc (Nat.le_refl _) _).trans (hb1.mono (by simp))⟩
  · have d1 : (x.phase != 1) = true := by simpa using hp
    clear hno hp
    go_enter Tryz.func128, Tryz.ntmps128
    go_wp2_with fail
    go_ret
    exact ⟨rfl, (Below.refl _ _).alloc (Nat.le_refl _) _⟩

set_option maxRecDepth 3000 in
set_option maxHeartbeats 8000000 in
/-- It is noted. -/
theorem hearFenced_yes (h : WrW k w g n cap wrows i x (.slice n0 n1 n2) (.slice c0 c1 c2) (.slice v0 v1 v2)) (hN : NotesIs k w c (.slice n0 n1 n2) x.notes) (hC : CutsIm k w (.slice c0 c1 c2) x.cuts) (hV : Rows k w (c + 1) 3 1 (.slice v0 v1 v2) (x.values.map intRow)) (hok : XWOk x) (hc1 : 110 ≤ c) (hc2 : c < 140)
    (m : Msg) (z0 y0 : Option Addr) (z1 z2 y1 y2 : Nat) (hcz : CutsIm k w (.slice z0 z1 z2) m.cuts) (hmz : IntsIm k w (.slice y0 y1 y2) m.marks) (hmk : MsgOk m) (hp : x.phase = 1) (hh : x.hasNote m.frm = false) (hn3 : x.notes.length ≤ 3) :
    Calls Tryz.prog 128 #[.pointer (some ⟨g, i * 20, none⟩), .agg #[.int .i64 m.kind, .int .i64 m.frm, .int .i64 m.to_, .int .i64 m.epoch, .int .i64 m.lsn, .int .i64 m.value, .int .i64 m.scl, .slice z0 z1 z2, .slice y0 y1 y2]] w fun e w' => ∃ v, e = .returned v ∧ HeardSt k w w' c g n cap wrows i (x.hearFenced m).1 v0 v1 v2 (x.hearFenced m).2 v := by
  obtain ⟨hk, hl, hc, hf⟩ := h.facts
  have q1 : w.cell? ⟨g, i * 20 + 1, none⟩ = some (.int .i64 1) := (hc 1 (by omega)).trans (by rw [← hp]; rfl)
  have HN : Hid (∀ W, Below w.heap.size w W → Calls Tryz.prog 121 #[.pointer (some ⟨g, i * 20, none⟩), .int .i64 m.frm] W fun e w' => e = .returned (.bool false) ∧ Below W.heap.size W w') := hide fun W hW => by
    have := hasNote_any m.frm ((h.at hN hC hV).below hW) hok.nl
    rwa [hh] at this
  have HCp : Hid (∀ W, Below w.heap.size w W → Calls Tryz.prog 118 #[.slice z0 z1 z2] W fun e w' => (∃ z, e = .returned z ∧ Made w' W.heap.size 53 2 z (m.cuts.map cutRow)) ∧ Below W.heap.size W w') := hide fun W hW =>
    copy_any (Rows.evo hcz (Evo.of_below (C := noC) hW) (noC_not _)) (by have := hmk.1; omega)
  have HMk : Hid (∀ W, Below w.heap.size w W → Calls Tryz.prog 122 #[.slice y0 y1 y2] W fun e w' => (∃ z, e = .returned z ∧ Made w' W.heap.size 3 1 z (m.marks.map intRow)) ∧ Below W.heap.size W w') := hide fun W hW =>
    copyMarks_any (Rows.evo hmz (Evo.of_below (C := noC) hW) (noC_not _)) hmk.2
  have hgn : ¬ g = w.heap.size := by omega
  have H0 := hide h
  have HNo := hide hN
  have HCu := hide hC
  have HVa := hide hV
  clear hc hf h hN hC hV hcz hmz
  go_enter Tryz.func128, Tryz.ntmps128
  go_wp2_with fail
  refine (HN.out _ ((Below.refl _ _).alloc (Nat.le_refl _) _)).mono ?_
  rintro e1 w1 ⟨rfl, hb1⟩
  have hB1 : Below w.heap.size w w1 := ((Below.refl _ _).alloc (Nat.le_refl _) _).trans (hb1.mono (by simp))
  have bm : Blk (fun _ => 0) w1 0 w.heap.size 109 [.int .i64 m.kind, .int .i64 m.frm, .int .i64 m.to_, .int .i64 m.epoch, .int .i64 m.lsn, .int .i64 m.value, .int .i64 m.scl, .slice z0 z1 z2, .slice y0 y1 y2] := ⟨(hb1.block w.heap.size (by simp)).trans (heap_alloc_new w _), rfl⟩
  have b1 : w1.cell? ⟨w.heap.size, 1, none⟩ = some (.int .i64 m.frm) := bm.cell 1
  have b7 : w1.cell? ⟨w.heap.size, 7, none⟩ = some (.slice z0 z1 z2) := bm.cell 7
  have b8 : w1.cell? ⟨w.heap.size, 8, none⟩ = some (.slice y0 y1 y2) := bm.cell 8
  have bl := bm.lt
  clear hb1
  go_wp2_with fail
  refine (HCp.out _ (hB1.alloc hB1.size _)).mono ?_
  rintro e2 w2 ⟨⟨zc, rfl, hzc⟩, hb2⟩
  obtain ⟨p0, p1, p2, hs⟩ := made_shape hzc
  subst hs
  have hs2 := hb2.size
  simp only [World.size_alloc] at hs2 hzc hb2
  have hB2 : Below w.heap.size w w2 := (hB1.alloc hB1.size _).trans (hb2.mono (by have := hB1.size; omega))
  have n2' : Blk (fun _ => 0) w2 0 w1.heap.size 164 [.int .i64 m.frm, .slice none 0 0, .slice none 0 0] := ⟨(hb2.block w1.heap.size (by omega)).trans (heap_alloc_new w1 _), rfl⟩
  have bm2 : Blk (fun _ => 0) w2 0 w.heap.size 109 [.int .i64 m.kind, .int .i64 m.frm, .int .i64 m.to_, .int .i64 m.epoch, .int .i64 m.lsn, .int .i64 m.value, .int .i64 m.scl, .slice z0 z1 z2, .slice y0 y1 y2] := ⟨(hb2.block w.heap.size (by omega)).trans ((Below.heap_alloc _ _ _ bl).trans bm.1), rfl⟩
  have hnbw : w.heap.size < w1.heap.size := bl
  generalize hnb : w1.heap.size = nb at *
  have HNB := hide hnb
  clear hnb
  have e1' : w2.cell? ⟨nb, 1, none⟩ = some (.slice none 0 0) := n2'.cell 1
  have ef1 := n2'.free 1
  have el := n2'.lt
  have b8' : w2.cell? ⟨w.heap.size, 8, none⟩ = some (.slice y0 y1 y2) := bm2.cell 8
  have bl2 := bm2.lt
  have hnn : ¬ w.heap.size = nb := by omega
  have hnn2 : ¬ nb = w.heap.size := by omega
  have hB2' : Below w.heap.size w (w2.setCell ⟨nb, 1, none⟩ (.slice p0 p1 p2)) := hB2.setCell (show w.heap.size ≤ nb by omega) _
  have n3' := n2'.set 1 (.slice p0 p1 p2)
  have hzc2 : Made (w2.setCell ⟨nb, 1, none⟩ (.slice p0 p1 p2)) (nb + 1) 53 2 (.slice p0 p1 p2) (m.cuts.map cutRow) := hzc.setCell _ _ (fun he => by have h9 : nb + 1 ≤ nb := (Made.block hzc _ he).1; omega)
  go_wp2_with fail
  refine (HMk.out _ hB2').mono ?_
  rintro e3 w3 ⟨⟨zm, rfl, hzm⟩, hb3⟩
  obtain ⟨r0, r1, r2, hs⟩ := made_shape hzm
  subst hs
  have hs3 := hb3.size
  simp only [World.size_setCell] at hs3 hzm hb3
  have hB3 : Below w.heap.size w w3 := hB2'.trans (hb3.mono (by have := hB2.size; omega))
  have n4' : Blk (fun _ => 0) w3 0 nb 164 [.int .i64 m.frm, .slice p0 p1 p2, .slice none 0 0] := ⟨(hb3.block nb (by omega)).trans n3'.1, rfl⟩
  have hzc3 : Made w3 (nb + 1) 53 2 (.slice p0 p1 p2) (m.cuts.map cutRow) := hzc2.frame (fun y _ hy _ => hb3.block y (by simpa using hy))
  have g2 : w3.cell? ⟨nb, 2, none⟩ = some (.slice none 0 0) := n4'.cell 2
  have gf2 := n4'.free 2
  have gl := n4'.lt
  have hB3' : Below w.heap.size w (w3.setCell ⟨nb, 2, none⟩ (.slice r0 r1 r2)) := hB3.setCell (show w.heap.size ≤ nb by omega) _
  have n5' := n4'.set 2 (.slice r0 r1 r2)
  have hzc4 : Made (w3.setCell ⟨nb, 2, none⟩ (.slice r0 r1 r2)) (nb + 1) 53 2 (.slice p0 p1 p2) (m.cuts.map cutRow) := hzc3.setCell _ _ (fun he => by have h9 : nb + 1 ≤ nb := (Made.block hzc3 _ he).1; omega)
  have hzm4 : Made (w3.setCell ⟨nb, 2, none⟩ (.slice r0 r1 r2)) w2.heap.size 3 1 (.slice r0 r1 r2) (m.marks.map intRow) := hzm.setCell _ _ (fun he => by have h9 : w2.heap.size ≤ nb := (Made.block hzm _ he).1; omega)
  clear e1' ef1 el b8' bl2 n2' n3' bm bm2 hzc hzc2 hzc3 hzm hb2 hb3 b1 b7 b8 bl q1 n4' hB2' hB1
  go_wp2_with fail
  generalize hW3 : w3.setCell ⟨nb, 2, none⟩ (.slice r0 r1 r2) = W3 at *
  have HW3 := hide hW3
  clear hW3 g2 gf2 gl
  obtain ⟨k1, hk1⟩ : ∃ k1 : Nat → Nat, k1 = fun b => if b < w.heap.size then k b else IM := ⟨_, rfl⟩
  have ev1 : Evo k k1 noC w W3 := by rw [hk1]; exact (Evo.of_below (k := k) hB3').recolour _ (fun y hy => if_pos hy)
  have hcz1 : CutsIm k1 W3 (.slice p0 p1 p2) m.cuts := by rw [hk1]; exact hzc4.colour (c := IM) (fun y hy => if_neg (by have := (Made.block hzc4 y hy).1; omega))
  have hmz1 : IntsIm k1 W3 (.slice r0 r1 r2) m.marks := by rw [hk1]; exact hzm4.colour (c := IM) (fun y hy => if_neg (by have := (Made.block hzm4 y hy).1; have := hB2.size; omega))
  have HK1 := hide hk1
  clear hk1 hzc4 hzm4 hB3 hB2
  have h1 := H0.out.evo ev1 (noC_not _)
  obtain ⟨rows, hR1, hA1⟩ := HNo.out.evo ev1 (noC_not _) (noC_not _)
  have hrl : rows.length = x.notes.length := hA1.1.symm
  obtain ⟨a9, cap9, hv9, _⟩ := Rows.form hR1
  rw [hrl] at hv9
  simp only [Value.slice.injEq] at hv9
  obtain ⟨rfl, rfl, rfl⟩ := hv9
  have HRL := hide hrl
  clear hrl
  obtain ⟨hkg, hlg, hcg, hfg⟩ := h1.facts
  have q5 : W3.cell? ⟨g, i * 20 + 5, none⟩ = some (.slice n0 x.notes.length n2) := hcg 5 (by omega)
  have nc0 : W3.cell? ⟨nb, 0, none⟩ = some (.int .i64 m.frm) := n5'.cell 0
  have nc1 : W3.cell? ⟨nb, 1, none⟩ = some (.slice p0 p1 p2) := n5'.cell 1
  have nc2 : W3.cell? ⟨nb, 2, none⟩ = some (.slice r0 r1 r2) := n5'.cell 2
  have ncl := n5'.lt
  have ev3 : Evo k1 k1 noC W3 (W3.alloc (Obj.cells #[.int .i64 m.frm, .slice p0 p1 p2, .slice r0 r1 r2] 164)).drew := ((Evo.refl k1 noC W3).alloc _).drew
  have hR3 := hR1.evo ev3 (noC_not _)
  have h3 := h1.evo ev3 (noC_not _)
  have hnews : ∀ y u, ([noteRow m.frm (.slice p0 p1 p2) (.slice r0 r1 r2)] : List (List Value)).flatten[y]? = some u → (W3.alloc (Obj.cells #[.int .i64 m.frm, .slice p0 p1 p2, .slice r0 r1 r2] 164)).drew.cell? ((⟨W3.heap.size, 0, none⟩ : Addr).add y) = some u := fun y u hy => by
    rw [Addr.add_lit, Nat.zero_add]
    show World.cell? (W3.alloc _) _ = _
    rw [cell_of_row _ W3.heap.size y _ _ _ (heap_alloc_new W3 _)]
    simpa [noteRow] using hy
  have HFx : Hid (∀ k5 w5, Evo k1 k5 (fun y => y = c) (W3.alloc (Obj.cells #[.int .i64 m.frm, .slice p0 p1 p2, .slice r0 r1 r2] 164)).drew w5 → w5.cell? ⟨g, i * 20 + 5, none⟩ = some (.slice n0 x.notes.length n2) ∧ w5.frozen? ⟨g, i * 20 + 5, none⟩ = false ∧ g < w5.heap.size) := hide fun k5 w5 hE => by
    obtain ⟨_, b, cc, d⟩ := (h3.evo hE (by unfold cXW; omega)).facts
    exact ⟨cc 5 (by omega), d _, b⟩
  clear hcg hfg
  obtain ⟨x1, hx1⟩ : ∃ x1, x1 = { x with notes := x.notes ++ [(m.frm, m.cuts, m.marks)] } := ⟨_, rfl⟩
  have HX1 := hide hx1
  clear hx1
  go_cut [] (fun wc => Hid (∃ k2 a2 b2, Evo k k2 (fun d => d = cXW ∨ d = c) w wc ∧ WrW k2 wc g n cap (wrows.set i (wrRow x1 (.slice a2 (x.notes.length + 1) b2) (.slice c0 c1 c2) (.slice v0 v1 v2))) i x1 (.slice a2 (x.notes.length + 1) b2) (.slice c0 c1 c2) (.slice v0 v1 v2) ∧ NotesIs k2 wc c (.slice a2 (x.notes.length + 1) b2) x1.notes))
  case first =>
    go_region_law
      (refine step_append_rows k1 c (.tmp 32) (.tmp 34) 116 164 _ 3 56 _ rows [noteRow m.frm (.slice p0 p1 p2) (.slice r0 r1 r2)] x.notes.length ⟨W3.heap.size, 0, none⟩ 1 1 HRL.out rfl rfl Tryz.underlying116 Tryz.infoNote rfl (by decide) rfl rfl hR3 rfl (by simp [noteRow]) hnews (by simp [noteRow, Value.oneCell']) (by have := HRL.out; simp only [maxLen]; omega) (by have := HRL.out; omega) ?_; intro ao1 cap1 w5 k5 hR5 hE5; obtain ⟨y1', y2', y3'⟩ := HFx.out k5 w5 hE5)
    all_goals go_wp2_with fail
    all_goals go_meet
    all_goals
      have h5 := h3.evo hE5 (by unfold cXW; omega)
      have h6 := h5.set (x' := x1) (vN' := .slice ao1 (x.notes.length + 1) cap1) 5 (by omega) (.slice ao1 (x.notes.length + 1) cap1) (by rw [HX1.out]; rfl) (by rw [HX1.out]; exact h5.h6) (by rw [HX1.out]; exact h5.n6)
      have evA : Evo k1 k5 (fun d => d = cXW ∨ d = c) W3 (w5.setCell ⟨g, i * 20 + 5, none⟩ (.slice ao1 (x.notes.length + 1) cap1)) := ((ev3.mono (D := fun d => d = cXW ∨ d = c) (fun _ h => h.elim)).trans (hE5.mono (fun _ h => .inr h))).setCell _ _ (fun _ => .inl h5.facts.1)
      have him : ¬ (IM = cXW ∨ IM = c) := by unfold IM cXW; omega
      refine hide ⟨k5, ao1, cap1, (ev1.mono (fun _ h => h.elim)).trans evA, h6, _, hR5.other _ _ (by show k5 g ≠ c; rw [h5.facts.1]; unfold cXW; omega), ?_⟩
      rw [HX1.out]
      exact All2.snoc (hA1.imp fun _ _ ⟨vc, vm, a, b, d⟩ => ⟨vc, vm, a, b.evo evA him, d.evo evA him⟩) ⟨_, _, rfl, hcz1.evo evA him, hmz1.evo evA him⟩
  case rest =>
    obtain ⟨k2, a2, b2, ev2, h2, hN2⟩ := hcut.out
    have him : ¬ (IM = cXW ∨ IM = c) := by unfold IM cXW; omega
    have hx1c : x1.cuts = x.cuts := by rw [HX1.out]
    have hx1v : x1.values = x.values := by rw [HX1.out]
    have hC2 : CutsIm k2 wc (.slice c0 c1 c2) x1.cuts := by rw [hx1c]; exact HCu.out.evo ev2 him
    have hV2 : Rows k2 wc (c + 1) 3 1 (.slice v0 v1 v2) (x1.values.map intRow) := by rw [hx1v]; exact HVa.out.evo ev2 (by unfold cXW; omega)
    have hok1 : XWOk x1 := by
      rw [HX1.out]
      refine ⟨hok.cl, hok.vl, by simp only [List.length_append, List.length_singleton]; omega, fun y hy => ?_, hok.b0, hok.b1, hok.nt⟩
      rcases List.mem_append.1 hy with h | h
      · exact hok.nk y h
      · rw [List.mem_singleton.1 h]; exact hmk
    have hln1 : x1.notes.length = x.notes.length + 1 := by rw [HX1.out]; simp
    obtain ⟨_, hl2, hcc2, _⟩ := h2.facts
    have q5c : wc.cell? ⟨g, i * 20 + 5, none⟩ = some (.slice a2 (x.notes.length + 1) b2) := hcc2 5 (by omega)
    have HHF : Hid (x.hearFenced m = if x1.notes.length < 4 then (x1, []) else (x1.decides, x1.decides.due)) := hide (by
      unfold XWr.hearFenced
      rw [if_neg (by simp [hp, hh]), HX1.out])
    have HL1 := hide hln1
    clear hx1c hx1v hln1 hcc2 hcut ev3 hR3 h3 hnews hR1 hA1 h1 hcz1 hmz1 ev1 q5 nc0 nc1 nc2 ncl hkg hlg n5'
    by_cases h4 : x.notes.length + 1 < 4
    · have hd : decide (((x.notes.length + 1 : Nat) : Int) < 4) = true := by simp; omega
      have hd' : decide ((x.notes.length : Int) + 1 < 4) = true := by simp; omega
      have HE : Hid (x.hearFenced m = (x1, [])) := hide (by rw [HHF.out, if_pos (by rw [HL1.out]; exact h4)])
      have HS : Hid (HeardSt k w wc c g n cap wrows i x1 v0 v1 v2 [] (.slice none 0 0)) := hide ⟨k2, a2, _, b2, c0, c1, c2, ev2, h2, hN2, hC2, [], Rows.nil _ _ _ _ _, rfl, fun y h1 => by simp at h1⟩
      clear h2 hN2 hC2 hV2
      go_wp2_with fail
      go_ret
      exact ⟨_, rfl, by rw [HE.out]; exact HS.out⟩
    · have hd : decide (((x.notes.length + 1 : Nat) : Int) < 4) = false := by simp; omega
      have hd' : decide ((x.notes.length : Int) + 1 < 4) = false := by simp; omega
      have HE : Hid (x.hearFenced m = (x1.decides, x1.decides.due)) := hide (by rw [HHF.out, if_neg (by rw [HL1.out]; exact h4)])
      have HDc := hide (decide_any h2 hN2 hok1)
      have HDu : Hid (∀ k6 w6 d0 d1 d2, Evo k2 k6 (fun c => c = cXW) wc w6 → WrW k6 w6 g n cap ((wrows.set i (wrRow x1 (.slice a2 (x.notes.length + 1) b2) (.slice c0 c1 c2) (.slice v0 v1 v2))).set i (wrRow x1.decides (.slice none 0 0) (.slice d0 d1 d2) (.slice v0 v1 v2))) i x1.decides (.slice none 0 0) (.slice d0 d1 d2) (.slice v0 v1 v2) → CutsIm k6 w6 (.slice d0 d1 d2) x1.decides.cuts →
          Calls Tryz.prog 65 #[.pointer (some ⟨g, i * 20, none⟩)] w6 fun e w' => ∃ s0 s1 s2, e = .returned (.slice s0 s1 s2) ∧ HeardSt k w w' c g n cap wrows i x1.decides v0 v1 v2 x1.decides.due (.slice s0 s1 s2)) := hide fun k6 w6 d0 d1 d2 ev6 h6 hC6 => by
        have hV6 := hV2.evo ev6 (by unfold cXW; omega)
        have hN6 : NotesIs k6 w6 c (.slice none 0 0) x1.decides.notes := ⟨[], Rows.nil _ _ _ _ _, rfl, fun y h1 => by simp [XWr.decides] at h1⟩
        have hb : x1.notes.foldl (baseStep (newestOf x1.notes)) 0 ≤ 4000000000 := base_le _ _ (fun y hy => (hok1.nk y hy).2)
        refine (due_any (h6.at hN6 hC6 hV6) (by simp [XWr.decides]) (by simp only [XWr.decides]; omega) hok1.nt hok1.vl (by simp [XWr.decides])).mono ?_
        rintro e w' ⟨⟨v, rfl, hm⟩, hb7⟩
        obtain ⟨rws, hmm, _⟩ := id hm
        obtain ⟨s0, s1, s2, hs⟩ := made_shape hmm
        subst hs
        obtain ⟨k7, ev7, hl7⟩ := hm.is hb7
        have h7 := h6.evo ev7 (noC_not _)
        simp only [List.set_set] at h7
        exact ⟨s0, s1, s2, rfl, k7, none, 0, 0, d0, d1, d2, (ev2.trans (ev6.mono (fun _ h => .inl h))).trans (ev7.mono (fun _ h => h.elim)), h7, hN6.evo ev7 (noC_not _) (noC_not _), hC6.evo ev7 (noC_not _), hl7⟩
      clear h2 hN2 hC2 hV2
      generalize x1.decides.due = du at *
      go_wp2_with fail
      refine HDc.out.mono ?_
      rintro e6 w6 ⟨rfl, k6, d0, d1, d2, ev6, h6, hC6⟩
      have HD6 := hide (HDu.out k6 w6 d0 d1 d2 ev6 h6 hC6)
      clear h6 hC6 ev6
      go_wp2_with fail
      refine HD6.out.mono ?_
      rintro e7 w7 ⟨s0, s1, s2, rfl, HS⟩
      have HS2 := hide HS
      clear HS
      go_wp2_with fail
      go_ret
      exact ⟨_, rfl, by rw [HE.out]; exact HS2.out⟩
end
end Go.Proofs.YtfpbkghcjaonlaaGreat

/-
  The program: a message arrives at a writer.
-/
namespace Go.Proofs.YtfpbkghcjaonlaaGreat
open Go.RowKit

def HeardS (k : Nat → Nat) (w w' : World) (c g n cap : Nat) (wrows : List (List Value)) (i : Nat) (x' : XWr) (l : List Msg) (v : Value) : Prop :=
  ∃ k' vN vC vV, Evo k k' (fun d => d = cXW ∨ d = c) w w' ∧ WrW k' w' g n cap (wrows.set i (wrRow x' vN vC vV)) i x' vN vC vV ∧ NotesIs k' w' c vN x'.notes ∧ CutsIm k' w' vC x'.cuts ∧ Rows k' w' (c + 1) 3 1 vV (x'.values.map intRow) ∧ MsgsIs k' w' 0 v l

theorem msgs_nil (k : Nat → Nat) (w : World) : MsgsIs k w 0 (.slice none 0 0) [] := ⟨[], Rows.nil _ _ _ _ _, rfl, fun y h1 => by simp at h1⟩

theorem durs_keeps (x : XWr) : x.durs.notes = x.notes ∧ x.durs.cuts = x.cuts ∧ x.durs.values = x.values := by unfold XWr.durs; split <;> exact ⟨rfl, rfl, rfl⟩
theorem opens_keeps (x : XWr) : x.opens.notes = x.notes ∧ x.opens.cuts = x.cuts ∧ x.opens.values = x.values := by unfold XWr.opens; split <;> exact ⟨rfl, rfl, rfl⟩
theorem hearStatus_keeps (x : XWr) (m : Msg) : (x.hearStatus m).notes = x.notes ∧ (x.hearStatus m).cuts = x.cuts ∧ (x.hearStatus m).values = x.values := by
  unfold XWr.hearStatus
  split
  · have h1 := durs_keeps (x.noteS m).opens
    have h2 := opens_keeps (x.noteS m)
    exact ⟨h1.1.trans h2.1, h1.2.1.trans h2.2.1, h1.2.2.trans h2.2.2⟩
  · exact ⟨rfl, rfl, rfl⟩
theorem hearFenced_keeps (x : XWr) (m : Msg) : (x.hearFenced m).1.values = x.values := by
  unfold XWr.hearFenced
  split
  · rfl
  · dsimp only
    split <;> rfl

section
variable {k : Nat → Nat} {w : World} {c g n cap i : Nat} {wrows : List (List Value)} {x : XWr} {n0 c0 v0 : Option Addr} {n1 n2 c1 c2 v1 v2 : Nat}

theorem heard_same (h : WrW k w g n cap wrows i x (.slice n0 n1 n2) (.slice c0 c1 c2) (.slice v0 v1 v2)) (hN : NotesIs k w c (.slice n0 n1 n2) x.notes) (hC : CutsIm k w (.slice c0 c1 c2) x.cuts) (hV : Rows k w (c + 1) 3 1 (.slice v0 v1 v2) (x.values.map intRow)) {w' : World} (hb : Below w.heap.size w w') : HeardS k w w' c g n cap wrows i x [] (.slice none 0 0) := by
  have ev : Evo k k noC w w' := Evo.of_below hb
  refine ⟨k, _, _, _, Evo.of_below hb, ?_, hN.evo ev (noC_not _) (noC_not _), hC.evo ev (noC_not _), hV.evo ev (noC_not _), msgs_nil _ _⟩
  rw [set_row_same h.hi h.row]
  exact h.evo ev (noC_not _)

set_option maxRecDepth 3000 in
set_option maxHeartbeats 8000000 in
theorem wArrive_any (h : WrW k w g n cap wrows i x (.slice n0 n1 n2) (.slice c0 c1 c2) (.slice v0 v1 v2)) (hN : NotesIs k w c (.slice n0 n1 n2) x.notes) (hC : CutsIm k w (.slice c0 c1 c2) x.cuts) (hV : Rows k w (c + 1) 3 1 (.slice v0 v1 v2) (x.values.map intRow)) (hok : XWOk x) (hc1 : 110 ≤ c) (hc2 : c < 140)
    (m : Msg) (z0 y0 : Option Addr) (z1 z2 y1 y2 : Nat) (hcz : CutsIm k w (.slice z0 z1 z2) m.cuts) (hmz : IntsIm k w (.slice y0 y1 y2) m.marks) (hmk : MsgOk m) (hn3 : x.phase = 1 → x.notes.length ≤ 3) :
    Calls Tryz.prog 123 #[.pointer (some ⟨g, i * 20, none⟩), .agg #[.int .i64 m.kind, .int .i64 m.frm, .int .i64 m.to_, .int .i64 m.epoch, .int .i64 m.lsn, .int .i64 m.value, .int .i64 m.scl, .slice z0 z1 z2, .slice y0 y1 y2]] w fun e w' => ∃ s0 s1 s2, e = .returned (.slice s0 s1 s2) ∧ HeardS k w w' c g n cap wrows i (x.arrive m).1 (x.arrive m).2 (.slice s0 s1 s2) := by
  have hb0 : ∀ o : Obj, Below w.heap.size w (w.alloc o) := fun o => (Below.refl _ _).alloc (Nat.le_refl _) o
  have evo : ∀ W, Below w.heap.size w W → Evo k k noC w W := fun W hW => Evo.of_below hW
  have HSame : Hid (∀ W, Below w.heap.size w W → HeardS k w W c g n cap wrows i x [] (.slice none 0 0)) := hide fun W hW => heard_same h hN hC hV hW
  by_cases hr : m.frm < 0 ∨ 6 ≤ m.frm
  · have HE : Hid (x.arrive m = (x, [])) := hide (by unfold XWr.arrive; rw [if_pos hr])
    have HB := hide hb0
    clear h hN hC hV hcz hmz hb0 evo
    by_cases h0 : m.frm < 0
    · have d0 : decide (m.frm < 0) = true := by simpa using h0
      go_enter Tryz.func123, Tryz.ntmps123
      go_wp2_with fail
      go_ret
      exact ⟨none, 0, 0, rfl, by rw [HE.out]; exact HSame.out _ (HB.out _)⟩
    · have d0 : decide (m.frm < 0) = false := by simpa using h0
      have d6 : decide (6 ≤ m.frm) = true := by simp; omega
      go_enter Tryz.func123, Tryz.ntmps123
      go_wp2_with fail
      go_ret
      exact ⟨none, 0, 0, rfl, by rw [HE.out]; exact HSame.out _ (HB.out _)⟩
  · obtain ⟨s, hs⟩ := Int.eq_ofNat_of_zero_le (show 0 ≤ m.frm by omega)
    have hs6 : s < 6 := by omega
    have d0 : decide (m.frm < 0) = false := by simp; omega
    have d6 : decide (6 ≤ m.frm) = false := by simp; omega
    by_cases k2 : m.kind = 2
    · have HE : Hid (x.arrive m = x.hearFenced m) := hide (by unfold XWr.arrive; rw [if_neg hr, if_pos k2])
      have HH : Hid (∀ W, Below w.heap.size w W → Calls Tryz.prog 128 #[.pointer (some ⟨g, i * 20, none⟩), .agg #[.int .i64 m.kind, .int .i64 m.frm, .int .i64 m.to_, .int .i64 m.epoch, .int .i64 m.lsn, .int .i64 m.value, .int .i64 m.scl, .slice z0 z1 z2, .slice y0 y1 y2]] W fun e w' => ∃ s0 s1 s2, e = .returned (.slice s0 s1 s2) ∧ HeardS k w w' c g n cap wrows i (x.hearFenced m).1 (x.hearFenced m).2 (.slice s0 s1 s2)) := hide fun W hW => by
        have e0 := evo W hW
        have h' := h.evo e0 (noC_not _)
        have hN' := hN.evo e0 (noC_not _) (noC_not _)
        have hC' := hC.evo e0 (noC_not _)
        have hV' := hV.evo e0 (noC_not _)
        by_cases hno : x.phase ≠ 1 ∨ x.hasNote m.frm = true
        · refine (hearFenced_no h' hN' hC' hV' hok m z0 y0 z1 z2 y1 y2 hno).mono ?_
          rintro e w' ⟨rfl, hb⟩
          have : x.hearFenced m = (x, []) := by unfold XWr.hearFenced; rw [if_pos hno]
          rw [this]
          exact ⟨none, 0, 0, rfl, HSame.out _ (hW.trans (hb.mono hW.size))⟩
        · have hp : x.phase = 1 := by simpa using fun h => hno (.inl h)
          have hh : x.hasNote m.frm = false := by simpa using fun h => hno (.inr h)
          refine (hearFenced_yes h' hN' hC' hV' hok hc1 hc2 m z0 y0 z1 z2 y1 y2 (hcz.evo e0 (noC_not _)) (hmz.evo e0 (noC_not _)) hmk hp hh (hn3 hp)).mono ?_
          rintro e w' ⟨v, rfl, k', a0, a1, a2, b0, b1, b2, ev, hw, hn, hc, hl⟩
          obtain ⟨rws, hR, hA⟩ := id hl
          obtain ⟨s0, s1, s2, hsh⟩ := Rows.shape hR
          subst hsh
          refine ⟨s0, s1, s2, rfl, k', _, _, _, (e0.mono (fun _ h => h.elim)).trans ev, hw, hn, hc, ?_, hl⟩
          rw [hearFenced_keeps]
          exact hV'.evo ev (by unfold cXW; omega)
      have HB := hide hb0
      clear h hN hC hV hcz hmz hb0 evo hr hs
      rw [k2] at *
      go_enter Tryz.func123, Tryz.ntmps123
      go_wp2_with fail
      refine (HH.out _ (HB.out _)).mono ?_
      rintro e1 w1 ⟨s0, s1, s2, rfl, hS⟩
      have HS := hide hS
      clear hS
      go_wp2_with fail
      go_ret
      exact ⟨s0, s1, s2, rfl, by rw [HE.out]; exact HS.out⟩
    · have j2 : (m.kind == 2) = false := by simpa using k2
      by_cases k4 : m.kind = 4
      · have HE : Hid (x.arrive m = (x.hearStatus m, [])) := hide (by unfold XWr.arrive; rw [if_neg hr, if_neg k2, if_pos k4])
        have HH : Hid (∀ W, Below w.heap.size w W → Calls Tryz.prog 129 #[.pointer (some ⟨g, i * 20, none⟩), .agg #[.int .i64 m.kind, .int .i64 m.frm, .int .i64 m.to_, .int .i64 m.epoch, .int .i64 m.lsn, .int .i64 m.value, .int .i64 m.scl, .slice z0 z1 z2, .slice y0 y1 y2]] W fun e w' => e = .returned (.tuple #[]) ∧ HeardS k w w' c g n cap wrows i (x.hearStatus m) [] (.slice none 0 0)) := hide fun W hW => by
          have e0 := evo W hW
          have h' := h.evo e0 (noC_not _)
          have hN' := hN.evo e0 (noC_not _) (noC_not _)
          have hC' := hC.evo e0 (noC_not _)
          have hV' := hV.evo e0 (noC_not _)
          by_cases hp : x.phase = 2 ∨ x.phase = 3
          · obtain ⟨m0, mf, mt, m3, m4, m5, m6, mc, mm⟩ := m
            dsimp only at hs
            subst hs
            refine (hearStatus_yes h' hN' hC' hV' (by unfold cXW; omega) (by unfold cXW; omega) s hs6 m0 mt m3 m4 m5 m6 z0 y0 z1 z2 y1 y2 hp mc mm).mono ?_
            rintro e w' ⟨rfl, k', ev, hw⟩
            have hkp := hearStatus_keeps x ⟨m0, s, mt, m3, m4, m5, m6, mc, mm⟩
            refine ⟨rfl, k', _, _, _, (e0.mono (fun _ h => h.elim)).trans (ev.mono (fun _ h => .inl h)), hw, ?_, ?_, ?_, msgs_nil _ _⟩
            · rw [hkp.1]; exact hN'.evo ev (by unfold cXW; omega) (by decide)
            · rw [hkp.2.1]; exact hC'.evo ev (by decide)
            · rw [hkp.2.2]; exact hV'.evo ev (by unfold cXW; omega)
          · refine (hearStatus_no h' m.kind m.frm m.to_ m.epoch m.lsn m.value m.scl z0 y0 z1 z2 y1 y2 hp).mono ?_
            rintro e w' ⟨rfl, hb⟩
            have : x.hearStatus m = x := by unfold XWr.hearStatus; rw [if_neg hp]
            rw [this]
            exact ⟨rfl, HSame.out _ (hW.trans (hb.mono hW.size))⟩
        have HB := hide hb0
        clear h hN hC hV hcz hmz hb0 evo hr hs k2
        rw [k4] at *
        go_enter Tryz.func123, Tryz.ntmps123
        go_wp2_with fail
        refine (HH.out _ (HB.out _)).mono ?_
        rintro e1 w1 ⟨rfl, hS⟩
        have HS := hide hS
        clear hS
        go_wp2_with fail
        go_ret
        exact ⟨none, 0, 0, rfl, by rw [HE.out]; exact HS.out⟩
      · have j4 : (m.kind == 4) = false := by simpa using k4
        by_cases k5 : m.kind = 5
        · have HE : Hid (x.arrive m = (x.stop, [])) := hide (by unfold XWr.arrive; rw [if_neg hr, if_neg k2, if_neg k4, if_pos k5])
          have HH : Hid (∀ W, Below w.heap.size w W → Calls Tryz.prog 80 #[.pointer (some ⟨g, i * 20, none⟩)] W fun e w' => e = .returned (.tuple #[]) ∧ HeardS k w w' c g n cap wrows i x.stop [] (.slice none 0 0)) := hide fun W hW => by
            have e0 := evo W hW
            refine (stop_any (h.evo e0 (noC_not _))).mono ?_
            rintro e w' ⟨rfl, ev, hw⟩
            exact ⟨rfl, k, _, _, _, (e0.mono (fun _ h => h.elim)).trans (ev.mono (fun _ h => .inl h)), hw, ⟨[], Rows.nil _ _ _ _ _, rfl, fun y h1 => by simp [XWr.stop] at h1⟩, Rows.nil _ _ _ _ _, Rows.nil _ _ _ _ _, msgs_nil _ _⟩
          have HB := hide hb0
          clear h hN hC hV hcz hmz hb0 evo hr hs k2 k4
          rw [k5] at *
          go_enter Tryz.func123, Tryz.ntmps123
          go_wp2_with fail
          refine (HH.out _ (HB.out _)).mono ?_
          rintro e1 w1 ⟨rfl, hS⟩
          have HS := hide hS
          clear hS
          go_wp2_with fail
          go_ret
          exact ⟨none, 0, 0, rfl, by rw [HE.out]; exact HS.out⟩
        · have j5 : (m.kind == 5) = false := by simpa using k5
          have HE : Hid (x.arrive m = (x, [])) := hide (by unfold XWr.arrive; rw [if_neg hr, if_neg k2, if_neg k4, if_neg k5])
          have HB := hide hb0
          clear h hN hC hV hcz hmz hb0 evo hr hs
          go_enter Tryz.func123, Tryz.ntmps123
          go_wp2_with fail
          go_ret
          exact ⟨none, 0, 0, rfl, by rw [HE.out]; exact HSame.out _ (HB.out _)⟩
end
end Go.Proofs.YtfpbkghcjaonlaaGreat

/-
  sixfoldlaw: where a script stands; spoken, pick, fits, deliver.
-/
namespace Go.Proofs.YtfpbkghcjaonlaaGreat
open Go.RowKit

/-- The two sides' own colours. -/
def cSide : Nat → Prop := fun c => 10 ≤ c ∧ c < 200
def cDuo : Nat → Prop := fun c => 10 ≤ c ∧ c < 209

/-- What holds of both sides, by their joint state: borne by what the law does, and by a new colouring. -/
structure Fam {T : Type} (R : T → (Nat → Nat) → World → Prop) : Prop where
  stay : ∀ t k k' w w', R t k w → Evo k k' cLaw w w' → R t k' w'
  reco : ∀ t n k w, R t k w → R t (reco n k) w

/-- A call of one side. -/
def Step {T : Type} (R : T → (Nat → Nat) → World → Prop) (F : Nat) (args : Array Value) (ret : Value) (t t' : T) : Prop :=
  ∀ k w, R t k w → Calls Tryz.prog F args w fun e w' => e = .returned ret ∧ ∃ k', Evo k k' cSide w w' ∧ R t' k' w'

/-- Where the script stands; X: blocks that the law itself holds on to. -/
def LSt {T : Type} (R : T → (Nat → Nat) → World → Prop) (t : T) (k : Nat → Nat) (w wr : World) (b px py nC nR nI : Nat) (X : List (Nat × Nat × List Value)) : Prop :=
  ∃ k', Evo k k' cDuo w wr ∧ R t k' wr ∧ LawIs k' wr is205 b px py nC nR nI ∧ Clean k' wr ∧ ∀ x ∈ X, Blk k' wr 0 x.1 x.2.1 x.2.2

section
variable {T : Type} {R : T → (Nat → Nat) → World → Prop} {t t' : T} {k : Nat → Nat} {w wr w' : World} {b px py nC nR nI : Nat} {X : List (Nat × Nat × List Value)}

theorem Blk.recol0 {n c g e : Nat} {cs : List Value} (h : Blk k wr c g e cs) (hc : c < 204) : Blk (Go.Proofs.YtfpbkghcjaonlaaGreat.reco n k) wr c g e cs := by
  refine ⟨h.1, ?_⟩
  have := h.2
  unfold Go.Proofs.YtfpbkghcjaonlaaGreat.reco
  split
  · exact this
  · rw [if_neg (by omega)]; exact this

theorem LSt.side (hF : Fam R) {k1 k2 : Nat → Nat} {w2 : World} (e0 : Evo k k1 cDuo w wr) (hL : LawIs k1 wr is205 b px py nC nR nI) (hc : Clean k1 wr) (hX : ∀ x ∈ X, Blk k1 wr 0 x.1 x.2.1 x.2.2)
    (ev : Evo k1 k2 cSide wr w2) (h : R t' k2 w2) : LSt R t' k w w2 b px py nC nR nI X := by
  refine ⟨Go.Proofs.YtfpbkghcjaonlaaGreat.reco wr.heap.size k2, e0.trans ((ev.recol).mono (fun c h => by unfold cSide at h; unfold cDuo; omega)), hF.reco _ _ _ _ h, ?_, hc.recol ev, fun x hx => ((hX x hx).evo ev (by unfold cSide; omega)).recol0 (by omega)⟩
  exact (hL.evo ev (fun c hc => by unfold is205 at hc; unfold cSide; omega) (fun c h1 h2 => by unfold cSide; omega)).recol (fun c hc => by unfold is205 at hc; omega) (fun g hg => by rw [ev.col g hg]; exact hc g hg)

theorem LSt.call (hF : Fam R) {F : Nat} {args : Array Value} {ret : Value} (h : LSt R t k w wr b px py nC nR nI X) (HX : Step R F args ret t t') :
    Calls Tryz.prog F args wr fun e w' => e = .returned ret ∧ LSt R t' k w w' b px py nC nR nI X := by
  obtain ⟨k1, e0, hr, hL, hc, hX⟩ := h
  refine (HX k1 wr hr).mono ?_
  rintro e w' ⟨rfl, k2, ev, h2⟩
  exact ⟨rfl, LSt.side hF e0 hL hc hX ev h2⟩

theorem LSt.below (hF : Fam R) (h : LSt R t k w wr b px py nC nR nI X) (hb : Below wr.heap.size wr w') : LSt R t k w w' b px py nC nR nI X := by
  obtain ⟨k1, e0, hr, hL, hc, hX⟩ := h
  exact LSt.side hF e0 hL hc hX (Evo.of_below hb) (hF.stay _ _ _ _ _ hr (Evo.of_below hb))

theorem LSt.drew (hF : Fam R) (h : LSt R t k w wr b px py nC nR nI X) : LSt R t k w wr.drew b px py nC nR nI X := h.below hF (Below.drew (Below.refl _ _))

/-- The law boxes something. -/
theorem LSt.alloc (hF : Fam R) (h : LSt R t k w wr b px py nC nR nI X) (e : Nat) (cs : List Value) : LSt R t k w (wr.alloc (Obj.cells cs.toArray e)) b px py nC nR nI ((wr.heap.size, e, cs) :: X) := by
  obtain ⟨k1, e0, hr, hL, hc, hX⟩ := h
  have ev : Evo k1 (fun g => if g < wr.heap.size then k1 g else 0) noC wr (wr.alloc (Obj.cells cs.toArray e)) := ((Evo.refl k1 noC wr).alloc _).recolour _ (fun i hi => if_pos hi)
  refine ⟨_, e0.trans (ev.mono (fun _ h => h.elim)), hF.stay _ _ _ _ _ hr (ev.mono (fun _ h => h.elim)), hL.evo ev (fun c _ => noC_not c) (fun c _ _ => noC_not c), fun g hg => ?_, fun x hx => ?_⟩
  · by_cases hlt : g < wr.heap.size
    · show (if g < wr.heap.size then k1 g else 0) < 204 ∨ (if g < wr.heap.size then k1 g else 0) = 205
      rw [if_pos hlt]; exact hc g hlt
    · show (if g < wr.heap.size then k1 g else 0) < 204 ∨ (if g < wr.heap.size then k1 g else 0) = 205
      rw [if_neg hlt]; exact .inl (by omega)
  · rcases List.mem_cons.1 hx with rfl | hx
    · exact ⟨heap_alloc_new wr _, if_neg (Nat.lt_irrefl _)⟩
    · exact (hX x hx).evo ev (noC_not _)

theorem LSt.drop {x : Nat × Nat × List Value} (h : LSt R t k w wr b px py nC nR nI (x :: X)) : LSt R t k w wr b px py nC nR nI X := by
  obtain ⟨k1, e0, hr, hL, hc, hX⟩ := h
  exact ⟨k1, e0, hr, hL, hc, fun y hy => hX y (List.mem_cons_of_mem _ hy)⟩

theorem LSt.cells (h : LSt R t k w wr b px py nC nR nI X) : wr.cell? ⟨b, 0, none⟩ = some (.pointer (some ⟨px, 0, none⟩)) ∧ wr.cell? ⟨b, 1, none⟩ = some (.pointer (some ⟨py, 0, none⟩)) ∧ b < wr.heap.size := by
  obtain ⟨k1, e0, hr, hL, hc, hX⟩ := h
  obtain ⟨vC, vR, vI, hB, -, -, -⟩ := hL.ex
  exact ⟨hB.cell 0, hB.cell 1, hB.lt⟩

/-- The act that is played, and the two sides. -/
def ActCells (W : World) (b px py g : Nat) (K A B : Int) : Prop :=
  W.cell? ⟨b, 0, none⟩ = some (.pointer (some ⟨px, 0, none⟩)) ∧ W.cell? ⟨b, 1, none⟩ = some (.pointer (some ⟨py, 0, none⟩)) ∧ b < W.heap.size ∧
  W.cell? ⟨g, 0, none⟩ = some (.int .i64 K) ∧ W.cell? ⟨g, 1, none⟩ = some (.int .i64 A) ∧ W.cell? ⟨g, 2, none⟩ = some (.int .i64 B) ∧ g < W.heap.size

theorem LSt.acts {g : Nat} {K A B : Int} (h : LSt R t k w wr b px py nC nR nI ((g, 33, [.int .i64 K, .int .i64 A, .int .i64 B]) :: X)) : ActCells wr b px py g K A B := by
  have h1 := h.cells
  obtain ⟨k1, e0, hr, hL, hc, hX⟩ := h
  have h2 := hX _ List.mem_cons_self
  exact ⟨h1.1, h1.2.1, h1.2.2, h2.cell 0, h2.cell 1, h2.cell 2, h2.lt⟩
end

/-- The number of a message that a raw number speaks of. -/
def spokenOf (c : Int) (fl : Nat) : Int := if c < 0 then c else c % ((fl : Int) + 1)
def pickOf (c n : Int) : Int := (if c < 0 then -(c + 1) else c) % n

set_option maxHeartbeats 1000000 in
theorem spoken_any (w : World) (c : Int) (fl : Nat) (hfl : fl ≤ 200) (h1 : -9223372036854775808 ≤ c) (h2 : c ≤ 9223372036854775807) :
    Calls Tryz.prog 44 #[.int .i64 c, .int .i64 fl] w fun e w' => e = .returned (.int .i64 (spokenOf c fl)) ∧ w' = w := by
  by_cases h0 : c < 0
  · have d0 : decide (c < 0) = true := by simpa using h0
    have HE : Hid (spokenOf c fl = c) := hide (if_pos h0)
    go_enter Tryz.func44, Tryz.ntmps44
    go_wp2
    go_ret
    exact ⟨by rw [HE.out]; rfl, rfl⟩
  · have d0 : decide (c < 0) = false := by simpa using h0
    have HE : Hid (spokenOf c fl = c % ((fl : Int) + 1)) := hide (if_neg h0)
    have hw : IntKind.i64.wrap ((fl : Int) + 1) = (fl : Int) + 1 := by rw [IntKind.wrap_i64] <;> omega
    have hz : ((fl : Int) + 1 == 0) = false := by simp; omega
    have hz2 : ¬ ((fl : Int) + 1 = 0) := by omega
    have ht : Int.tmod c ((fl : Int) + 1) = c % ((fl : Int) + 1) := Int.tmod_eq_emod_of_nonneg (by omega)
    have hm1 : 0 ≤ c % ((fl : Int) + 1) := Int.emod_nonneg _ hz2
    have hm2 : c % ((fl : Int) + 1) < (fl : Int) + 1 := Int.emod_lt_of_pos _ (by omega)
    have hw2 : IntKind.i64.wrap (c % ((fl : Int) + 1)) = c % ((fl : Int) + 1) := by rw [IntKind.wrap_i64] <;> omega
    go_enter Tryz.func44, Tryz.ntmps44
    go_wp2
    go_ret
    exact ⟨by rw [HE.out]; rfl, rfl⟩

set_option maxHeartbeats 1000000 in
theorem pick_any (w : World) (c : Int) (h1 : -9223372036854775808 ≤ c) (h2 : c ≤ 9223372036854775807) :
    Calls Tryz.prog 50 #[.int .i64 c, .int .i64 60] w fun e w' => e = .returned (.int .i64 (pickOf c 60)) ∧ w' = w := by
  by_cases h0 : c < 0
  · have d0 : decide (c < 0) = true := by simpa using h0
    have HE : Hid (pickOf c 60 = (-(c + 1)) % 60) := hide (by unfold pickOf; rw [if_pos h0])
    have hw : IntKind.i64.wrap (c + 1) = c + 1 := by rw [IntKind.wrap_i64] <;> omega
    have hw3 : IntKind.i64.wrap (-(c + 1)) = -(c + 1) := by rw [IntKind.wrap_i64] <;> omega
    have ht : Int.tmod (-(c + 1)) 60 = (-(c + 1)) % 60 := Int.tmod_eq_emod_of_nonneg (by omega)
    have hw2 : IntKind.i64.wrap ((-(c + 1)) % 60) = (-(c + 1)) % 60 := by rw [IntKind.wrap_i64] <;> omega
    go_enter Tryz.func50, Tryz.ntmps50
    go_wp2
    go_ret
    exact ⟨by rw [HE.out]; rfl, rfl⟩
  · have d0 : decide (c < 0) = false := by simpa using h0
    have HE : Hid (pickOf c 60 = c % 60) := hide (by unfold pickOf; rw [if_neg h0])
    have ht : Int.tmod c 60 = c % 60 := Int.tmod_eq_emod_of_nonneg (by omega)
    have hw2 : IntKind.i64.wrap (c % 60) = c % 60 := by rw [IntKind.wrap_i64] <;> omega
    go_enter Tryz.func50, Tryz.ntmps50
    go_wp2
    go_ret
    exact ⟨by rw [HE.out]; rfl, rfl⟩

/-- Is the act played, of these parts? -/
def fitsOf (K : Int) (p : Nat) : Bool := if K = 3 ∨ K = 4 then p % 2 == 1 else if K = 5 ∨ K = 6 ∨ K = 7 ∨ K = 8 then 2 ≤ p else true

set_option maxHeartbeats 4000000 in
theorem fits_any (w : World) (K A B : Int) (p : Nat) (hp : p = 0 ∨ p = 1 ∨ p = 3) :
    Calls Tryz.prog 13 #[.agg #[.int .i64 K, .int .i64 A, .int .i64 B], .int .i64 p] w fun e w' => e = .returned (.bool (fitsOf K p)) ∧ Below w.heap.size w w' := by
  have hK : K = 3 ∨ K = 4 ∨ K = 5 ∨ K = 6 ∨ K = 7 ∨ K = 8 ∨ ((K == 3) = false ∧ (K == 4) = false ∧ (K == 5) = false ∧ (K == 6) = false ∧ (K == 7) = false ∧ (K == 8) = false) := by simp; omega
  obtain ⟨f, hf⟩ : ∃ f, f = fitsOf K p := ⟨_, rfl⟩
  rw [← hf]
  have HF := hide hf
  clear hf
  rcases hp with rfl | rfl | rfl <;> rcases hK with rfl | rfl | rfl | rfl | rfl | rfl | ⟨h3, h4, h5, h6, h7, h8⟩
  all_goals
    go_enter Tryz.func13, Tryz.ntmps13
    go_wp2
    go_ret
    refine ⟨?_, (Below.refl w.heap.size w).alloc (Nat.le_refl _) _⟩
    rw [HF.out]
    first
      | rfl
      | (simp at h3 h4 h5 h6 h7 h8; simp [fitsOf, h3, h4, h5, h6, h7, h8])

set_option maxHeartbeats 1000000 in
/-- Deliver on both sides. -/
theorem lawDeliver_any {T : Type} {R : T → (Nat → Nat) → World → Prop} {t t1 t2 : T} {k : Nat → Nat} {w wr : World} {b px py nC nR nI : Nat} {X : List (Nat × Nat × List Value)} (hF : Fam R) (n err : Int)
    (HX : Step R 95 #[.pointer (some ⟨px, 0, none⟩), .int .i64 n] (.int .i64 err) t t1)
    (HY : Step R 96 #[.pointer (some ⟨py, 0, none⟩), .int .i64 n] (.int .i64 err) t1 t2)
    (h : LSt R t k w wr b px py nC nR nI X) :
    Calls Tryz.prog 45 #[.pointer (some ⟨b, 0, none⟩), .int .i64 n] wr fun e w' => e = .returned (.bool true) ∧ LSt R t2 k w w' b px py nC nR nI X := by
  obtain ⟨z0, z1, hbl⟩ := h.cells
  have H1 := hide (h.call hF HX)
  have HF := hide hF
  have HY' := hide HY
  clear h HX HY hF
  go_enter Tryz.func45, Tryz.ntmps45
  go_wp2_with fail
  refine H1.out.mono ?_
  rintro e1 w1 ⟨rfl, h1⟩
  obtain ⟨y0, y1, hbl1⟩ := h1.cells
  have H2 := hide (h1.call HF.out HY'.out)
  clear h1
  go_wp2_with fail
  refine H2.out.mono ?_
  rintro e2 w2 ⟨rfl, h2⟩
  have H3 := hide h2
  clear h2
  go_wp2_with fail
  go_ret
  exact ⟨by simp, H3.out⟩
end Go.Proofs.YtfpbkghcjaonlaaGreat
