import Derived.Test.YtfpbkghcjaonlaaJ05
/-
  The program: a volume whole, in memory.
-/
namespace Go.Proofs.Ytfpbkghcjaonlaa
open Go.RowKit

def noteRow (n : Int) (vc vm : Value) : List Value := [.int .i64 n, vc, vm]
def wrRow (x : XWr) (vN vC vV : Value) : List Value := [.int .i64 x.number, .int .i64 x.phase, .int .i64 x.base, .int .i64 x.next, .int .i64 x.dur, vN, vC, vV] ++ (x.heard.map .bool ++ x.noted.map (fun n => .int .i64 n))

def NoteIs (k : Nat → Nat) (w : World) (n : Int × List (Int × Int) × List Int) (r : List Value) : Prop := ∃ vc vm, r = noteRow n.1 vc vm ∧ CutsIm k w vc n.2.1 ∧ IntsIm k w vm n.2.2
def NotesIs (k : Nat → Nat) (w : World) (c : Nat) (v : Value) (ns : List (Int × List (Int × Int) × List Int)) : Prop := ∃ rows, Rows k w c 123 3 v rows ∧ All2 (NoteIs k w) ns rows

structure WrIs (k : Nat → Nat) (w : World) (c : Nat) (x : XWr) (row : List Value) : Prop where
  ex : ∃ vN vC vV, row = wrRow x vN vC vV ∧ NotesIs k w c vN x.notes ∧ CutsIm k w vC x.cuts ∧ Rows k w (c + 1) 3 1 vV (x.values.map intRow)
  h6 : x.heard.length = 6
  n6 : x.noted.length = 6

def cWr (i : Nat) : Nat := 110 + 2 * i

structure SegsX (k : Nat → Nat) (w : World) (srows : List (List Value)) (segs : List XSeg) : Prop where
  l1 : srows.length = 6
  l2 : segs.length = 6
  all : ∀ i (h : i < srows.length) (h2 : i < segs.length), ∃ vc, srows[i] = xsegRow segs[i] vc ∧ CutsIm k w vc segs[i].cuts ∧ segs[i].places.length = 40

structure WrsX (k : Nat → Nat) (w : World) (v : Value) (wrows : List (List Value)) (wrs : List XWr) : Prop where
  own : Rows k w cXW 75 20 v wrows
  l1 : wrows.length = wrs.length
  l2 : wrs.length ≤ 9
  all : ∀ i (h : i < wrows.length) (h2 : i < wrs.length), WrIs k w (cWr i) wrs[i] wrows[i]

structure XVolIs (k : Nat → Nat) (w : World) (px : Nat) (x : XVol) : Prop where
  ex : ∃ vM vW srows wrows, Blk k w cX px 87 (volCells x.wi x.room vM srows vW) ∧ MsgsIs k w cXM vM x.msgs ∧ SegsX k w srows x.segs ∧ WrsX k w vW wrows x.wrs

theorem volCells_wr {k : Nat → Nat} {w : World} {wi room : Int} {vM vW : Value} {srows : List (List Value)} {segs : List XSeg} (h : SegsX k w srows segs) : (volCells wi room vM srows vW)[741]? = some vW := by
  have hl : ∀ r ∈ srows, r.length = 123 := by
    intro r hr
    obtain ⟨i, hi, rfl⟩ := List.getElem_of_mem hr
    have hi2 : i < segs.length := by have := h.l1; have := h.l2; omega
    obtain ⟨vc, h1, _, h3⟩ := h.all i hi hi2
    rw [h1]
    unfold xsegRow
    have := flatten_len (placeRows_len segs[i].places)
    simp only [List.length_append, List.length_cons, List.length_nil, this, List.length_map, h3]
  have hf := flatten_len hl
  rw [h.l1] at hf
  unfold volCells
  have e0 : 741 - ([Value.int .i64 wi, .int .i64 room, vM] : List Value).length - 6 * 123 = 0 := by simp
  rw [List.getElem?_append_right (by simp), List.getElem?_append_right (by rw [hf]; simp), hf, e0]
  rfl

/-- What is bounded of a writer. -/
structure XWOk (p : XWr) : Prop where
  cl : p.cuts.length ≤ 1000
  vl : p.values.length ≤ 4000000000
  nl : p.notes.length ≤ 4000000000
  nk : ∀ n ∈ p.notes, n.2.1.length ≤ 1000 ∧ n.2.2.length ≤ 4000000000
  b0 : 0 ≤ p.base
  b1 : p.base ≤ 4000000000
  nt : ∀ n ∈ p.noted, 0 ≤ n ∧ n ≤ 3000000000

/-- What is bounded. -/
structure XOk (x : XVol) : Prop where
  rm : x.room ≤ 200
  ml : x.msgs.length ≤ 200
  mo : ∀ m ∈ x.msgs, MsgOk m
  sk : ∀ s ∈ x.segs, s.cuts.length ≤ 1000
  wk : ∀ p ∈ x.wrs, XWOk p

section
variable {k k' : Nat → Nat} {w w' : World} {C : Nat → Prop}

theorem NotesIs.evo {c : Nat} {v : Value} {ns : List (Int × List (Int × Int) × List Int)} (h : NotesIs k w c v ns) (g : Evo k k' C w w') (hc : ¬ C c) (hi : ¬ C IM) : NotesIs k' w' c v ns := by
  obtain ⟨rows, h1, h2⟩ := h
  exact ⟨rows, h1.evo g hc, h2.imp fun _ _ ⟨vc, vm, a, b, d⟩ => ⟨vc, vm, a, b.evo g hi, d.evo g hi⟩⟩
theorem WrIs.evo {c : Nat} {x : XWr} {row : List Value} (h : WrIs k w c x row) (g : Evo k k' C w w') (hi : ¬ C IM) (h0 : ¬ C c) (h1 : ¬ C (c + 1)) : WrIs k' w' c x row := by
  obtain ⟨vN, vC, vV, a, b, d, e⟩ := h.ex
  exact ⟨⟨vN, vC, vV, a, b.evo g h0 hi, d.evo g hi, e.evo g h1⟩, h.h6, h.n6⟩
theorem SegsX.evo {srows : List (List Value)} {segs : List XSeg} (h : SegsX k w srows segs) (g : Evo k k' C w w') (hi : ¬ C IM) : SegsX k' w' srows segs :=
  ⟨h.l1, h.l2, fun i a b => let ⟨vc, p, q, r⟩ := h.all i a b; ⟨vc, p, q.evo g hi, r⟩⟩
theorem WrsX.evo {v : Value} {wrows : List (List Value)} {wrs : List XWr} (h : WrsX k w v wrows wrs) (g : Evo k k' C w w') (hi : ¬ C IM) (h0 : ¬ C cXW) (h1 : ∀ c, 110 ≤ c → c < 130 → ¬ C c) : WrsX k' w' v wrows wrs := by
  have l1 := h.l1
  have l2 := h.l2
  exact ⟨h.own.evo g h0, l1, l2, fun i a b => (h.all i a b).evo g hi (h1 _ (by unfold cWr; omega) (by unfold cWr; omega)) (h1 _ (by unfold cWr; omega) (by unfold cWr; omega))⟩
theorem XVolIs.evo {px : Nat} {x : XVol} (h : XVolIs k w px x) (g : Evo k k' C w w') (hi : ¬ C IM) (h1 : ∀ c, 100 ≤ c → c < 200 → ¬ C c) : XVolIs k' w' px x := by
  obtain ⟨vM, vW, sr, wr, a, b, c, d⟩ := h.ex
  exact ⟨vM, vW, sr, wr, a.evo g (h1 _ (by decide) (by decide)), b.evo g (h1 _ (by decide) (by decide)) hi, c.evo g hi, d.evo g hi (h1 _ (by decide) (by decide)) (fun c a b => h1 c (by omega) (by omega))⟩

/-- The network alone has changed. -/
theorem XVolIs.with_net {px : Nat} {x : XVol} {vM vM' vW : Value} {srows wrows : List (List Value)} {msgs : List Msg} (hS : SegsX k w srows x.segs) (hW : WrsX k w vW wrows x.wrs) (g : Evo k k' (fun c => c = cX ∨ c = cXM) w w')
    (hB : Blk k' w' cX px 87 ((volCells x.wi x.room vM srows vW).set 2 vM')) (hM : MsgsIs k' w' cXM vM' msgs) : XVolIs k' w' px { x with msgs := msgs } :=
  ⟨vM', vW, srows, wrows, hB, hM, hS.evo g (by decide), hW.evo g (by decide) (by decide) (fun c a b => by unfold cX cXM; omega)⟩
end

def cXN : Nat → Prop := fun c => c = cX ∨ c = cXM

theorem xsend_any {k : Nat → Nat} {w : World} {px : Nat} {x : XVol} (m : Msg) {vc vm : Value} (hx : XVolIs k w px x) (hok : XOk x) (hc : CutsIm k w vc m.cuts) (hm : IntsIm k w vm m.marks) (hmk : MsgOk m) :
    Calls Try.prog 61 #[.pointer (some ⟨px, 1, none⟩), .agg #[.int .i64 m.kind, .int .i64 m.frm, .int .i64 m.to_, .int .i64 m.epoch, .int .i64 m.lsn, .int .i64 m.value, .int .i64 m.scl, vc, vm]] w fun e w' => e = .returned (.tuple #[]) ∧ ∃ k', Evo k k' cXN w w' ∧ XVolIs k' w' px (x.send m) := by
  have hx0 := hx
  obtain ⟨vM, vW, sr, wr, hB, hM, hS, hW⟩ := hx.ex
  have hr := hok.rm
  unfold XVol.send
  by_cases hf : x.room ≤ (x.msgs.length : Int)
  · rw [if_pos hf]
    obtain ⟨z0, z1, z2, hz⟩ := Rows.shape hc
    subst hz
    obtain ⟨y0, y1, y2, hz⟩ := Rows.shape hm
    subst hz
    refine (xsend_full (room := x.room) (vM := vM) (msgs := x.msgs) _ _ _ _ _ _ _ _ _ _ _ _ _ hB rfl rfl hM hf).mono ?_
    rintro e w' ⟨rfl, hb⟩
    exact ⟨rfl, k, Evo.of_below hb, hx0.evo (Evo.of_below (C := noC) hb) (noC_not _) (fun c _ _ => noC_not c)⟩
  · rw [if_neg hf]
    refine (xsend_room (room := x.room) (vM := vM) (msgs := x.msgs) m hB rfl rfl hM hc hm (by have := hmk.1; omega) hmk.2 hf (by omega)).mono ?_
    rintro e w' ⟨rfl, k', vM', ev, hB', hM'⟩
    exact ⟨rfl, k', ev, XVolIs.with_net hS hW ev hB' hM'⟩

theorem XOk.send {x : XVol} (h : XOk x) (m : Msg) (hm : MsgOk m) : XOk (x.send m) := by
  unfold XVol.send
  split
  · exact h
  · rename_i hf
    have hr := h.rm
    refine ⟨h.rm, ?_, fun m' hm' => ?_, h.sk, h.wk⟩
    · simp only [List.length_append, List.length_singleton]; omega
    · rcases List.mem_append.1 hm' with h1 | h1
      · exact h.mo m' h1
      · rw [List.mem_singleton.1 h1]; exact hm

theorem XVol.sendAll_take (x : XVol) (l : List Msg) (j : Nat) (h : j < l.length) : x.sendAll (l.take (j + 1)) = (x.sendAll (l.take j)).send l[j] := by
  unfold XVol.sendAll; rw [List.take_succ_eq_append_getElem h, List.foldl_append]; rfl
theorem XOk.sendAll {x : XVol} (h : XOk x) (l : List Msg) (hl : ∀ m ∈ l, MsgOk m) : XOk (x.sendAll l) := by
  unfold XVol.sendAll
  induction l generalizing x with
  | nil => exact h
  | cons m r ih => exact ih (h.send m (hl m List.mem_cons_self)) (fun m' hm' => hl m' (List.mem_cons_of_mem _ hm'))

set_option maxRecDepth 3000 in
set_option maxHeartbeats 8000000 in
theorem xsendAll_any {k : Nat → Nat} {w : World} {px : Nat} {x : XVol} (l : List Msg) {v : Value} (hx : XVolIs k w px x) (hok : XOk x) (hl : MsgsIs k w 0 v l) (hll : l.length ≤ 4000000000) (hlk : ∀ m ∈ l, MsgOk m) :
    Calls Try.prog 54 #[.pointer (some ⟨px, 0, none⟩), v] w fun e w' => e = .returned (.tuple #[]) ∧ ∃ k', Evo k k' cXN w w' ∧ XVolIs k' w' px (x.sendAll l) := by
  obtain ⟨a, cap, hv, hcells⟩ := msgs_cells hl
  subst hv
  have hpl : px < w.heap.size := by obtain ⟨_, _, _, _, hB, _⟩ := hx.ex; exact hB.lt
  have HL := hide hl
  have HLK := hide hlk
  have H0 : Hid (∃ k', Evo k k' cXN w w ∧ XVolIs k' w px (x.sendAll (l.take 0))) := hide ⟨k, Evo.refl _ _ _, hx⟩
  clear hl hlk hcells
  go_enter Try.func54, Try.ntmps54
  go_wp2_with fail
  go_loopw [8] (fun i wr => ∃ j : Nat, j ≤ l.length ∧ i = .int .i64 j ∧ Hid (∃ k', Evo k k' cXN w wr ∧ XVolIs k' wr px (x.sendAll (l.take j)))) (fun i _ => l.length - (intOf i).toNat)
  case atStart => exact ⟨0, Nat.zero_le _, rfl, H0⟩
  case round =>
    obtain ⟨j, hj, rfl, hst⟩ := hrel
    by_cases hlt : j < l.length
    · obtain ⟨k1, ev, hv⟩ := hst.out
      have hl1 := HL.out.evo ev (by unfold cXN cX cXM; omega) (by unfold cXN cX cXM IM; omega)
      obtain ⟨a', cap', hv', hcells⟩ := msgs_cells hl1
      simp only [Value.slice.injEq, true_and] at hv'
      obtain ⟨ha', hc'⟩ := hv'
      subst ha' hc'
      obtain ⟨g, vc, vm, rfl, c0, c1, c2, c3, c4, c5, c6, c7, c8, hc, hm⟩ := hcells j hlt
      have hgl := World.block_lt_of_cell? wr _ c0
      have hpl1 : px < wr.heap.size := by obtain ⟨_, _, _, _, hB, _⟩ := hv.ex; exact hB.lt
      obtain ⟨z0, z1, z2, hz⟩ := Rows.shape hc
      subst hz
      obtain ⟨y0, y1, y2, hz⟩ := Rows.shape hm
      subst hz
      have HT := hide (XVol.sendAll_take x l j hlt)
      have hmk := HLK.out _ (List.getElem_mem hlt)
      have hok1 := hok.sendAll (l.take j) (fun m' hm' => HLK.out m' (List.mem_of_mem_take hm'))
      have HS : Hid (∀ W, Below wr.heap.size wr W → Calls Try.prog 61 #[.pointer (some ⟨px, 1, none⟩), .agg #[.int .i64 l[j].kind, .int .i64 l[j].frm, .int .i64 l[j].to_, .int .i64 l[j].epoch, .int .i64 l[j].lsn, .int .i64 l[j].value, .int .i64 l[j].scl, .slice z0 z1 z2, .slice y0 y1 y2]] W fun e w' => e = .returned (.tuple #[]) ∧ ∃ k', Evo k k' cXN w w' ∧ XVolIs k' w' px ((x.sendAll (l.take j)).send l[j])) := hide fun W hW => by
        have e0 : Evo k1 k1 noC wr W := Evo.of_below hW
        refine (xsend_any l[j] (hv.evo e0 (noC_not _) (fun c _ _ => noC_not c)) hok1 (hc.evo e0 (noC_not _)) (hm.evo e0 (noC_not _)) hmk).mono ?_
        rintro e w' ⟨rfl, k2, ev2, h2⟩
        exact ⟨rfl, k2, (ev.trans (e0.mono (fun _ h => h.elim))).trans ev2, h2⟩
      generalize l[j] = mj at *
      clear hcells hc hm hv hst hok1 hmk hl1
      go_wp2_with fail
      go_region_with (go_at_call 61; refine (HS.out _ (Below.drew ((Below.refl _ _).alloc (Nat.le_refl _) _))).mono ?_; rintro e2 w4 ⟨rfl, HY2⟩)
      all_goals go_wp2_with fail
      all_goals go_roundw
      case rel => exact ⟨j + 1, by omega, by go_num, hide (by rw [HT.out]; exact HY2)⟩
      case measure => simp [intOf]; omega
    · have hje : j = l.length := by omega
      have hd : decide ((j : Int) < (l.length : Int)) = false := by simp; omega
      have H9 : Hid (∃ k', Evo k k' cXN w wr ∧ XVolIs k' wr px (x.sendAll l)) := by rw [hje, List.take_length] at hst; exact hst
      clear hje hst
      go_wp2_with fail
      go_end0
      exact ⟨rfl, H9.out⟩
end Go.Proofs.Ytfpbkghcjaonlaa

/-
  The program: a writer: what is due.
-/
namespace Go.Proofs.Ytfpbkghcjaonlaa
open Go.RowKit

/-- A writer's cells lie at offset o of block b. -/
structure WrAt (k : Nat → Nat) (w : World) (c b o : Nat) (x : XWr) : Prop where
  ex : ∃ n0 n1 n2 c0 c1 c2 v0 v1 v2, (∀ j, j < 20 → w.cell? ⟨b, o + j, none⟩ = (wrRow x (.slice n0 n1 n2) (.slice c0 c1 c2) (.slice v0 v1 v2))[j]?) ∧ NotesIs k w c (.slice n0 n1 n2) x.notes ∧ CutsIm k w (.slice c0 c1 c2) x.cuts ∧ Rows k w (c + 1) 3 1 (.slice v0 v1 v2) (x.values.map intRow)
  h6 : x.heard.length = 6
  n6 : x.noted.length = 6

theorem WrAt.below {k : Nat → Nat} {w w' : World} {c b o : Nat} {x : XWr} (h : WrAt k w c b o x) (hb : Below w.heap.size w w') : WrAt k w' c b o x := by
  obtain ⟨n0, n1, n2, c0, c1, c2, v0, v1, v2, hc, h1, h2, h3⟩ := h.ex
  have ev : Evo k k noC w w' := Evo.of_below hb
  have hbl : b < w.heap.size := World.block_lt_of_cell? w ⟨b, o + 0, none⟩ (hc 0 (by omega))
  exact ⟨⟨n0, n1, n2, c0, c1, c2, v0, v1, v2, fun j hj => (hb.cell (p := ⟨b, o + j, none⟩) hbl).trans (hc j hj), h1.evo ev (noC_not _) (noC_not _), h2.evo ev (noC_not _), h3.evo ev (noC_not _)⟩, h.h6, h.n6⟩

theorem WrAt.lt {k : Nat → Nat} {w : World} {c b o : Nat} {x : XWr} (h : WrAt k w c b o x) : b < w.heap.size := by
  obtain ⟨n0, n1, n2, c0, c1, c2, v0, v1, v2, hc, _⟩ := h.ex
  exact World.block_lt_of_cell? w ⟨b, o + 0, none⟩ (hc 0 (by omega))

theorem wrRow_heard (x : XWr) (vN vC vV : Value) (s : Nat) (hs : s < 6) (h6 : x.heard.length = 6) : (wrRow x vN vC vV)[8 + s]? = some (.bool (x.heard.getD s false)) := by
  unfold wrRow
  rw [List.getElem?_append_right (by simp), List.getElem?_append_left (by simp; omega)]
  simp only [List.length_cons, List.length_nil, List.getElem?_map, Nat.add_sub_cancel_left]
  rw [List.getElem?_eq_getElem (by omega), List.getD_eq_getElem?_getD, List.getElem?_eq_getElem (by omega)]; rfl
theorem wrRow_noted (x : XWr) (vN vC vV : Value) (s : Nat) (hs : s < 6) (h6 : x.heard.length = 6) (n6 : x.noted.length = 6) : (wrRow x vN vC vV)[14 + s]? = some (.int .i64 (x.noted.getD s 0)) := by
  unfold wrRow
  rw [List.getElem?_append_right (by simp; omega), List.getElem?_append_right (by simp; omega)]
  simp only [List.length_cons, List.length_nil, List.length_map, List.getElem?_map, h6]
  rw [show 14 + s - (0 + 1 + 1 + 1 + 1 + 1 + 1 + 1 + 1) - 6 = s from by omega]
  rw [List.getElem?_eq_getElem (by omega), List.getD_eq_getElem?_getD, List.getElem?_eq_getElem (by omega)]; rfl

/-- The notes as the walk asks for them. -/
theorem notes_cells {k : Nat → Nat} {w : World} {c : Nat} {v : Value} {ns : List (Int × List (Int × Int) × List Int)} (h : NotesIs k w c v ns) :
    ∃ a cap, v = .slice a ns.length cap ∧ ∀ i, (hi : i < ns.length) → ∃ b z0 z1 z2 y0 y1 y2, a = some ⟨b, 0, none⟩ ∧ b < w.heap.size ∧ w.cell? ⟨b, i * 3, none⟩ = some (.int .i64 ns[i].1) ∧ w.cell? ⟨b, i * 3 + 1, none⟩ = some (.slice z0 z1 z2) ∧ w.cell? ⟨b, i * 3 + 2, none⟩ = some (.slice y0 y1 y2) ∧
      CutsIm k w (.slice z0 z1 z2) ns[i].2.1 ∧ IntsIm k w (.slice y0 y1 y2) ns[i].2.2 := by
  obtain ⟨rows, hR, hA⟩ := h
  obtain ⟨a, cap, rfl, _⟩ := hR.form
  have hlen := hA.1
  refine ⟨a, cap, by rw [hlen], fun i hi => ?_⟩
  obtain ⟨b, cap', hv, hk, hl, _, hc, hf⟩ := hR.at (by omega)
  simp at hv
  obtain ⟨vc, vm, hr, hcc, hmm⟩ := hA.2 i hi (by omega)
  obtain ⟨z0, z1, z2, hz⟩ := Rows.shape hcc
  subst hz
  obtain ⟨y0, y1, y2, hz⟩ := Rows.shape hmm
  subst hz
  have f : ∀ j, j < 3 → w.cell? ⟨b, i * 3 + j, none⟩ = (noteRow ns[i].1 (.slice z0 z1 z2) (.slice y0 y1 y2))[j]? := fun j hj => by rw [hc i j (by omega) hj, hr]
  exact ⟨b, z0, z1, z2, y0, y1, y2, hv.1, hl, f 0 (by omega), f 1 (by omega), f 2 (by omega), hcc, hmm⟩

theorem hasNote_take (x : XWr) (s : Int) (j : Nat) (h : j < x.notes.length) : (x.notes.take (j + 1)).any (fun n => n.1 == s) = ((x.notes.take j).any (fun n => n.1 == s) || (x.notes[j].1 == s)) := by
  rw [List.take_succ_eq_append_getElem h, List.any_append]; simp

set_option maxHeartbeats 2000000 in
theorem hasNote_any {k : Nat → Nat} {w : World} {c b o : Nat} {x : XWr} (s : Int) (h : WrAt k w c b o x) (hl : x.notes.length ≤ 4000000000) :
    Calls Try.prog 86 #[.pointer (some ⟨b, o, none⟩), .int .i64 s] w fun e w' => e = .returned (.bool (x.hasNote s)) ∧ Below w.heap.size w w' := by
  obtain ⟨n0, n1, n2, c0, c1, c2, v0, v1, v2, hc, h1, h2, h3⟩ := h.ex
  obtain ⟨a, cap, hv, hcells⟩ := notes_cells h1
  have q5 : w.cell? ⟨b, o + 5, none⟩ = some (.slice a x.notes.length cap) := (hc 5 (by omega)).trans (by rw [hv]; rfl)
  have hbl := h.lt
  obtain ⟨r, hr⟩ : ∃ r, r = x.hasNote s := ⟨_, rfl⟩
  rw [← hr]
  have HR := hide hr
  clear hc h1 h2 h3 h hr hv
  go_enter Try.func86, Try.ntmps86
  go_wp2_with fail
  go_loopw [12] (fun i wr => Below w.heap.size w wr ∧ ∃ j : Nat, i = .int .i64 j ∧ j ≤ x.notes.length ∧ Hid ((x.notes.take j).any (fun n => n.1 == s) = false)) (fun i _ => x.notes.length - (intOf i).toNat)
  case atStart => exact ⟨Below.refl _ _, 0, rfl, Nat.zero_le _, hide rfl⟩
  case round =>
    obtain ⟨hB, j, rfl, hj, hno⟩ := hrel
    have hsz := hB.size
    by_cases hlt : j < x.notes.length
    · obtain ⟨g, z0, z1, z2, y0, y1, y2, rfl, hgl, p0, p1, p2, _, _⟩ := hcells j hlt
      have u0 := (hB.cell (p := ⟨g, j * 3, none⟩) hgl).trans p0
      have u1 := (hB.cell (p := ⟨g, j * 3 + 1, none⟩) hgl).trans p1
      have u2 := (hB.cell (p := ⟨g, j * 3 + 2, none⟩) hgl).trans p2
      have HT := hide (hasNote_take x s j hlt)
      have HM := hide (List.getElem_mem hlt)
      generalize x.notes[j] = nj at *
      cases he : (nj.1 == s)
      · rw [he] at HT
        clear p0 p1 p2 hcells
        go_wp2_with fail
        go_roundw
        case rel => exact ⟨hB.alloc hsz _, j + 1, by go_num, by omega, hide (by rw [HT.out, hno.out]; rfl)⟩
        case measure => simp [intOf]; omega
      · have HE : Hid (r = true) := hide (by rw [HR.out]; unfold XWr.hasNote; rw [List.any_eq_true]; exact ⟨nj, HM.out, he⟩)
        clear p0 p1 p2 hcells
        go_wp2_with fail
        go_ret
        exact ⟨by rw [HE.out]; rfl, hB.alloc hsz _⟩
    · have hje : j = x.notes.length := by omega
      have hd : decide ((j : Int) < (x.notes.length : Int)) = false := by simp; omega
      have HE : Hid (r = false) := hide (by rw [HR.out]; have := hno.out; rw [hje, List.take_length] at this; exact this)
      clear hje
      go_wp2_with fail
      go_ret
      exact ⟨by rw [HE.out]; rfl, hB⟩

theorem cell_far9 {w1 : World} {b g o : Nat} {r0 r1 r2 r3 r4 r5 r6 r7 r8 : Value} (h : ¬ b = g) : (((((((((w1.setCell ⟨g, 0, none⟩ r0).setCell ⟨g, 1, none⟩ r1).setCell ⟨g, 2, none⟩ r2).setCell ⟨g, 3, none⟩ r3).setCell ⟨g, 4, none⟩ r4).setCell ⟨g, 5, none⟩ r5).setCell ⟨g, 6, none⟩ r6).setCell ⟨g, 7, none⟩ r7).setCell ⟨g, 8, none⟩ r8).cell? ⟨b, o, none⟩ = w1.cell? ⟨b, o, none⟩ := by
  repeat rw [World.cell?_setCell_far _ _ _ _ (fun e => h e.symm)]

/-- A message, and whether it is to be sent. -/
def DueAns (k : Nat → Nat) (w : World) (o : Option Msg) (v : Value) : Prop :=
  ∃ (mm : Msg) (z0 : Option Addr) (z1 z2 : Nat), v = .tuple #[.agg #[.int .i64 mm.kind, .int .i64 mm.frm, .int .i64 mm.to_, .int .i64 mm.epoch, .int .i64 mm.lsn, .int .i64 mm.value, .int .i64 mm.scl, .slice z0 z1 z2, .slice none 0 0], .bool o.isSome] ∧ CutsIm k w (.slice z0 z1 z2) mm.cuts ∧ mm.marks = [] ∧ ∀ m', o = some m' → m' = mm

theorem values_cell {k : Nat → Nat} {w : World} {c : Nat} {v0 : Option Addr} {v1 v2 : Nat} {l : List Int} (h : Rows k w c 3 1 (.slice v0 v1 v2) (l.map intRow)) : v1 = l.length ∧ ∀ i, (hi : i < l.length) → ∃ g, v0 = some ⟨g, 0, none⟩ ∧ w.cell? ⟨g, i, none⟩ = some (.int .i64 l[i]) := by
  obtain ⟨a, cap, hv, hc⟩ := ints_cells h
  simp only [Value.slice.injEq] at hv
  obtain ⟨rfl, rfl, rfl⟩ := hv
  exact ⟨rfl, fun i hi => hc i hi⟩

set_option maxRecDepth 3000 in
set_option maxHeartbeats 4000000 in
theorem xwrite_any {k : Nat → Nat} {w : World} {c b o : Nat} {x : XWr} (s lsn : Int) (h : WrAt k w c b o x) (h1 : 0 ≤ x.base) (h2 : x.base ≤ 4000000000) (h3 : 0 ≤ lsn) (h4 : lsn ≤ 4000000000) (h5 : x.values.length ≤ 4000000000) :
    Calls Try.prog 85 #[.pointer (some ⟨b, o, none⟩), .int .i64 s, .int .i64 lsn] w fun e w' => (∃ v, e = .returned v ∧ ∀ w2, DueAns k w2 (x.write s lsn) v) ∧ Below w.heap.size w w' := by
  obtain ⟨n0, n1, n2, c0, c1, c2, v0, v1, v2, hc, _, _, hV⟩ := h.ex
  obtain ⟨rfl, hvals⟩ := values_cell hV
  have q0 : w.cell? ⟨b, o, none⟩ = some (.int .i64 x.number) := hc 0 (by omega)
  have q2 : w.cell? ⟨b, o + 2, none⟩ = some (.int .i64 x.base) := hc 2 (by omega)
  have q7 : w.cell? ⟨b, o + 7, none⟩ = some (.slice v0 x.values.length v2) := hc 7 (by omega)
  have hbl := h.lt
  have hbn : ¬ b = w.heap.size := by omega
  clear hc h hV
  by_cases ha : lsn - x.base - 1 < 0
  · have HE : Hid (x.write s lsn = none) := hide (by unfold XWr.write; rw [if_pos ha])
    have hd : decide (lsn - x.base - 1 < 0) = true := by simpa using ha
    go_enter Try.func85, Try.ntmps85
    go_wp2_with fail
    refine bodyPost_ret (v := .tuple #[.agg #[.int .i64 0, .int .i64 0, .int .i64 0, .int .i64 0, .int .i64 0, .int .i64 0, .int .i64 0, .slice none 0 0, .slice none 0 0], .bool false]) (by simp [results, Try.results85, go_sem]) rfl ⟨⟨_, rfl, fun w2 => ?_⟩, (Below.refl _ _).alloc (Nat.le_refl _) _⟩
    rw [HE.out]
    exact ⟨m0, none, 0, 0, rfl, Rows.nil _ _ _ _ _, rfl, fun m' hm' => by simp at hm'⟩
  · have hd : decide (lsn - x.base - 1 < 0) = false := by simpa using ha
    by_cases hb : (x.values.length : Int) ≤ lsn - x.base - 1
    · have HE : Hid (x.write s lsn = none) := hide (by unfold XWr.write; rw [if_neg ha, if_pos hb])
      go_enter Try.func85, Try.ntmps85
      go_wp2_with fail
      refine bodyPost_ret (v := .tuple #[.agg #[.int .i64 0, .int .i64 0, .int .i64 0, .int .i64 0, .int .i64 0, .int .i64 0, .int .i64 0, .slice none 0 0, .slice none 0 0], .bool false]) (by simp [results, Try.results85, go_sem]) rfl ⟨⟨_, rfl, fun w2 => ?_⟩, (Below.refl _ _).alloc (Nat.le_refl _) _⟩
      rw [HE.out]
      exact ⟨m0, none, 0, 0, rfl, Rows.nil _ _ _ _ _, rfl, fun m' hm' => by simp at hm'⟩
    · obtain ⟨i, hi⟩ := Int.eq_ofNat_of_zero_le (show 0 ≤ lsn - x.base - 1 by omega)
      have hil : i < x.values.length := by omega
      obtain ⟨g, rfl, p0⟩ := hvals i hil
      have hgl : g < w.heap.size := World.block_lt_of_cell? w _ p0
      have hgn : ¬ g = w.heap.size := by omega
      have HE : Hid (x.write s lsn = some ⟨6, x.number, s, x.number, lsn, x.values[i], 0, [], []⟩) := hide (by
        unfold XWr.write; rw [if_neg ha, if_neg hb, hi, Int.toNat_natCast, List.getD_eq_getElem?_getD, List.getElem?_eq_getElem hil]; rfl)
      obtain ⟨df, hdf⟩ : ∃ df, lsn - x.base = df := ⟨_, rfl⟩
      have hdf1 : df - 1 = (i : Int) := by omega
      have hili : (i : Int) < (x.values.length : Int) := by omega
      generalize x.values[i] = vi at *
      have ha' : decide ((i : Int) < 0) = false := by simp
      have hb' : decide ((x.values.length : Int) ≤ (i : Int)) = false := by simp; omega
      clear ha hb hd hi hvals
      go_enter Try.func85, Try.ntmps85
      go_wp2_with fail
      go_region_held3 (fun W => W.cell? ⟨b, o, none⟩ = some (.int .i64 x.number) ∧ W.cell? ⟨b, o + 7, none⟩ = some (.slice (some ⟨g, 0, none⟩) x.values.length v2) ∧ W.cell? ⟨g, i, none⟩ = some (.int .i64 vi)) (go_keep) (fail)
      go_wp2_with fail
      refine bodyPost_ret (v := .tuple #[.agg #[.int .i64 6, .int .i64 x.number, .int .i64 s, .int .i64 x.number, .int .i64 lsn, .int .i64 vi, .int .i64 0, .slice none 0 0, .slice none 0 0], .bool true]) (by simp [results, Try.results85, go_sem]) rfl ⟨⟨_, rfl, fun w2 => ?_⟩, ((Below.refl _ _).alloc (Nat.le_refl _) _).drew⟩
      rw [HE.out]
      exact ⟨⟨6, x.number, s, x.number, lsn, vi, 0, [], []⟩, none, 0, 0, rfl, Rows.nil _ _ _ _ _, rfl, fun m' hm' => by simpa using hm'.symm⟩

end Go.Proofs.Ytfpbkghcjaonlaa

/-
  The program: dueTo.
-/
namespace Go.Proofs.Ytfpbkghcjaonlaa
open Go.RowKit

set_option maxRecDepth 3000 in
set_option maxHeartbeats 8000000 in
theorem dueTo_any {k : Nat → Nat} {w w0 : World} {c b o : Nat} {x : XWr} (s : Nat) (hs : s < 6) (h : WrAt k w c b o x) (hC0 : ∀ c0 c1 c2, w.cell? ⟨b, o + 6, none⟩ = some (.slice c0 c1 c2) → CutsIm k w0 (.slice c0 c1 c2) x.cuts) (h1 : 0 ≤ x.base) (h2 : x.base ≤ 4000000000) (h3 : ∀ n ∈ x.noted, 0 ≤ n ∧ n ≤ 3000000000) (h5 : x.values.length ≤ 4000000000) (hl : x.notes.length ≤ 4000000000) :
    Calls Try.prog 72 #[.pointer (some ⟨b, o, none⟩), .int .i64 s] w fun e w' => (∃ v, e = .returned v ∧ DueAns k w0 (x.dueTo s) v) ∧ Below w.heap.size w w' := by
  have hbl := h.lt
  have hbn : ¬ b = w.heap.size := by omega
  have HN : Hid (∀ W, Below w.heap.size w W → Calls Try.prog 86 #[.pointer (some ⟨b, o, none⟩), .int .i64 s] W fun e w' => e = .returned (.bool (x.hasNote s)) ∧ Below W.heap.size W w') := hide fun W hW => hasNote_any s (h.below hW) hl
  have hns : 0 ≤ x.noted.getD s 0 ∧ x.noted.getD s 0 ≤ 3000000000 := by
    have n6 := h.n6
    rw [List.getD_eq_getElem?_getD, List.getElem?_eq_getElem (by omega)]
    exact h3 _ (List.getElem_mem _)
  have HWt : Hid (∀ W, Below w.heap.size w W → Calls Try.prog 85 #[.pointer (some ⟨b, o, none⟩), .int .i64 s, .int .i64 (x.noted.getD s 0 + 1)] W fun e w' => (∃ v, e = .returned v ∧ DueAns k w0 (x.write s (x.noted.getD s 0 + 1)) v) ∧ Below W.heap.size W w') := hide fun W hW => by
    refine (xwrite_any s (x.noted.getD s 0 + 1) (h.below hW) h1 h2 (by omega) (by omega) h5).mono ?_
    rintro e w' ⟨⟨v, rfl, hv⟩, hb⟩
    exact ⟨⟨v, rfl, hv w0⟩, hb⟩
  obtain ⟨n0, n1, n2, c0, c1, c2, v0, v1, v2, hc, _, _, hV⟩ := h.ex
  have q0 : w.cell? ⟨b, o, none⟩ = some (.int .i64 x.number) := hc 0 (by omega)
  have q1 : w.cell? ⟨b, o + 1, none⟩ = some (.int .i64 x.phase) := hc 1 (by omega)
  have q6 : w.cell? ⟨b, o + 6, none⟩ = some (.slice c0 c1 c2) := hc 6 (by omega)
  have hC := hC0 _ _ _ q6
  have q8 : w.cell? ⟨b, o + 8 + s, none⟩ = some (.bool (x.heard.getD s false)) := by have := (hc (8 + s) (by omega)).trans (wrRow_heard x _ _ _ s hs h.h6); rwa [← Nat.add_assoc] at this
  have q14 : w.cell? ⟨b, o + 14 + s, none⟩ = some (.int .i64 (x.noted.getD s 0)) := by have := (hc (14 + s) (by omega)).trans (wrRow_noted x _ _ _ s hs h.h6 h.n6); rwa [← Nat.add_assoc] at this
  have hs6 : (s : Int) < 6 := by omega
  obtain ⟨rr, hrr⟩ : ∃ rr, rr = x.dueTo s := ⟨_, rfl⟩
  rw [← hrr]
  have HRR := hide hrr
  clear hc h hV hrr hC0
  by_cases p1 : x.phase = 1
  · have HE : Hid (rr = if x.hasNote s then none else some ⟨1, x.number, s, x.number, 0, 0, 0, [], []⟩) := hide (by rw [HRR.out]; unfold XWr.dueTo; rw [if_pos p1])
    rw [p1] at q1
    generalize x.hasNote (s : Int) = hn at *
    have HS0 : Hid ((w.alloc (Obj.cells #[.int .i64 0, .int .i64 0, .int .i64 0, .int .i64 0, .int .i64 0, .int .i64 0, .int .i64 0, .slice none 0 0, .slice none 0 0] 99)).drew.cell? ⟨b, o, none⟩ = some (.int .i64 x.number)) := hide ((World.cell?_alloc_lt w _ ⟨b, o, none⟩ hbl).trans q0)
    have HZ : Hid (∀ w1, Below (w.alloc (Obj.cells #[.int .i64 0, .int .i64 0, .int .i64 0, .int .i64 0, .int .i64 0, .int .i64 0, .int .i64 0, .slice none 0 0, .slice none 0 0] 99)).drew.heap.size (w.alloc (Obj.cells #[.int .i64 0, .int .i64 0, .int .i64 0, .int .i64 0, .int .i64 0, .int .i64 0, .int .i64 0, .slice none 0 0, .slice none 0 0] 99)).drew w1 → w1.cell? ⟨w.heap.size, 0, none⟩ = some (.int .i64 0) ∧ w1.cell? ⟨w.heap.size, 1, none⟩ = some (.int .i64 0) ∧ w1.cell? ⟨w.heap.size, 2, none⟩ = some (.int .i64 0) ∧ w1.cell? ⟨w.heap.size, 3, none⟩ = some (.int .i64 0) ∧ w1.cell? ⟨w.heap.size, 4, none⟩ = some (.int .i64 0) ∧ w1.cell? ⟨w.heap.size, 5, none⟩ = some (.int .i64 0) ∧ w1.cell? ⟨w.heap.size, 6, none⟩ = some (.int .i64 0) ∧ w1.cell? ⟨w.heap.size, 7, none⟩ = some (.slice none 0 0) ∧ w1.cell? ⟨w.heap.size, 8, none⟩ = some (.slice none 0 0) ∧ w1.frozen? ⟨w.heap.size, 0, none⟩ = false ∧ w1.frozen? ⟨w.heap.size, 1, none⟩ = false ∧ w1.frozen? ⟨w.heap.size, 2, none⟩ = false ∧ w1.frozen? ⟨w.heap.size, 3, none⟩ = false ∧ w1.frozen? ⟨w.heap.size, 4, none⟩ = false ∧ w1.frozen? ⟨w.heap.size, 5, none⟩ = false ∧ w1.frozen? ⟨w.heap.size, 6, none⟩ = false ∧ w1.frozen? ⟨w.heap.size, 7, none⟩ = false ∧ w1.frozen? ⟨w.heap.size, 8, none⟩ = false ∧ w.heap.size < w1.heap.size ∧ w1.cell? ⟨b, o, none⟩ = some (.int .i64 x.number)) := hide fun w1 hb1 => by
      have bz : Blk (fun _ => 0) w1 0 w.heap.size 99 [.int .i64 0, .int .i64 0, .int .i64 0, .int .i64 0, .int .i64 0, .int .i64 0, .int .i64 0, .slice none 0 0, .slice none 0 0] := ⟨(hb1.block w.heap.size (by simp)).trans (heap_alloc_new w _), rfl⟩
      have hbw : Below w.heap.size w w1 := (((Below.refl _ _).alloc (Nat.le_refl _) _).drew).trans (hb1.mono (by simp))
      exact ⟨bz.cell 0, bz.cell 1, bz.cell 2, bz.cell 3, bz.cell 4, bz.cell 5, bz.cell 6, bz.cell 7, bz.cell 8, bz.free 0, bz.free 1, bz.free 2, bz.free 3, bz.free 4, bz.free 5, bz.free 6, bz.free 7, bz.free 8, bz.lt, (hbw.cell (p := ⟨b, o, none⟩) hbl).trans q0⟩
    clear p1
    go_enter Try.func72, Try.ntmps72
    go_wp2_with fail

    go_region_held3 (fun W => W.cell? ⟨b, o, none⟩ = some (.int .i64 x.number)) (first | with_reducible exact HS0.out | with_reducible exact zq | with_reducible exact (cell_far9 hbn).trans zq)
      (first | (go_at_call 86; refine (HN.out _ (Below.drew ((Below.refl _ _).alloc (Nat.le_refl _) _))).mono ?_; rintro e1 w1 ⟨rfl, hb1⟩; obtain ⟨zc0, zc1, zc2, zc3, zc4, zc5, zc6, zc7, zc8, zf0, zf1, zf2, zf3, zf4, zf5, zf6, zf7, zf8, zl, zq⟩ := HZ.out w1 hb1))
    go_wp2_with fail
    have hbw : Below w.heap.size w w1 := (((Below.refl _ _).alloc (Nat.le_refl _) _).drew).trans (hb1.mono (by simp))
    refine bodyPost_ret (v := .tuple #[.agg #[.int .i64 1, .int .i64 x.number, .int .i64 s, .int .i64 x.number, .int .i64 0, .int .i64 0, .int .i64 0, .slice none 0 0, .slice none 0 0], .bool !hn]) (by simp [results, Try.results72, go_sem, zc0, zc1, zc2, zc3, zc4, zc5, zc6, zc7, zc8]) rfl ⟨⟨_, rfl, ?_⟩, below9 hbw (Nat.le_refl w.heap.size) (.int .i64 1) (.int .i64 x.number) (.int .i64 s) (.int .i64 x.number) (.int .i64 0) (.int .i64 0) (.int .i64 0) (.slice none 0 0) (.slice none 0 0)⟩
    rw [HE.out]
    cases hn
    · exact ⟨⟨1, x.number, s, x.number, 0, 0, 0, [], []⟩, none, 0, 0, rfl, Rows.nil _ _ _ _ _, rfl, fun m' hm' => by simpa using hm'.symm⟩
    · exact ⟨⟨1, x.number, s, x.number, 0, 0, 0, [], []⟩, none, 0, 0, rfl, Rows.nil _ _ _ _ _, rfl, fun m' hm' => by simp at hm'⟩
  · have d1 : (x.phase == 1) = false := by simpa using p1
    by_cases p23 : x.phase = 2 ∨ x.phase = 3
    · have HE : Hid (rr = if x.heard.getD s false then x.write s (x.noted.getD s 0 + 1) else some ⟨3, x.number, s, x.number, 0, 0, 0, x.cuts, []⟩) := hide (by rw [HRR.out]; unfold XWr.dueTo; rw [if_neg p1, if_pos p23])
      have d23 : x.phase = 2 ∨ ((x.phase == 2) = false ∧ x.phase = 3) := by
        rcases p23 with h | h
        · exact .inl h
        · exact .inr ⟨by simp [h], h⟩
      have hw : IntKind.i64.wrap (x.noted.getD s 0 + 1) = x.noted.getD s 0 + 1 := by rw [IntKind.wrap_i64] <;> omega
      generalize x.noted.getD s 0 = nt at *
      generalize x.heard.getD s false = hd at *
      generalize x.phase = ph at *
      clear p1 p23 HRR
      cases hd
      · have HC := hide hC
        clear hC
        rcases d23 with rfl | ⟨d2, rfl⟩
        all_goals
          go_enter Try.func72, Try.ntmps72
          go_wp2_with fail
          go_region_held3 (fun W => W.cell? ⟨b, o, none⟩ = some (.int .i64 x.number) ∧ W.cell? ⟨b, o + 6, none⟩ = some (.slice c0 c1 c2)) (go_keep) (fail)
          go_wp2_with fail
          refine bodyPost_ret (v := .tuple #[.agg #[.int .i64 3, .int .i64 x.number, .int .i64 s, .int .i64 x.number, .int .i64 0, .int .i64 0, .int .i64 0, .slice c0 c1 c2, .slice none 0 0], .bool true]) (by simp [results, Try.results72, go_sem]) rfl ⟨⟨_, rfl, ?_⟩, ((Below.refl _ _).alloc (Nat.le_refl _) _).drew⟩
          rw [HE.out]
          exact ⟨⟨3, x.number, s, x.number, 0, 0, 0, x.cuts, []⟩, c0, c1, c2, rfl, HC.out, rfl, fun m' hm' => by simpa using hm'.symm⟩
      · rcases d23 with rfl | ⟨d2, rfl⟩
        all_goals
          go_enter Try.func72, Try.ntmps72
          go_wp2_with fail
          refine (HWt.out _ ((Below.refl _ _).alloc (Nat.le_refl _) _)).mono ?_
          rintro e1 w1 ⟨⟨v, rfl, mm, z0, z1, z2, rfl, hcz, hmz, hsome⟩, hb1⟩
          have hb0 : Below w.heap.size w (w.alloc (Obj.cells #[.int .i64 0, .int .i64 0, .int .i64 0, .int .i64 0, .int .i64 0, .int .i64 0, .int .i64 0, .slice none 0 0, .slice none 0 0] 99)) := (Below.refl _ _).alloc (Nat.le_refl _) _
          have hbw : Below w.heap.size w w1 := hb0.trans (hb1.mono (by simp))
          have bz : Blk (fun _ => 0) w1 0 w.heap.size 99 [.int .i64 0, .int .i64 0, .int .i64 0, .int .i64 0, .int .i64 0, .int .i64 0, .int .i64 0, .slice none 0 0, .slice none 0 0] := ⟨(hb1.block w.heap.size (by simp)).trans (heap_alloc_new w _), rfl⟩
          have zc0 : w1.cell? ⟨w.heap.size, 0, none⟩ = some (.int .i64 0) := bz.cell 0
          have zc1 : w1.cell? ⟨w.heap.size, 1, none⟩ = some (.int .i64 0) := bz.cell 1
          have zc2 : w1.cell? ⟨w.heap.size, 2, none⟩ = some (.int .i64 0) := bz.cell 2
          have zc3 : w1.cell? ⟨w.heap.size, 3, none⟩ = some (.int .i64 0) := bz.cell 3
          have zc4 : w1.cell? ⟨w.heap.size, 4, none⟩ = some (.int .i64 0) := bz.cell 4
          have zc5 : w1.cell? ⟨w.heap.size, 5, none⟩ = some (.int .i64 0) := bz.cell 5
          have zc6 : w1.cell? ⟨w.heap.size, 6, none⟩ = some (.int .i64 0) := bz.cell 6
          have zc7 : w1.cell? ⟨w.heap.size, 7, none⟩ = some (.slice none 0 0) := bz.cell 7
          have zc8 : w1.cell? ⟨w.heap.size, 8, none⟩ = some (.slice none 0 0) := bz.cell 8
          have zf0 := bz.free 0
          have zf1 := bz.free 1
          have zf2 := bz.free 2
          have zf3 := bz.free 3
          have zf4 := bz.free 4
          have zf5 := bz.free 5
          have zf6 := bz.free 6
          have zf7 := bz.free 7
          have zf8 := bz.free 8
          have zl := bz.lt
          generalize x.write (s : Int) (nt + 1) = ow at *
          have HQ := hide (And.intro hcz (And.intro hmz hsome))
          clear hcz hmz hsome bz hb1
          go_wp2_with fail
          refine bodyPost_ret (v := .tuple #[.agg #[.int .i64 mm.kind, .int .i64 mm.frm, .int .i64 mm.to_, .int .i64 mm.epoch, .int .i64 mm.lsn, .int .i64 mm.value, .int .i64 mm.scl, .slice z0 z1 z2, .slice none 0 0], .bool ow.isSome]) (by simp [results, Try.results72, go_sem, zc0, zc1, zc2, zc3, zc4, zc5, zc6, zc7, zc8]) rfl ⟨⟨_, rfl, ?_⟩, below9 hbw (Nat.le_refl w.heap.size) (.int .i64 mm.kind) (.int .i64 mm.frm) (.int .i64 mm.to_) (.int .i64 mm.epoch) (.int .i64 mm.lsn) (.int .i64 mm.value) (.int .i64 mm.scl) (.slice z0 z1 z2) (.slice none 0 0)⟩
          rw [HE.out]
          exact ⟨mm, z0, z1, z2, rfl, HQ.out.1, HQ.out.2.1, HQ.out.2.2⟩
    · have HE : Hid (rr = none) := hide (by rw [HRR.out]; unfold XWr.dueTo; rw [if_neg p1, if_neg p23])
      have d2 : (x.phase == 2) = false := by simp; exact fun h => p23 (.inl h)
      have d3 : (x.phase == 3) = false := by simp; exact fun h => p23 (.inr h)
      go_enter Try.func72, Try.ntmps72
      go_wp2_with fail
      refine bodyPost_ret (v := .tuple #[.agg #[.int .i64 0, .int .i64 0, .int .i64 0, .int .i64 0, .int .i64 0, .int .i64 0, .int .i64 0, .slice none 0 0, .slice none 0 0], .bool false]) (by simp [results, Try.results72, go_sem]) rfl ⟨⟨_, rfl, ?_⟩, (Below.refl _ _).alloc (Nat.le_refl _) _⟩
      rw [HE.out]
      exact ⟨m0, none, 0, 0, rfl, Rows.nil _ _ _ _ _, rfl, fun m' hm' => by simp at hm'⟩

theorem due_take (x : XWr) (j : Nat) : ((List.range (j + 1)).filterMap x.dueTo) = ((List.range j).filterMap x.dueTo) ++ (x.dueTo j).toList := by
  rw [List.range_succ, List.filterMap_append]
  cases h : x.dueTo j <;> simp [h]

/-- A list of messages that is being built; its lists are older. -/
def MsgsMade (k : Nat → Nat) (w0 w : World) (v : Value) (l : List Msg) : Prop := ∃ rows, Made w w0.heap.size 99 9 v rows ∧ All2 (MsgIs k w0) l rows

theorem MsgsMade.is {k : Nat → Nat} {w0 w : World} {v : Value} {l : List Msg} (h : MsgsMade k w0 w v l) (hb : Below w0.heap.size w0 w) : ∃ k', Evo k k' noC w0 w ∧ MsgsIs k' w 0 v l := by
  obtain ⟨rows, h1, h2⟩ := h
  have ev : Evo k (fun g => if g < w0.heap.size then k g else 0) noC w0 w := (Evo.of_below (k := k) hb).recolour _ (fun i hi => if_pos hi)
  exact ⟨_, ev, rows, h1.colour (c := 0) (fun g hg => if_neg (by have := (Made.block h1 g hg).1; omega)), h2.imp fun _ _ x => x.evo ev (noC_not _)⟩

set_option maxRecDepth 3000 in
set_option maxHeartbeats 8000000 in
theorem due_any {k : Nat → Nat} {w : World} {c b o : Nat} {x : XWr} (h : WrAt k w c b o x) (h1 : 0 ≤ x.base) (h2 : x.base ≤ 4000000000) (h3 : ∀ n ∈ x.noted, 0 ≤ n ∧ n ≤ 3000000000) (h5 : x.values.length ≤ 4000000000) (hl : x.notes.length ≤ 4000000000) :
    Calls Try.prog 53 #[.pointer (some ⟨b, o, none⟩)] w fun e w' => (∃ v, e = .returned v ∧ MsgsMade k w w' v x.due) ∧ Below w.heap.size w w' := by
  have HD : Hid (∀ s, s < 6 → ∀ W, Below w.heap.size w W → Calls Try.prog 72 #[.pointer (some ⟨b, o, none⟩), .int .i64 (s : Nat)] W fun e w' => (∃ v, e = .returned v ∧ DueAns k w (x.dueTo s) v) ∧ Below W.heap.size W w') := hide fun s hs W hW => by
    refine dueTo_any s hs (h.below hW) (fun c0 c1 c2 hq => ?_) h1 h2 h3 h5 hl
    obtain ⟨n0, n1, n2, d0, d1, d2, v0, v1, v2, hc, _, hC, _⟩ := h.ex
    have h6 : w.cell? ⟨b, o + 6, none⟩ = some (.slice d0 d1 d2) := hc 6 (by omega)
    rw [(hW.cell (p := ⟨b, o + 6, none⟩) h.lt), h6] at hq
    simp only [Option.some.injEq] at hq
    rw [← hq]; exact hC
  clear h h1 h2 h3 h5 hl
  have H0 : Hid (∃ rows, Made w w.heap.size 99 9 (.slice none 0 0) rows ∧ All2 (MsgIs k w) ((List.range 0).filterMap x.dueTo) rows) := hide ⟨[], Made.nil _ _ _ _, rfl, fun i h1 => by simp at h1⟩
  go_enter Try.func53, Try.ntmps53
  go_wp2_with fail
  go_loopw [3, 4] (fun v i wr => Below w.heap.size w wr ∧ ∃ j : Nat, j ≤ 6 ∧ i = .int .i64 j ∧ Hid (∃ rows, Made wr w.heap.size 99 9 v rows ∧ All2 (MsgIs k w) ((List.range j).filterMap x.dueTo) rows)) (fun _ i _ => 6 - (intOf i).toNat)
  case atStart => exact ⟨Below.refl _ _, 0, by omega, rfl, H0⟩
  case round =>
    obtain ⟨hB, j, hj, rfl, hst⟩ := hrel
    obtain ⟨rows, hM, hA⟩ := hst.out
    obtain ⟨ma, mcap, hmv⟩ := hM.form
    have hsz := hB.size
    have hrl : rows.length ≤ 6 := by
      rw [← hA.1]
      exact Nat.le_trans (List.length_filterMap_le _ _) (by simp; omega)
    by_cases hlt : j < 6
    · have hd : decide ((j : Int) < 6) = true := by simp; omega
      have HDj := hide (HD.out j hlt wr hB)
      have HT := hide (due_take x j)
      generalize hdj : x.dueTo j = dj at *
      clear hdj hst
      go_wp2_with fail
      refine HDj.out.mono ?_
      rintro e1 w1 ⟨⟨v, rfl, mm, z0, z1, z2, rfl, hcz, hmz, hsome⟩, hb1⟩
      have hB1 : Below w.heap.size w w1 := hB.trans (hb1.mono hsz)
      have HQ := hide (And.intro hcz (And.intro hmz hsome))
      clear hcz hmz hsome
      cases dj with
      | none =>
        simp only [Option.isSome]
        go_wp2_with fail
        go_roundw
        case rel => exact ⟨hB1.alloc hB1.size _, j + 1, by omega, by go_num, hide ⟨rows, (hM.kept hb1).kept ((Below.refl _ _).alloc (Nat.le_refl _) _), by rw [HT.out]; simpa using hA⟩⟩
        case measure => simp [intOf]; omega
      | some m' =>
        simp only [Option.isSome]
        subst hmv
        have hM2 := (hM.kept hb1).kept (((Below.refl _ _).alloc (Nat.le_refl _) (Obj.cells #[.int .i64 mm.kind, .int .i64 mm.frm, .int .i64 mm.to_, .int .i64 mm.epoch, .int .i64 mm.lsn, .int .i64 mm.value, .int .i64 mm.scl, .slice z0 z1 z2, .slice none 0 0] 99)).alloc (by simp) (Obj.cells #[.int .i64 mm.kind, .int .i64 mm.frm, .int .i64 mm.to_, .int .i64 mm.epoch, .int .i64 mm.lsn, .int .i64 mm.value, .int .i64 mm.scl, .slice z0 z1 z2, .slice none 0 0] 99))
        go_wp2_with (at_builtin; go_must (refine wpList_append_made (.tmp 18) (.tmp 20) 76 99 _ 9 104 _ rows rows.length [.int .i64 mm.kind, .int .i64 mm.frm, .int .i64 mm.to_, .int .i64 mm.epoch, .int .i64 mm.lsn, .int .i64 mm.value, .int .i64 mm.scl, .slice z0 z1 z2, .slice none 0 0] w.heap.size ⟨w1.heap.size + 1, 0, none⟩ 1 rfl rfl rfl Try.underlying76 Try.infoMessage rfl (by decide) rfl rfl hM2 rfl (cell_two_new' _ _ _ _) (by simp [Value.oneCell']) (by simp only [maxLen]; omega) (by omega) (by have := hB1.size; simp; omega) ?_; intro ao cap2 w2 hM3 hB3))
        go_roundw
        case rel =>
          refine ⟨((hB1.alloc hB1.size _).alloc (by have := hB1.size; simp; omega) _).trans hB3, j + 1, by omega, by go_num, hide ⟨rows ++ [[.int .i64 mm.kind, .int .i64 mm.frm, .int .i64 mm.to_, .int .i64 mm.epoch, .int .i64 mm.lsn, .int .i64 mm.value, .int .i64 mm.scl, .slice z0 z1 z2, .slice none 0 0]], by simpa using hM3, ?_⟩⟩
          rw [HT.out]
          have he := HQ.out.2.2 m' rfl
          subst he
          exact All2.snoc hA ⟨_, _, rfl, HQ.out.1, by rw [HQ.out.2.1]; exact Rows.nil _ _ _ _ _⟩
        case measure => simp [intOf]; omega
    · have hj6 : j = 6 := by omega
      have hd : decide ((j : Int) < 6) = false := by simp; omega
      have HM := hide (And.intro hM (And.intro hA hj6))
      clear hM hA hst hj6
      go_wp2_with fail
      go_ret
      obtain ⟨hM, hA, hj6⟩ := HM.out
      exact ⟨⟨_, rfl, rows, hM, by rw [hj6] at hA; exact hA⟩, hB⟩
end Go.Proofs.Ytfpbkghcjaonlaa
