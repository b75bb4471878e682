import Derived.Test.YtfpbkghcjaonlaaJ04
import Derived.Test.YtfpbkghcjaonlaaJ02
import Derived.Deep.RegionHeldLaw
import Derived.Test.YtfpbkghcjaonlaaJ03
/-
  A new volume on both sides.
-/
namespace Go.Proofs.Ytfpbkghcjaonlaa
open Go.RowKit

def cX : Nat := 100
def r0 (a b : Int) : RVol := ⟨a, b, [], List.replicate 6 seg0, []⟩
def xseg0 : XSeg := ⟨true, 0, [], List.replicate 40 (0, 0, 0)⟩

theorem segNewRow_eq : segNewRow = xsegRow xseg0 (.slice none 0 0) := by kernel_rfl
theorem newRows6 : newRows 6 = List.replicate 6 segNewRow := by simp [newRows]
theorem xscl0 : xscl xseg0 = 0 := by kernel_rfl
theorem xrecs0 (st : Int) (h : (0 == st) = false) : xrecsUp xseg0.places st 40 = [] := by
  unfold xrecsUp
  rw [List.filterMap_eq_nil_iff]
  intro i _
  cases hi : xseg0.places[i]? with
  | none => rfl
  | some p =>
    have hm := List.mem_of_getElem? hi
    have hp : p = (0, 0, 0) := List.eq_of_mem_replicate hm
    subst hp
    have hne : ¬ (0 : Int) = st := by simpa using h
    simp [hne]
theorem scl0 : sclOf seg0.entries = 0 := rfl
theorem recs0 (kk : Bool) : recsUp seg0.entries kk 40 = [] := by
  unfold recsUp
  rw [List.filterMap_eq_nil_iff]
  intro i _
  rfl

theorem ok0 (a b : Int) : YOk (r0 a b) := by
  refine ⟨by simp [r0], by simp [r0], fun s hs => ?_, by simp [r0]⟩
  have : s = seg0 := List.eq_of_mem_replicate hs
  subst this
  exact ⟨by decide, by decide, by decide, by decide, by decide, by decide⟩

def dOut : SegD := ⟨11, false, 0, 0, [], [], []⟩
def dIn : SegD := ⟨0, true, 0, 0, [], [], []⟩
def m0 : Msg := ⟨0, 0, 0, 0, 0, 0, 0, [], []⟩

end Go.Proofs.Ytfpbkghcjaonlaa

/-
  The program: the network.
-/
namespace Go.Proofs.Ytfpbkghcjaonlaa
open Go.RowKit

def cXM : Nat := 101
def cXW : Nat := 102

theorem send_mid {k : Nat → Nat} {w w1 : World} {px e : Nat} {cs : List Value} {vM zc zm : Value} {rows : List (List Value)} {B0 B1 : Nat} (m : Msg) (row : List Value) (hB : Blk k w cX px e cs) (hR : Rows k w cXM 99 9 vM rows) (hb : Below w.heap.size w w1)
    (hz : Made w1 B0 92 2 zc (m.cuts.map cutRow)) (hy : Made w1 B1 3 1 zm (m.marks.map intRow)) (h0 : w.heap.size ≤ B0) (h1 : w.heap.size ≤ B1) :
    ∃ k1, Evo k k1 noC w (w1.alloc (Obj.cells row.toArray 99)) ∧ Blk k1 (w1.alloc (Obj.cells row.toArray 99)) cX px e cs ∧ Rows k1 (w1.alloc (Obj.cells row.toArray 99)) cXM 99 9 vM rows ∧
      CutsIm k1 (w1.alloc (Obj.cells row.toArray 99)) zc m.cuts ∧ IntsIm k1 (w1.alloc (Obj.cells row.toArray 99)) zm m.marks := by
  have ev : Evo k (fun g => if g < w.heap.size then k g else IM) noC w w1 := (Evo.of_below (k := k) hb).recolour _ (fun i hi => if_pos hi)
  have ev2 : Evo k (fun g => if g < w.heap.size then k g else IM) noC w (w1.alloc (Obj.cells row.toArray 99)) := ev.alloc _
  have ev3 : Evo (fun g => if g < w.heap.size then k g else IM) (fun g => if g < w.heap.size then k g else IM) noC w1 (w1.alloc (Obj.cells row.toArray 99)) := (Evo.refl _ _ _).alloc _
  refine ⟨_, ev2, hB.evo ev2 (noC_not _), hR.evo ev2 (noC_not _), ?_, ?_⟩
  · exact Rows.evo (hz.colour (c := IM) (fun g hg => if_neg (by have := (Made.block hz g hg).1; omega))) ev3 (noC_not _)
  · exact Rows.evo (hy.colour (c := IM) (fun g hg => if_neg (by have := (Made.block hy g hg).1; omega))) ev3 (noC_not _)

theorem news_row (w1 : World) (row : List Value) : ∀ j u, ([row] : List (List Value)).flatten[j]? = some u → (w1.alloc (Obj.cells row.toArray 99)).cell? ((⟨w1.heap.size, 0, none⟩ : Addr).add j) = some u := by
  intro j u hj
  rw [Addr.add_lit, Nat.zero_add, cell_of_row _ w1.heap.size j _ _ _ (heap_alloc_new w1 _)]
  simpa using hj

theorem set_same {cs : List Value} {j : Nat} {v : Value} (h : cs[j]? = some v) : cs.set j v = cs := by
  obtain ⟨hj, rfl⟩ := List.getElem?_eq_some_iff.1 h
  exact List.set_getElem_self hj

set_option maxRecDepth 3000 in
set_option maxHeartbeats 4000000 in
theorem xsend_full {k : Nat → Nat} {w : World} {px : Nat} {cs : List Value} {room : Int} {vM : Value} {msgs : List Msg} (m0 m1 m2 m3 m4 m5 m6 : Int) (z0 y0 : Option Addr) (z1 z2 y1 y2 : Nat) (hB : Blk k w cX px 87 cs) (h1 : cs[1]? = some (.int .i64 room)) (h2 : cs[2]? = some vM) (hM : MsgsIs k w cXM vM msgs)
    (hf : room ≤ (msgs.length : Int)) :
    Calls Try.prog 61 #[.pointer (some ⟨px, 1, none⟩), .agg #[.int .i64 m0, .int .i64 m1, .int .i64 m2, .int .i64 m3, .int .i64 m4, .int .i64 m5, .int .i64 m6, .slice z0 z1 z2, .slice y0 y1 y2]] w fun e w' => e = .returned (.tuple #[]) ∧ Below w.heap.size w w' := by
  obtain ⟨ma, mcap, hvm, _⟩ := msgs_cells hM
  subst hvm
  have q1 : w.cell? ⟨px, 1, none⟩ = some (.int .i64 room) := (hB.cell 1).trans h1
  have q2 : w.cell? ⟨px, 2, none⟩ = some (.slice ma msgs.length mcap) := (hB.cell 2).trans h2
  have ql := hB.lt
  clear hB h1 h2 hM
  go_enter Try.func61, Try.ntmps61
  go_wp2_with fail
  go_quiet (fail)
  go_wp2_with fail
  refine bodyPost_ret (v := .tuple #[]) (by simp [results, Try.results61]) rfl ⟨rfl, below_drewN ((Below.refl _ _).alloc (Nat.le_refl _) _) _⟩

set_option maxRecDepth 3000 in
set_option maxHeartbeats 4000000 in
theorem xsend_room {k : Nat → Nat} {w : World} {px : Nat} {cs : List Value} {room : Int} {vM : Value} {msgs : List Msg} (m : Msg) {vc vm : Value} (hB : Blk k w cX px 87 cs) (h1 : cs[1]? = some (.int .i64 room)) (h2 : cs[2]? = some vM) (hM : MsgsIs k w cXM vM msgs)
    (hc : CutsIm k w vc m.cuts) (hm : IntsIm k w vm m.marks) (hcl : m.cuts.length ≤ 4000000000) (hml : m.marks.length ≤ 4000000000) (hf : ¬ room ≤ (msgs.length : Int)) (hr : room ≤ 4000000000) :
    Calls Try.prog 61 #[.pointer (some ⟨px, 1, none⟩), .agg #[.int .i64 m.kind, .int .i64 m.frm, .int .i64 m.to_, .int .i64 m.epoch, .int .i64 m.lsn, .int .i64 m.value, .int .i64 m.scl, vc, vm]] w fun e w' => e = .returned (.tuple #[]) ∧
      ∃ k' vM', Evo k k' (fun c => c = cX ∨ c = cXM) w w' ∧ Blk k' w' cX px 87 (cs.set 2 vM') ∧ MsgsIs k' w' cXM vM' (msgs ++ [m]) := by
  have HFR : Hid (∀ W, Below w.heap.size w W → Calls Try.prog 80 #[.agg #[.int .i64 m.kind, .int .i64 m.frm, .int .i64 m.to_, .int .i64 m.epoch, .int .i64 m.lsn, .int .i64 m.value, .int .i64 m.scl, vc, vm]] W fun e w' => (∃ v, e = .returned v ∧ XFresh W.heap.size w' m v) ∧ Below W.heap.size W w') := hide fun W hW =>
    fresh_any m (Rows.evo hc (Evo.of_below (C := noC) hW) (noC_not _)) (Rows.evo hm (Evo.of_below (C := noC) hW) (noC_not _)) hcl hml
  obtain ⟨ma, mcap, hvm, _⟩ := msgs_cells hM
  obtain ⟨rows, hR, hA⟩ := hM
  subst hvm
  have q1 : w.cell? ⟨px, 1, none⟩ = some (.int .i64 room) := (hB.cell 1).trans h1
  have q2 : w.cell? ⟨px, 2, none⟩ = some (.slice ma msgs.length mcap) := (hB.cell 2).trans h2
  have ql := hB.lt
  obtain ⟨z0, z1, z2, hz⟩ := Rows.shape hc
  subst hz
  obtain ⟨y0, y1, y2, hz⟩ := Rows.shape hm
  subst hz
  have hnl : rows.length = msgs.length := hA.1.symm
  have HL := hide hnl
  have HMid : Hid (∀ w1 zc zm B0 B1 row, Below w.heap.size w w1 → Made w1 B0 92 2 zc (m.cuts.map cutRow) → Made w1 B1 3 1 zm (m.marks.map intRow) → w.heap.size ≤ B0 → w.heap.size ≤ B1 → _) := hide fun w1 zc zm B0 B1 row hb hz hy h0 h1 => send_mid m row hB hR hb hz hy h0 h1
  have HAll := hide hA
  obtain ⟨m0, mf, mt, m3, m4, m5, m6, mc, mm⟩ := m
  dsimp only at *
  clear hnl hc hm hA
  go_enter Try.func61, Try.ntmps61
  go_wp2_with fail
  go_quiet (fail)
  go_wp2_with fail
  obtain ⟨Wn, hWn⟩ : ∃ Wn, Wn = (w.alloc (Obj.cells #[.int .i64 m0, .int .i64 mf, .int .i64 mt, .int .i64 m3, .int .i64 m4, .int .i64 m5, .int .i64 m6, .slice z0 z1 z2, .slice y0 y1 y2] 99)).drewN nq := ⟨_, rfl⟩
  rw [← hWn]
  have hbn : Below w.heap.size w Wn := by rw [hWn]; exact below_drewN ((Below.refl _ _).alloc (Nat.le_refl _) _) _
  have bm : Blk (fun _ => 0) Wn 0 w.heap.size 99 [.int .i64 m0, .int .i64 mf, .int .i64 mt, .int .i64 m3, .int .i64 m4, .int .i64 m5, .int .i64 m6, .slice z0 z1 z2, .slice y0 y1 y2] := by rw [hWn]; exact ⟨heap_alloc_new w _, rfl⟩
  have bX := hB.evo (Evo.of_below (C := noC) hbn) (noC_not _)
  have n2 : Wn.cell? ⟨px, 2, none⟩ = some (.slice ma msgs.length mcap) := (bX.cell 2).trans h2
  have nl := bX.lt
  have bc0 : Wn.cell? ⟨w.heap.size, 0, none⟩ = some (.int .i64 m0) := bm.cell 0
  have bc1 : Wn.cell? ⟨w.heap.size, 1, none⟩ = some (.int .i64 mf) := bm.cell 1
  have bc2 : Wn.cell? ⟨w.heap.size, 2, none⟩ = some (.int .i64 mt) := bm.cell 2
  have bc3 : Wn.cell? ⟨w.heap.size, 3, none⟩ = some (.int .i64 m3) := bm.cell 3
  have bc4 : Wn.cell? ⟨w.heap.size, 4, none⟩ = some (.int .i64 m4) := bm.cell 4
  have bc5 : Wn.cell? ⟨w.heap.size, 5, none⟩ = some (.int .i64 m5) := bm.cell 5
  have bc6 : Wn.cell? ⟨w.heap.size, 6, none⟩ = some (.int .i64 m6) := bm.cell 6
  have bc7 : Wn.cell? ⟨w.heap.size, 7, none⟩ = some (.slice z0 z1 z2) := bm.cell 7
  have bc8 : Wn.cell? ⟨w.heap.size, 8, none⟩ = some (.slice y0 y1 y2) := bm.cell 8
  have bl := bm.lt
  have HWn := hide hWn
  clear hWn bX bm q1 q2
  go_region_law
    (first
      | (refine step_append_rows k1 cXM (.tmp 18) (.tmp 21) 76 99 _ 9 104 _ rows [[.int .i64 m0, .int .i64 mf, .int .i64 mt, .int .i64 m3, .int .i64 m4, .int .i64 m5, .int .i64 m6, .slice a0 a1 a2, .slice b0 b1 b2]] msgs.length ⟨w1.heap.size, 0, none⟩ 1 1 HL.out rfl rfl Try.underlying76 Try.infoMessage rfl (by decide) rfl rfl hR1 rfl (by simp) hnews (by simp [Value.oneCell']) (by have := HL.out; simp only [maxLen]; omega) (by have := HL.out; omega) ?_; intro ao1 cap1 w2 k2 hR2 hE2; have y2' : w2.cell? ⟨px, 2, none⟩ = some (.slice ma msgs.length mcap) := ((hB1.evo hE2 (by decide)).cell 2).trans h2; have yf' : w2.frozen? ⟨px, 2, none⟩ = false := (hB1.evo hE2 (by decide)).free 2; have yl' := (hB1.evo hE2 (by decide)).lt)
      | (go_simp; go_at_call 80; refine (HFR.out _ hbn.drew).mono ?_; rintro e1 w1 ⟨⟨v, rfl, zc, zm, B1, rfl, g0, g1, hz, hy⟩, hb1⟩; obtain ⟨a0, a1, a2, hs⟩ := made_shape hz; subst hs; obtain ⟨b0, b1, b2, hs⟩ := made_shape hy; subst hs; have hbw1 : Below w.heap.size w w1 := hbn.drew.trans (hb1.mono hbn.drew.size); have n2' : w1.cell? ⟨px, 2, none⟩ = some (.slice ma msgs.length mcap) := (hb1.cell (p := ⟨px, 2, none⟩) nl).trans n2; have nl' : px < w1.heap.size := Nat.lt_of_lt_of_le nl hb1.size; obtain ⟨k1, ev1, hB1, hR1, hc1, hm1⟩ := HMid.out w1 _ _ _ _ [.int .i64 m0, .int .i64 mf, .int .i64 mt, .int .i64 m3, .int .i64 m4, .int .i64 m5, .int .i64 m6, .slice a0 a1 a2, .slice b0 b1 b2] hbw1 hz hy hbn.drew.size (Nat.le_trans hbn.drew.size g0); have hnews := news_row w1 [.int .i64 m0, .int .i64 mf, .int .i64 mt, .int .i64 m3, .int .i64 m4, .int .i64 m5, .int .i64 m6, .slice a0 a1 a2, .slice b0 b1 b2]))
  all_goals go_wp2_with fail
  all_goals go_end0
  all_goals
    obtain ⟨f1, f2, f3⟩ := push_fin (Evo.refl _ noC _) hB1 (by decide) hR2 hE2 2
    have evA := (ev1.mono (D := fun c => c = cX ∨ c = cXM) (fun _ h => h.elim)).trans f1
    have him : ¬ (IM = cX ∨ IM = cXM) := by decide
    refine ⟨rfl, k2, evA, .slice ao1 (msgs.length + 1) cap1, f2, ?_⟩
    exact ⟨_, f3, All2.snoc (HAll.out.imp fun _ _ x => x.evo evA him) ⟨_, _, rfl, hc1.evo f1 him, hm1.evo f1 him⟩⟩
end Go.Proofs.Ytfpbkghcjaonlaa

/-
  The program: Take.
-/
namespace Go.Proofs.Ytfpbkghcjaonlaa
open Go.RowKit

def zrow : List Value := [.int .i64 0, .int .i64 0, .int .i64 0, .int .i64 0, .int .i64 0, .int .i64 0, .int .i64 0, .slice none 0 0, .slice none 0 0]

theorem Rows.set9 {k : Nat → Nat} {w : World} {c e b n cap : Nat} {rows : List (List Value)} (h : Rows k w c e 9 (.slice (some ⟨b, 0, none⟩) n cap) rows) (i : Nat) (hi : i < rows.length) (r0 r1 r2 r3 r4 r5 r6 r7 r8 : Value) :
    Rows k (((((((((w.setCell ⟨b, i * 9, none⟩ r0).setCell ⟨b, i * 9 + 1, none⟩ r1).setCell ⟨b, i * 9 + 2, none⟩ r2).setCell ⟨b, i * 9 + 3, none⟩ r3).setCell ⟨b, i * 9 + 4, none⟩ r4).setCell ⟨b, i * 9 + 5, none⟩ r5).setCell ⟨b, i * 9 + 6, none⟩ r6).setCell ⟨b, i * 9 + 7, none⟩ r7).setCell ⟨b, i * 9 + 8, none⟩ r8) c e 9 (.slice (some ⟨b, 0, none⟩) n cap) (rows.set i [r0, r1, r2, r3, r4, r5, r6, r7, r8]) := by
  have hl := h.len _ (List.getElem_mem hi)
  have s0 := h.set i 0 hi (by omega) r0
  have s1 := s0.set i 1 (by simpa using hi) (by omega) r1
  have s2 := s1.set i 2 (by simpa using hi) (by omega) r2
  have s3 := s2.set i 3 (by simpa using hi) (by omega) r3
  have s4 := s3.set i 4 (by simpa using hi) (by omega) r4
  have s5 := s4.set i 5 (by simpa using hi) (by omega) r5
  have s6 := s5.set i 6 (by simpa using hi) (by omega) r6
  have s7 := s6.set i 7 (by simpa using hi) (by omega) r7
  have s8 := s7.set i 8 (by simpa using hi) (by omega) r8
  obtain ⟨x, hx⟩ : ∃ x, rows[i] = x := ⟨_, rfl⟩
  rw [hx] at hl
  match x, hl with
  | [a0, a1, a2, a3, a4, a5, a6, a7, a8], _ =>
    simpa [hx] using s8

theorem Evo.set9 {k1 k2 : Nat → Nat} {C : Nat → Prop} {a w : World} {b o : Nat} (h : Evo k1 k2 C a w) (hb : C (k2 b)) (r0 r1 r2 r3 r4 r5 r6 r7 r8 : Value) :
    Evo k1 k2 C a (((((((((w.setCell ⟨b, o, none⟩ r0).setCell ⟨b, o + 1, none⟩ r1).setCell ⟨b, o + 2, none⟩ r2).setCell ⟨b, o + 3, none⟩ r3).setCell ⟨b, o + 4, none⟩ r4).setCell ⟨b, o + 5, none⟩ r5).setCell ⟨b, o + 6, none⟩ r6).setCell ⟨b, o + 7, none⟩ r7).setCell ⟨b, o + 8, none⟩ r8) :=
  ((((((((h.setCell _ _ (fun _ => hb)).setCell _ _ (fun _ => hb)).setCell _ _ (fun _ => hb)).setCell _ _ (fun _ => hb)).setCell _ _ (fun _ => hb)).setCell _ _ (fun _ => hb)).setCell _ _ (fun _ => hb)).setCell _ _ (fun _ => hb)).setCell _ _ (fun _ => hb)

theorem Evo.setNew {k1 k2 : Nat → Nat} {C : Nat → Prop} {a w : World} (h : Evo k1 k2 C a w) (p : Addr) (v : Value) (hp : a.heap.size ≤ p.block) : Evo k1 k2 C a (w.setCell p v) :=
  ⟨h.os, h.tape, h.output, by rw [World.size_setCell]; exact h.size, h.col, fun b hb hc => by rw [heap_setCell_other w p b v (by omega)]; exact h.keep b hb hc⟩
theorem Evo.setNew9 {k1 k2 : Nat → Nat} {C : Nat → Prop} {a w : World} {b o : Nat} (h : Evo k1 k2 C a w) (hb : a.heap.size ≤ b) (r0 r1 r2 r3 r4 r5 r6 r7 r8 : Value) :
    Evo k1 k2 C a (((((((((w.setCell ⟨b, o, none⟩ r0).setCell ⟨b, o + 1, none⟩ r1).setCell ⟨b, o + 2, none⟩ r2).setCell ⟨b, o + 3, none⟩ r3).setCell ⟨b, o + 4, none⟩ r4).setCell ⟨b, o + 5, none⟩ r5).setCell ⟨b, o + 6, none⟩ r6).setCell ⟨b, o + 7, none⟩ r7).setCell ⟨b, o + 8, none⟩ r8) :=
  ((((((((h.setNew _ _ hb).setNew _ _ hb).setNew _ _ hb).setNew _ _ hb).setNew _ _ hb).setNew _ _ hb).setNew _ _ hb).setNew _ _ hb).setNew _ _ hb
theorem All2.erase {A B : Type} {R : A → B → Prop} {xs : List A} {ys : List B} (h : All2 R xs ys) (x : Nat) : All2 R (xs.eraseIdx x) (ys.eraseIdx x) := by
  refine ⟨by rw [List.length_eraseIdx, List.length_eraseIdx, h.1], fun i h1 h2 => ?_⟩
  rw [List.getElem_eraseIdx, List.getElem_eraseIdx]
  split
  · exact h.2 _ _ _
  · exact h.2 _ _ _

/-- Some rows have moved up by one. -/
def Moved (rows rows' : List (List Value)) (x i : Nat) : Prop := rows'.length = rows.length ∧ ∀ t (h : t < rows.length) (h' : t < rows'.length), rows'[t] = if x ≤ t ∧ t < i then rows.getD (t + 1) [] else rows[t]

theorem Moved.step {rows rows' : List (List Value)} {x i : Nat} (h : Moved rows rows' x i) (hx : x ≤ i) (hi : i + 1 < rows.length) : Moved rows (rows'.set i (rows[i + 1]'hi)) x (i + 1) := by
  refine ⟨by simpa using h.1, fun t h1 h2 => ?_⟩
  rw [List.getElem_set]
  by_cases e : i = t
  · subst e
    rw [if_pos rfl, if_pos ⟨hx, by omega⟩, List.getD_eq_getElem?_getD, List.getElem?_eq_getElem hi]; rfl
  · rw [if_neg e, h.2 t h1 (by simpa using h2)]
    by_cases c : x ≤ t ∧ t < i
    · rw [if_pos c, if_pos ⟨c.1, by omega⟩]
    · rw [if_neg c, if_neg (by omega)]

theorem Moved.done {rows rows' : List (List Value)} {x n : Nat} (h : Moved rows rows' x n) (hx : x ≤ n) (hn : rows.length = n + 1) (z : List Value) : (rows'.set n z).take n = rows.eraseIdx x := by
  have hl := h.1
  apply List.ext_getElem
  · rw [List.length_eraseIdx, if_pos (by omega)]; simp; omega
  · intro t h1 h2
    simp only [List.length_take, List.length_set] at h1
    rw [List.getElem_take, List.getElem_set, if_neg (by omega), h.2 t (by omega) (by omega), List.getElem_eraseIdx]
    by_cases c : t < x
    · rw [if_neg (by omega)]; simp [c]
    · rw [if_pos ⟨by omega, by omega⟩]
      simp only [c, dif_neg, not_false_eq_true]
      rw [List.getD_eq_getElem?_getD, List.getElem?_eq_getElem (by omega)]; rfl

theorem Rows.take {k : Nat → Nat} {w : World} {c e size b n cap : Nat} {rows : List (List Value)} (h : Rows k w c e size (.slice (some ⟨b, 0, none⟩) n cap) rows) (i : Nat) (hi : i ≤ rows.length) : Rows k w c e size (.slice (some ⟨b, 0, none⟩) i cap) (rows.take i) := by
  have hl : (rows.take i).length = i := by simp; omega
  have hf : (rows.take i).flatten = rows.flatten.take (i * size) := by
    have h1 : rows.flatten = (rows.take i).flatten ++ (rows.drop i).flatten := by rw [← List.flatten_append, List.take_append_drop]
    have h2 : (rows.take i).flatten.length = i * size := by rw [flatten_len (fun r hr => h.len r (List.mem_of_mem_take hr)), hl]
    rw [h1, ← h2, List.take_left]
  refine ⟨fun r hr => h.len r (List.mem_of_mem_take hr), ?_, fun g hg => h.col g hg⟩
  have ho := h.own
  rw [hl]
  refine ⟨by rw [flatten_len (fun r hr => h.len r (List.mem_of_mem_take hr)), hl], ?_⟩
  rcases ho.2 with ⟨hn, _⟩ | ⟨g, cap', cur, hv, hb, hg, h1, h2, h3, h4⟩
  · simp at hn
  · simp only [Value.slice.injEq, Option.some.injEq, Addr.mk.injEq] at hv
    obtain ⟨⟨hg1, _⟩, hn1, hc1⟩ := hv
    subst hg1; subst hc1
    refine .inr ⟨b, cap, cur, rfl, hb, hg, by omega, h2, h3, ?_⟩
    rw [hf, ← h4, List.take_take]
    congr 1
    have : i * size ≤ rows.length * size := Nat.mul_le_mul_right _ hi
    omega

set_option maxRecDepth 3000 in
set_option maxHeartbeats 4000000 in
theorem take_no (w : World) (b : Nat) (n : Int) (a : Option Addr) (len cap : Nat) (hc : w.cell? ⟨b, 2, none⟩ = some (.slice a len cap)) (hn : n < 0 ∨ (len : Int) ≤ n) :
    Calls Try.prog 74 #[.pointer (some ⟨b, 1, none⟩), .int .i64 n] w fun e w' => e = .returned (.tuple #[.agg #[.int .i64 0, .int .i64 0, .int .i64 0, .int .i64 0, .int .i64 0, .int .i64 0, .int .i64 0, .slice none 0 0, .slice none 0 0], .bool false]) ∧ Below w.heap.size w w' := by
  have hbl := World.block_lt_of_cell? w _ hc
  by_cases h0 : n < 0
  · have d0 : decide (n < 0) = true := by simpa using h0
    go_enter Try.func74, Try.ntmps74
    go_wp2
    exact bodyPost_ret (v := .tuple #[.agg #[.int .i64 0, .int .i64 0, .int .i64 0, .int .i64 0, .int .i64 0, .int .i64 0, .int .i64 0, .slice none 0 0, .slice none 0 0], .bool false]) (by simp [results, Try.results74, go_sem]) rfl ⟨rfl, (Below.refl _ _).alloc (Nat.le_refl _) _⟩
  · have d0 : decide (n < 0) = false := by simpa using h0
    have h1 : (len : Int) ≤ n := by omega
    clear hn
    go_enter Try.func74, Try.ntmps74
    go_wp2
    exact bodyPost_ret (v := .tuple #[.agg #[.int .i64 0, .int .i64 0, .int .i64 0, .int .i64 0, .int .i64 0, .int .i64 0, .int .i64 0, .slice none 0 0, .slice none 0 0], .bool false]) (by simp [results, Try.results74, go_sem]) rfl ⟨rfl, (Below.refl _ _).alloc (Nat.le_refl _) _⟩

theorem msg_row {k : Nat → Nat} {w : World} {m : Msg} {r : List Value} (h : MsgIs k w m r) : ∃ z0 z1 z2 y0 y1 y2, r = msgCells m (.slice z0 z1 z2) (.slice y0 y1 y2) ∧ CutsIm k w (.slice z0 z1 z2) m.cuts ∧ IntsIm k w (.slice y0 y1 y2) m.marks := by
  obtain ⟨vc, vm, rfl, hc, hm⟩ := h
  obtain ⟨z0, z1, z2, hz⟩ := Rows.shape hc
  subst hz
  obtain ⟨y0, y1, y2, hz⟩ := Rows.shape hm
  subst hz
  exact ⟨z0, z1, z2, y0, y1, y2, rfl, hc, hm⟩

set_option maxRecDepth 20000 in
set_option maxHeartbeats 8000000 in
theorem take_in {k : Nat → Nat} {w : World} {px : Nat} {cs : List Value} {vM : Value} {msgs : List Msg} (x : Nat) (hx : x < msgs.length) (hB : Blk k w cX px 87 cs) (h2 : cs[2]? = some vM) (hM : MsgsIs k w cXM vM msgs) (hl : msgs.length ≤ 4000000000) :
    Calls Try.prog 74 #[.pointer (some ⟨px, 1, none⟩), .int .i64 x] w fun e w' => ∃ vc vm k' vM', e = .returned (.tuple #[.agg #[.int .i64 msgs[x].kind, .int .i64 msgs[x].frm, .int .i64 msgs[x].to_, .int .i64 msgs[x].epoch, .int .i64 msgs[x].lsn, .int .i64 msgs[x].value, .int .i64 msgs[x].scl, vc, vm], .bool true]) ∧ Evo k k' (fun c => c = cX ∨ c = cXM) w w' ∧ Blk k' w' cX px 87 (cs.set 2 vM') ∧ MsgsIs k' w' cXM vM' (msgs.eraseIdx x) ∧ CutsIm k' w' vc msgs[x].cuts ∧ IntsIm k' w' vm msgs[x].marks := by
  obtain ⟨rows, hR, hA⟩ := hM
  have hnl : rows.length = msgs.length := hA.1.symm
  obtain ⟨g, mcap, hvm, hkg, hgl, hcap, hcell, hfr⟩ := hR.at (by omega)
  rw [hnl] at hvm
  subst hvm
  obtain ⟨z0, z1, z2, y0, y1, y2, hrx, hcx, hmx⟩ := msg_row (hA.2 x hx (by omega))
  obtain ⟨n, hn⟩ : ∃ n, msgs.length = n + 1 := ⟨msgs.length - 1, by omega⟩
  have q2 : w.cell? ⟨px, 2, none⟩ = some (.slice (some ⟨g, 0, none⟩) (n + 1) mcap) := by rw [← hn]; exact (hB.cell 2).trans h2
  have ql := hB.lt
  have r0 : ∀ j, j < 9 → w.cell? ⟨g, x * 9 + j, none⟩ = (msgCells msgs[x] (.slice z0 z1 z2) (.slice y0 y1 y2))[j]? := fun j hj => by rw [hcell x j (by omega) hj, hrx]
  have g0 : w.cell? ⟨g, x * 9 + 0, none⟩ = _ := r0 0 (by omega)
  have g1 : w.cell? ⟨g, x * 9 + 1, none⟩ = _ := r0 1 (by omega)
  have g2 : w.cell? ⟨g, x * 9 + 2, none⟩ = _ := r0 2 (by omega)
  have g3 : w.cell? ⟨g, x * 9 + 3, none⟩ = _ := r0 3 (by omega)
  have g4 : w.cell? ⟨g, x * 9 + 4, none⟩ = _ := r0 4 (by omega)
  have g5 : w.cell? ⟨g, x * 9 + 5, none⟩ = _ := r0 5 (by omega)
  have g6 : w.cell? ⟨g, x * 9 + 6, none⟩ = _ := r0 6 (by omega)
  have g7 : w.cell? ⟨g, x * 9 + 7, none⟩ = _ := r0 7 (by omega)
  have g8 : w.cell? ⟨g, x * 9 + 8, none⟩ = _ := r0 8 (by omega)
  simp only [msgCells, List.getElem?_cons_zero, List.getElem?_cons_succ, Nat.add_zero] at g0 g1 g2 g3 g4 g5 g6 g7 g8
  have hpg : ¬ px = g := fun e => by have := hB.2; rw [e, hkg] at this; revert this; decide
  have HALL := hide hA
  have HHN := hide hn
  rw [hn] at hR hl hx hnl
  generalize hmx0 : msgs[x] = mx at *
  have hd1 : decide ((x : Int) < 0) = false := by simp
  have hd2 : decide (((n : Int) + 1) ≤ (x : Int)) = false := by simp; omega
  have hw : (n : Int) + 1 - 1 = (n : Int) := by omega
  have hxn : x ≤ n := by omega
  clear r0 hcell hmx0
  go_enter Try.func74, Try.ntmps74
  go_wp2_with fail
  obtain ⟨kx, hkx⟩ : ∃ kx : Nat → Nat, kx = fun b => if b < w.heap.size then k b else 0 := ⟨_, rfl⟩
  have H0 : Hid (∃ rows', Evo k kx (fun c => c = cXM) w ((w.alloc (Obj.cells #[.int .i64 0, .int .i64 0, .int .i64 0, .int .i64 0, .int .i64 0, .int .i64 0, .int .i64 0, .slice none 0 0, .slice none 0 0] 99)).alloc (Obj.cells #[.int .i64 mx.kind, .int .i64 mx.frm, .int .i64 mx.to_, .int .i64 mx.epoch, .int .i64 mx.lsn, .int .i64 mx.value, .int .i64 mx.scl, .slice z0 z1 z2, .slice y0 y1 y2] 99)) ∧ Rows kx ((w.alloc (Obj.cells #[.int .i64 0, .int .i64 0, .int .i64 0, .int .i64 0, .int .i64 0, .int .i64 0, .int .i64 0, .slice none 0 0, .slice none 0 0] 99)).alloc (Obj.cells #[.int .i64 mx.kind, .int .i64 mx.frm, .int .i64 mx.to_, .int .i64 mx.epoch, .int .i64 mx.lsn, .int .i64 mx.value, .int .i64 mx.scl, .slice z0 z1 z2, .slice y0 y1 y2] 99)) cXM 99 9 (.slice (some ⟨g, 0, none⟩) (n + 1) mcap) rows' ∧ Moved rows rows' x x ∧ Blk kx ((w.alloc (Obj.cells #[.int .i64 0, .int .i64 0, .int .i64 0, .int .i64 0, .int .i64 0, .int .i64 0, .int .i64 0, .slice none 0 0, .slice none 0 0] 99)).alloc (Obj.cells #[.int .i64 mx.kind, .int .i64 mx.frm, .int .i64 mx.to_, .int .i64 mx.epoch, .int .i64 mx.lsn, .int .i64 mx.value, .int .i64 mx.scl, .slice z0 z1 z2, .slice y0 y1 y2] 99)) 0 w.heap.size 99 zrow ∧ Blk kx ((w.alloc (Obj.cells #[.int .i64 0, .int .i64 0, .int .i64 0, .int .i64 0, .int .i64 0, .int .i64 0, .int .i64 0, .slice none 0 0, .slice none 0 0] 99)).alloc (Obj.cells #[.int .i64 mx.kind, .int .i64 mx.frm, .int .i64 mx.to_, .int .i64 mx.epoch, .int .i64 mx.lsn, .int .i64 mx.value, .int .i64 mx.scl, .slice z0 z1 z2, .slice y0 y1 y2] 99)) 0 (w.heap.size + 1) 99 [.int .i64 mx.kind, .int .i64 mx.frm, .int .i64 mx.to_, .int .i64 mx.epoch, .int .i64 mx.lsn, .int .i64 mx.value, .int .i64 mx.scl, .slice z0 z1 z2, .slice y0 y1 y2]) := by
    have ev : Evo k kx noC w ((w.alloc (Obj.cells #[.int .i64 0, .int .i64 0, .int .i64 0, .int .i64 0, .int .i64 0, .int .i64 0, .int .i64 0, .slice none 0 0, .slice none 0 0] 99)).alloc (Obj.cells #[.int .i64 mx.kind, .int .i64 mx.frm, .int .i64 mx.to_, .int .i64 mx.epoch, .int .i64 mx.lsn, .int .i64 mx.value, .int .i64 mx.scl, .slice z0 z1 z2, .slice y0 y1 y2] 99)) := by rw [hkx]; exact (((Evo.refl k noC w).alloc _).alloc _).recolour _ (fun i hi => if_pos hi)
    refine hide ⟨rows, ev.mono (fun _ h => h.elim), hR.evo ev (noC_not _), ⟨rfl, fun t h1 h2 => by rw [if_neg (by omega)]⟩, ⟨(Below.heap_alloc _ _ _ (by simp)).trans (heap_alloc_new w _), by rw [hkx]; simp⟩, ⟨heap_alloc2_new w _ _, by rw [hkx]; simp; omega⟩⟩
  have HKX := hide hkx
  clear hkx
  go_loopw [8] (fun i wr => ∃ j : Nat, x ≤ j ∧ j ≤ n ∧ i = .int .i64 j ∧ Hid (∃ rows', Evo k kx (fun c => c = cXM) w wr ∧ Rows kx wr cXM 99 9 (.slice (some ⟨g, 0, none⟩) (n + 1) mcap) rows' ∧ Moved rows rows' x j ∧ Blk kx wr 0 w.heap.size 99 zrow ∧ Blk kx wr 0 (w.heap.size + 1) 99 [.int .i64 mx.kind, .int .i64 mx.frm, .int .i64 mx.to_, .int .i64 mx.epoch, .int .i64 mx.lsn, .int .i64 mx.value, .int .i64 mx.scl, .slice z0 z1 z2, .slice y0 y1 y2])) (fun i _ => n - (intOf i).toNat)
  case atStart => exact ⟨x, Nat.le_refl _, hxn, rfl, H0⟩
  case round =>
    obtain ⟨j, hxj, hjn, rfl, hst⟩ := hrel
    obtain ⟨rows', ev, hR', hMv, bz, bm⟩ := hst.out
    have hl' : rows'.length = n + 1 := hMv.1.trans hnl
    obtain ⟨g', cap', hv', hkg', hgl', _, hcell', hfr'⟩ := hR'.at (by omega)
    simp only [Value.slice.injEq, Option.some.injEq, Addr.mk.injEq, and_true] at hv'
    obtain ⟨hg', -, hc'⟩ := hv'
    subst hg' hc'
    have hBw := hB.evo ev (by decide)
    have u2 : wr.cell? ⟨px, 2, none⟩ = some (.slice (some ⟨g, 0, none⟩) (n + 1) mcap) := by rw [← HHN.out]; exact (hBw.cell 2).trans h2
    have ul := hBw.lt
    have uf2 : wr.frozen? ⟨px, 2, none⟩ = false := hBw.free 2
    have hlj := hR'.len _ (List.getElem_mem (show j < rows'.length by omega))
    obtain ⟨c0, c1, c2, c3, c4, c5, c6, c7, c8, hrow⟩ : ∃ c0 c1 c2 c3 c4 c5 c6 c7 c8, rows'[j] = [c0, c1, c2, c3, c4, c5, c6, c7, c8] := by
      match h : rows'[j], hlj with
      | [c0, c1, c2, c3, c4, c5, c6, c7, c8], _ => exact ⟨c0, c1, c2, c3, c4, c5, c6, c7, c8, rfl⟩
    have rj : ∀ t, t < 9 → wr.cell? ⟨g, j * 9 + t, none⟩ = [c0, c1, c2, c3, c4, c5, c6, c7, c8][t]? := fun t ht => by rw [hcell' j t (by omega) ht, hrow]
    have e0 : wr.cell? ⟨g, j * 9 + 0, none⟩ = _ := rj 0 (by omega)
    have e1 : wr.cell? ⟨g, j * 9 + 1, none⟩ = _ := rj 1 (by omega)
    have e2 : wr.cell? ⟨g, j * 9 + 2, none⟩ = _ := rj 2 (by omega)
    have e3 : wr.cell? ⟨g, j * 9 + 3, none⟩ = _ := rj 3 (by omega)
    have e4 : wr.cell? ⟨g, j * 9 + 4, none⟩ = _ := rj 4 (by omega)
    have e5 : wr.cell? ⟨g, j * 9 + 5, none⟩ = _ := rj 5 (by omega)
    have e6 : wr.cell? ⟨g, j * 9 + 6, none⟩ = _ := rj 6 (by omega)
    have e7 : wr.cell? ⟨g, j * 9 + 7, none⟩ = _ := rj 7 (by omega)
    have e8 : wr.cell? ⟨g, j * 9 + 8, none⟩ = _ := rj 8 (by omega)
    simp only [List.getElem?_cons_zero, List.getElem?_cons_succ, Nat.add_zero] at e0 e1 e2 e3 e4 e5 e6 e7 e8
    have f0 := hfr' (j * 9)
    have f1 := hfr' (j * 9 + 1)
    have f2 := hfr' (j * 9 + 2)
    have f3 := hfr' (j * 9 + 3)
    have f4 := hfr' (j * 9 + 4)
    have f5 := hfr' (j * 9 + 5)
    have f6 := hfr' (j * 9 + 6)
    have f7 := hfr' (j * 9 + 7)
    have f8 := hfr' (j * 9 + 8)
    by_cases hlt : j < n
    · have hd : decide ((j : Int) < (n : Int)) = true := by simp; omega
      have hwj : IntKind.i64.wrap ((j : Int) + 1) = (j : Int) + 1 := by rw [IntKind.wrap_i64] <;> omega
      obtain ⟨zz0, zz1, zz2, yy0, yy1, yy2, hr1, _, _⟩ := msg_row (HALL.out.2 (j + 1) (by rw [HHN.out]; omega) (by omega))
      have hrow1 : rows'[j + 1]'(by omega) = msgCells (msgs[j + 1]'(by rw [HHN.out]; omega)) (.slice zz0 zz1 zz2) (.slice yy0 yy1 yy2) := by rw [hMv.2 (j + 1) (by omega) (by omega), if_neg (by omega)]; exact hr1
      generalize msgs[j + 1]'(by rw [HHN.out]; omega) = mj at *
      have rj1 : ∀ t, t < 9 → wr.cell? ⟨g, (j + 1) * 9 + t, none⟩ = (msgCells mj (.slice zz0 zz1 zz2) (.slice yy0 yy1 yy2))[t]? := fun t ht => by rw [hcell' (j + 1) t (by omega) ht, hrow1]
      have v0 : wr.cell? ⟨g, (j + 1) * 9 + 0, none⟩ = _ := rj1 0 (by omega)
      have v1 : wr.cell? ⟨g, (j + 1) * 9 + 1, none⟩ = _ := rj1 1 (by omega)
      have v2 : wr.cell? ⟨g, (j + 1) * 9 + 2, none⟩ = _ := rj1 2 (by omega)
      have v3 : wr.cell? ⟨g, (j + 1) * 9 + 3, none⟩ = _ := rj1 3 (by omega)
      have v4 : wr.cell? ⟨g, (j + 1) * 9 + 4, none⟩ = _ := rj1 4 (by omega)
      have v5 : wr.cell? ⟨g, (j + 1) * 9 + 5, none⟩ = _ := rj1 5 (by omega)
      have v6 : wr.cell? ⟨g, (j + 1) * 9 + 6, none⟩ = _ := rj1 6 (by omega)
      have v7 : wr.cell? ⟨g, (j + 1) * 9 + 7, none⟩ = _ := rj1 7 (by omega)
      have v8 : wr.cell? ⟨g, (j + 1) * 9 + 8, none⟩ = _ := rj1 8 (by omega)
      simp only [msgCells, List.getElem?_cons_zero, List.getElem?_cons_succ, Nat.add_zero] at v0 v1 v2 v3 v4 v5 v6 v7 v8
      have hj1 : ((j : Int) + 1) < (n : Int) + 1 := by omega
      have hM9 := hMv.step hxj (by omega)
      rw [hr1] at hM9
      have HN9 := hide (And.intro hM9 hR')
      clear rj rj1 hcell' hfr' hrow1 hr1 hM9 hst hrow hrx hn hlj
      go_wp2_with fail
      go_region
      all_goals go_wp2_with fail
      go_roundw
      case rel =>
        have evS := ((Evo.refl kx (fun c => c = cXM) wr).set9 (b := g) (o := j * 9) hkg' (.int .i64 mj.kind) (.int .i64 mj.frm) (.int .i64 mj.to_) (.int .i64 mj.epoch) (.int .i64 mj.lsn) (.int .i64 mj.value) (.int .i64 mj.scl) (.slice zz0 zz1 zz2) (.slice yy0 yy1 yy2)).drew
        exact ⟨j + 1, by omega, by omega, by go_num, hide ⟨_, ev.trans evS, (HN9.out.2.set9 j (by omega) (.int .i64 mj.kind) (.int .i64 mj.frm) (.int .i64 mj.to_) (.int .i64 mj.epoch) (.int .i64 mj.lsn) (.int .i64 mj.value) (.int .i64 mj.scl) (.slice zz0 zz1 zz2) (.slice yy0 yy1 yy2)).drew, HN9.out.1, bz.evo evS (by decide), bm.evo evS (by decide)⟩⟩
      case measure => simp [intOf]; omega
    · have hje : j = n := by omega
      have hd : decide ((j : Int) < (n : Int)) = false := by simp; omega
      subst hje
      have HN9 := hide (And.intro hMv hR')
      clear rj hcell' hfr' hst hrow hrx hn hlj
      go_upto_region 10 with (fail)
      have evS : Evo kx kx (fun c => c = cXM) wr (((((((((wr.setCell ⟨g, j * 9, none⟩ (.int .i64 0)).setCell ⟨g, j * 9 + 1, none⟩ (.int .i64 0)).setCell ⟨g, j * 9 + 2, none⟩ (.int .i64 0)).setCell ⟨g, j * 9 + 3, none⟩ (.int .i64 0)).setCell ⟨g, j * 9 + 4, none⟩ (.int .i64 0)).setCell ⟨g, j * 9 + 5, none⟩ (.int .i64 0)).setCell ⟨g, j * 9 + 6, none⟩ (.int .i64 0)).setCell ⟨g, j * 9 + 7, none⟩ (.slice none 0 0)).setCell ⟨g, j * 9 + 8, none⟩ (.slice none 0 0)) := (Evo.refl kx (fun c => c = cXM) wr).set9 (b := g) (o := j * 9) hkg' (.int .i64 0) (.int .i64 0) (.int .i64 0) (.int .i64 0) (.int .i64 0) (.int .i64 0) (.int .i64 0) (.slice none 0 0) (.slice none 0 0)
      have hRz : Rows kx (((((((((wr.setCell ⟨g, j * 9, none⟩ (.int .i64 0)).setCell ⟨g, j * 9 + 1, none⟩ (.int .i64 0)).setCell ⟨g, j * 9 + 2, none⟩ (.int .i64 0)).setCell ⟨g, j * 9 + 3, none⟩ (.int .i64 0)).setCell ⟨g, j * 9 + 4, none⟩ (.int .i64 0)).setCell ⟨g, j * 9 + 5, none⟩ (.int .i64 0)).setCell ⟨g, j * 9 + 6, none⟩ (.int .i64 0)).setCell ⟨g, j * 9 + 7, none⟩ (.slice none 0 0)).setCell ⟨g, j * 9 + 8, none⟩ (.slice none 0 0)) cXM 99 9 (.slice (some ⟨g, 0, none⟩) (j + 1) mcap) (rows'.set j zrow) := HN9.out.2.set9 j (by omega) (.int .i64 0) (.int .i64 0) (.int .i64 0) (.int .i64 0) (.int .i64 0) (.int .i64 0) (.int .i64 0) (.slice none 0 0) (.slice none 0 0)
      generalize hW9 : (((((((((wr.setCell ⟨g, j * 9, none⟩ (.int .i64 0)).setCell ⟨g, j * 9 + 1, none⟩ (.int .i64 0)).setCell ⟨g, j * 9 + 2, none⟩ (.int .i64 0)).setCell ⟨g, j * 9 + 3, none⟩ (.int .i64 0)).setCell ⟨g, j * 9 + 4, none⟩ (.int .i64 0)).setCell ⟨g, j * 9 + 5, none⟩ (.int .i64 0)).setCell ⟨g, j * 9 + 6, none⟩ (.int .i64 0)).setCell ⟨g, j * 9 + 7, none⟩ (.slice none 0 0)).setCell ⟨g, j * 9 + 8, none⟩ (.slice none 0 0)) = W9 at *
      have HW9 := hide hW9
      clear hW9 e0 e1 e2 e3 e4 e5 e6 e7 e8 f0 f1 f2 f3 f4 f5 f6 f7 f8 u2 ul uf2 q2 g0 g1 g2 g3 g4 g5 g6 g7 g8
      have bz9 := bz.evo evS (by decide)
      have bm9 := bm.evo evS (by decide)
      have hB9 := hBw.evo evS (by decide)
      have a2 : W9.cell? ⟨px, 2, none⟩ = some (.slice (some ⟨g, 0, none⟩) (j + 1) mcap) := by rw [← HHN.out]; exact (hB9.cell 2).trans h2
      have af := hB9.free 2
      have al := hB9.lt
      have hpz : ¬ px = w.heap.size := by omega
      have hpz1 : ¬ px = w.heap.size + 1 := by omega
      have hcp : j + 1 ≤ mcap := by omega
      unfold zrow at bz9
      have m0 : W9.cell? ⟨w.heap.size + 1, 0, none⟩ = some (.int .i64 mx.kind) := bm9.cell 0
      have m1 : W9.cell? ⟨w.heap.size + 1, 1, none⟩ = some (.int .i64 mx.frm) := bm9.cell 1
      have m2 : W9.cell? ⟨w.heap.size + 1, 2, none⟩ = some (.int .i64 mx.to_) := bm9.cell 2
      have m3 : W9.cell? ⟨w.heap.size + 1, 3, none⟩ = some (.int .i64 mx.epoch) := bm9.cell 3
      have m4 : W9.cell? ⟨w.heap.size + 1, 4, none⟩ = some (.int .i64 mx.lsn) := bm9.cell 4
      have m5 : W9.cell? ⟨w.heap.size + 1, 5, none⟩ = some (.int .i64 mx.value) := bm9.cell 5
      have m6 : W9.cell? ⟨w.heap.size + 1, 6, none⟩ = some (.int .i64 mx.scl) := bm9.cell 6
      have m7 : W9.cell? ⟨w.heap.size + 1, 7, none⟩ = some (.slice z0 z1 z2) := bm9.cell 7
      have m8 : W9.cell? ⟨w.heap.size + 1, 8, none⟩ = some (.slice y0 y1 y2) := bm9.cell 8
      have ml := bm9.lt
      have z0' : W9.cell? ⟨w.heap.size, 0, none⟩ = some (.int .i64 0) := bz9.cell 0
      have z1' : W9.cell? ⟨w.heap.size, 1, none⟩ = some (.int .i64 0) := bz9.cell 1
      have z2' : W9.cell? ⟨w.heap.size, 2, none⟩ = some (.int .i64 0) := bz9.cell 2
      have z3' : W9.cell? ⟨w.heap.size, 3, none⟩ = some (.int .i64 0) := bz9.cell 3
      have z4' : W9.cell? ⟨w.heap.size, 4, none⟩ = some (.int .i64 0) := bz9.cell 4
      have z5' : W9.cell? ⟨w.heap.size, 5, none⟩ = some (.int .i64 0) := bz9.cell 5
      have z6' : W9.cell? ⟨w.heap.size, 6, none⟩ = some (.int .i64 0) := bz9.cell 6
      have z7' : W9.cell? ⟨w.heap.size, 7, none⟩ = some (.slice none 0 0) := bz9.cell 7
      have z8' : W9.cell? ⟨w.heap.size, 8, none⟩ = some (.slice none 0 0) := bz9.cell 8
      have zf0 := bz9.free 0
      have zf1 := bz9.free 1
      have zf2 := bz9.free 2
      have zf3 := bz9.free 3
      have zf4 := bz9.free 4
      have zf5 := bz9.free 5
      have zf6 := bz9.free 6
      have zf7 := bz9.free 7
      have zf8 := bz9.free 8
      have zl := bz9.lt
      go_wp2_with fail
      have ev2 : Evo kx kx (fun c => c = cX ∨ c = cXM) wr (W9.setCell ⟨px, 2, none⟩ (.slice (some ⟨g, 0, none⟩) j mcap)) := (evS.mono (fun _ h => .inr h)).setCell _ _ (fun _ => .inl hB9.2)
      have evA : Evo k kx (fun c => c = cX ∨ c = cXM) w (W9.setCell ⟨px, 2, none⟩ (.slice (some ⟨g, 0, none⟩) j mcap)) := (ev.mono (fun _ h => .inr h)).trans ev2
      refine bodyPost_ret (v := .tuple #[.agg #[.int .i64 mx.kind, .int .i64 mx.frm, .int .i64 mx.to_, .int .i64 mx.epoch, .int .i64 mx.lsn, .int .i64 mx.value, .int .i64 mx.scl, .slice z0 z1 z2, .slice y0 y1 y2], .bool true]) (by simp [results, Try.results74, go_sem, z0', z1', z2', z3', z4', z5', z6', z7', z8']) rfl ?_
      have hk0 : kx w.heap.size = 0 := by rw [HKX.out]; simp
      have evN := (Evo.refl kx (fun c => c = 0) (W9.setCell ⟨px, 2, none⟩ (.slice (some ⟨g, 0, none⟩) j mcap))).set9 (b := w.heap.size) (o := 0) hk0 (.int .i64 mx.kind) (.int .i64 mx.frm) (.int .i64 mx.to_) (.int .i64 mx.epoch) (.int .i64 mx.lsn) (.int .i64 mx.value) (.int .i64 mx.scl) (.slice z0 z1 z2) (.slice y0 y1 y2)
      have evF := evA.setNew9 (b := w.heap.size) (o := 0) (Nat.le_refl _) (.int .i64 mx.kind) (.int .i64 mx.frm) (.int .i64 mx.to_) (.int .i64 mx.epoch) (.int .i64 mx.lsn) (.int .i64 mx.value) (.int .i64 mx.scl) (.slice z0 z1 z2) (.slice y0 y1 y2)
      simp only [Nat.zero_add] at evN evF
      have him : ¬ (IM = cX ∨ IM = cXM) := by decide
      have hd9 := HN9.out.1.done hxj hnl zrow
      have hRt := (hRz.take j (by simp; omega))
      rw [hd9] at hRt
      have hRf := (hRt.other ⟨px, 2, none⟩ (.slice (some ⟨g, 0, none⟩) j mcap) (by show kx px ≠ cXM; rw [hB9.2]; decide)).evo evN (by decide)
      refine ⟨_, _, kx, .slice (some ⟨g, 0, none⟩) j mcap, rfl, evF, (hB9.set 2 _).evo evN (by decide), ⟨_, hRf, ?_⟩, hcx.evo evF him, hmx.evo evF him⟩
      exact All2.erase (HALL.out.imp fun _ _ y => y.evo evF him) x

end Go.Proofs.Ytfpbkghcjaonlaa

/-
  sixfoldlaw: made; plays of nothing; News.
-/
namespace Go.Proofs.Ytfpbkghcjaonlaa
open Go.RowKit

/-- Nothing is ours as the call begins. -/
def k0 : Nat → Nat := fun _ => 0
def cOurs : Nat → Prop := fun c => 10 ≤ c

theorem below_of_ours {k' : Nat → Nat} {w w' : World} (h : Evo k0 k' cOurs w w') : Below w.heap.size w w' :=
  ⟨h.os, h.tape, h.output, h.size, fun b hb => h.keep b hb (by unfold cOurs k0; omega)⟩

end Go.Proofs.Ytfpbkghcjaonlaa
