import Derived.Test.YtfpbkghcjaonlaaGreatJ16
import Derived.Test.YtfpbkghcjaonlaaGreatJ08
/-
  The program: Take.
-/
namespace Go.Proofs.YtfpbkghcjaonlaaGreat
open Go.RowKit

def zrow : List Value := [.int .i64 0, .int .i64 0, .int .i64 0, .int .i64 0, .int .i64 0, .int .i64 0, .int .i64 0, .slice none 0 0, .slice none 0 0]

theorem Rows.set9 {k : Nat → Nat} {w : World} {c e b n cap : Nat} {rows : List (List Value)} (h : Rows k w c e 9 (.slice (some ⟨b, 0, none⟩) n cap) rows) (i : Nat) (hi : i < rows.length) (r0 r1 r2 r3 r4 r5 r6 r7 r8 : Value) :
    Rows k (((((((((w.setCell ⟨b, i * 9, none⟩ r0).setCell ⟨b, i * 9 + 1, none⟩ r1).setCell ⟨b, i * 9 + 2, none⟩ r2).setCell ⟨b, i * 9 + 3, none⟩ r3).setCell ⟨b, i * 9 + 4, none⟩ r4).setCell ⟨b, i * 9 + 5, none⟩ r5).setCell ⟨b, i * 9 + 6, none⟩ r6).setCell ⟨b, i * 9 + 7, none⟩ r7).setCell ⟨b, i * 9 + 8, none⟩ r8) c e 9 (.slice (some ⟨b, 0, none⟩) n cap) (rows.set i [r0, r1, r2, r3, r4, r5, r6, r7, r8]) := by
  have hl := h.len _ (List.getElem_mem hi)
  have s0 := h.set i 0 hi (by omega) r0
  have s1 := s0.set i 1 (by simpa using hi) (by omega) r1
  have s2 := s1.set i 2 (by simpa using hi) (by omega) r2
  have s3 := s2.set i 3 (by simpa using hi) (by omega) r3
  have s4 := s3.set i 4 (by simpa using hi) (by omega) r4
  have s5 := s4.set i 5 (by simpa using hi) (by omega) r5
  have s6 := s5.set i 6 (by simpa using hi) (by omega) r6
  have s7 := s6.set i 7 (by simpa using hi) (by omega) r7
  have s8 := s7.set i 8 (by simpa using hi) (by omega) r8
  obtain ⟨x, hx⟩ : ∃ x, rows[i] = x := ⟨_, rfl⟩
  rw [hx] at hl
  match x, hl with
  | [a0, a1, a2, a3, a4, a5, a6, a7, a8], _ =>
    simpa [hx] using s8

theorem Evo.set9 {k1 k2 : Nat → Nat} {C : Nat → Prop} {a w : World} {b o : Nat} (h : Evo k1 k2 C a w) (hb : C (k2 b)) (r0 r1 r2 r3 r4 r5 r6 r7 r8 : Value) :
    Evo k1 k2 C a (((((((((w.setCell ⟨b, o, none⟩ r0).setCell ⟨b, o + 1, none⟩ r1).setCell ⟨b, o + 2, none⟩ r2).setCell ⟨b, o + 3, none⟩ r3).setCell ⟨b, o + 4, none⟩ r4).setCell ⟨b, o + 5, none⟩ r5).setCell ⟨b, o + 6, none⟩ r6).setCell ⟨b, o + 7, none⟩ r7).setCell ⟨b, o + 8, none⟩ r8) :=
  ((((((((h.setCell _ _ (fun _ => hb)).setCell _ _ (fun _ => hb)).setCell _ _ (fun _ => hb)).setCell _ _ (fun _ => hb)).setCell _ _ (fun _ => hb)).setCell _ _ (fun _ => hb)).setCell _ _ (fun _ => hb)).setCell _ _ (fun _ => hb)).setCell _ _ (fun _ => hb)

theorem Evo.setNew {k1 k2 : Nat → Nat} {C : Nat → Prop} {a w : World} (h : Evo k1 k2 C a w) (p : Addr) (v : Value) (hp : a.heap.size ≤ p.block) : Evo k1 k2 C a (w.setCell p v) :=
  ⟨h.os, h.tape, h.output, by rw [World.size_setCell]; exact h.size, h.col, fun b hb hc => by rw [heap_setCell_other w p b v (by omega)]; exact h.keep b hb hc⟩
theorem Evo.setNew9 {k1 k2 : Nat → Nat} {C : Nat → Prop} {a w : World} {b o : Nat} (h : Evo k1 k2 C a w) (hb : a.heap.size ≤ b) (r0 r1 r2 r3 r4 r5 r6 r7 r8 : Value) :
    Evo k1 k2 C a (((((((((w.setCell ⟨b, o, none⟩ r0).setCell ⟨b, o + 1, none⟩ r1).setCell ⟨b, o + 2, none⟩ r2).setCell ⟨b, o + 3, none⟩ r3).setCell ⟨b, o + 4, none⟩ r4).setCell ⟨b, o + 5, none⟩ r5).setCell ⟨b, o + 6, none⟩ r6).setCell ⟨b, o + 7, none⟩ r7).setCell ⟨b, o + 8, none⟩ r8) :=
  ((((((((h.setNew _ _ hb).setNew _ _ hb).setNew _ _ hb).setNew _ _ hb).setNew _ _ hb).setNew _ _ hb).setNew _ _ hb).setNew _ _ hb).setNew _ _ hb
theorem All2.erase {A B : Type} {R : A → B → Prop} {xs : List A} {ys : List B} (h : All2 R xs ys) (x : Nat) : All2 R (xs.eraseIdx x) (ys.eraseIdx x) := by
  refine ⟨by rw [List.length_eraseIdx, List.length_eraseIdx, h.1], fun i h1 h2 => ?_⟩
  rw [List.getElem_eraseIdx, List.getElem_eraseIdx]
  split
  · exact h.2 _ _ _
  · exact h.2 _ _ _

/-- Some rows have moved up by one. -/
def Moved (rows rows' : List (List Value)) (x i : Nat) : Prop := rows'.length = rows.length ∧ ∀ t (h : t < rows.length) (h' : t < rows'.length), rows'[t] = if x ≤ t ∧ t < i then rows.getD (t + 1) [] else rows[t]

theorem Moved.step {rows rows' : List (List Value)} {x i : Nat} (h : Moved rows rows' x i) (hx : x ≤ i) (hi : i + 1 < rows.length) : Moved rows (rows'.set i (rows[i + 1]'hi)) x (i + 1) := by
  refine ⟨by simpa using h.1, fun t h1 h2 => ?_⟩
  rw [List.getElem_set]
  by_cases e : i = t
  · subst e
    rw [if_pos rfl, if_pos ⟨hx, by omega⟩, List.getD_eq_getElem?_getD, List.getElem?_eq_getElem hi]; rfl
  · rw [if_neg e, h.2 t h1 (by simpa using h2)]
    by_cases c : x ≤ t ∧ t < i
    · rw [if_pos c, if_pos ⟨c.1, by omega⟩]
    · rw [if_neg c, if_neg (by omega)]

theorem Moved.done {rows rows' : List (List Value)} {x n : Nat} (h : Moved rows rows' x n) (hx : x ≤ n) (hn : rows.length = n + 1) (z : List Value) : (rows'.set n z).take n = rows.eraseIdx x := by
  have hl := h.1
  apply List.ext_getElem
  · rw [List.length_eraseIdx, if_pos (by omega)]; simp; omega
  · intro t h1 h2
    simp only [List.length_take, List.length_set] at h1
    rw [List.getElem_take, List.getElem_set, if_neg (by omega), h.2 t (by omega) (by omega), List.getElem_eraseIdx]
    by_cases c : t < x
    · rw [if_neg (by omega)]; simp [c]
    · rw [if_pos ⟨by omega, by omega⟩]
      simp only [c, dif_neg, not_false_eq_true]
      rw [List.getD_eq_getElem?_getD, List.getElem?_eq_getElem (by omega)]; rfl

theorem Rows.take {k : Nat → Nat} {w : World} {c e size b n cap : Nat} {rows : List (List Value)} (h : Rows k w c e size (.slice (some ⟨b, 0, none⟩) n cap) rows) (i : Nat) (hi : i ≤ rows.length) : Rows k w c e size (.slice (some ⟨b, 0, none⟩) i cap) (rows.take i) := by
  have hl : (rows.take i).length = i := by simp; omega
  have hf : (rows.take i).flatten = rows.flatten.take (i * size) := by
    have h1 : rows.flatten = (rows.take i).flatten ++ (rows.drop i).flatten := by rw [← List.flatten_append, List.take_append_drop]
    have h2 : (rows.take i).flatten.length = i * size := by rw [flatten_len (fun r hr => h.len r (List.mem_of_mem_take hr)), hl]
    rw [h1, ← h2, List.take_left]
  refine ⟨fun r hr => h.len r (List.mem_of_mem_take hr), ?_, fun g hg => h.col g hg⟩
  have ho := h.own
  rw [hl]
  refine ⟨by rw [flatten_len (fun r hr => h.len r (List.mem_of_mem_take hr)), hl], ?_⟩
  rcases ho.2 with ⟨hn, _⟩ | ⟨g, cap', cur, hv, hb, hg, h1, h2, h3, h4⟩
  · simp at hn
  · simp only [Value.slice.injEq, Option.some.injEq, Addr.mk.injEq] at hv
    obtain ⟨⟨hg1, _⟩, hn1, hc1⟩ := hv
    subst hg1; subst hc1
    refine .inr ⟨b, cap, cur, rfl, hb, hg, by omega, h2, h3, ?_⟩
    rw [hf, ← h4, List.take_take]
    congr 1
    have : i * size ≤ rows.length * size := Nat.mul_le_mul_right _ hi
    omega

set_option maxRecDepth 3000 in
set_option maxHeartbeats 4000000 in
theorem take_no (w : World) (b : Nat) (n : Int) (a : Option Addr) (len cap : Nat) (hc : w.cell? ⟨b, 2, none⟩ = some (.slice a len cap)) (hn : n < 0 ∨ (len : Int) ≤ n) :
    Calls Tryz.prog 97 #[.pointer (some ⟨b, 1, none⟩), .int .i64 n] w fun e w' => e = .returned (.tuple #[.agg #[.int .i64 0, .int .i64 0, .int .i64 0, .int .i64 0, .int .i64 0, .int .i64 0, .int .i64 0, .slice none 0 0, .slice none 0 0], .bool false]) ∧ Below w.heap.size w w' := by
  have hbl := World.block_lt_of_cell? w _ hc
  by_cases h0 : n < 0
  · have d0 : decide (n < 0) = true := by simpa using h0
    go_enter Tryz.func97, Tryz.ntmps97
    go_wp2
    exact bodyPost_ret (v := .tuple #[.agg #[.int .i64 0, .int .i64 0, .int .i64 0, .int .i64 0, .int .i64 0, .int .i64 0, .int .i64 0, .slice none 0 0, .slice none 0 0], .bool false]) (by simp [results, Tryz.results97, go_sem]) rfl ⟨rfl, (Below.refl _ _).alloc (Nat.le_refl _) _⟩
  · have d0 : decide (n < 0) = false := by simpa using h0
    have h1 : (len : Int) ≤ n := by omega
    clear hn
    go_enter Tryz.func97, Tryz.ntmps97
    go_wp2
    exact bodyPost_ret (v := .tuple #[.agg #[.int .i64 0, .int .i64 0, .int .i64 0, .int .i64 0, .int .i64 0, .int .i64 0, .int .i64 0, .slice none 0 0, .slice none 0 0], .bool false]) (by simp [results, Tryz.results97, go_sem]) rfl ⟨rfl, (Below.refl _ _).alloc (Nat.le_refl _) _⟩

theorem msg_row {k : Nat → Nat} {w : World} {m : Msg} {r : List Value} (h : MsgIs k w m r) : ∃ z0 z1 z2 y0 y1 y2, r = msgCells m (.slice z0 z1 z2) (.slice y0 y1 y2) ∧ CutsIm k w (.slice z0 z1 z2) m.cuts ∧ IntsIm k w (.slice y0 y1 y2) m.marks := by
  obtain ⟨vc, vm, rfl, hc, hm⟩ := h
  obtain ⟨z0, z1, z2, hz⟩ := Rows.shape hc
  subst hz
  obtain ⟨y0, y1, y2, hz⟩ := Rows.shape hm
  subst hz
  exact ⟨z0, z1, z2, y0, y1, y2, rfl, hc, hm⟩

set_option maxRecDepth 20000 in
set_option maxHeartbeats 8000000 in
theorem take_in {k : Nat → Nat} {w : World} {px : Nat} {cs : List Value} {vM : Value} {msgs : List Msg} (x : Nat) (hx : x < msgs.length) (hB : Blk k w cX px 77 cs) (h2 : cs[2]? = some vM) (hM : MsgsIs k w cXM vM msgs) (hl : msgs.length ≤ 4000000000) :
    Calls Tryz.prog 97 #[.pointer (some ⟨px, 1, none⟩), .int .i64 x] w fun e w' => ∃ vc vm k' vM', e = .returned (.tuple #[.agg #[.int .i64 msgs[x].kind, .int .i64 msgs[x].frm, .int .i64 msgs[x].to_, .int .i64 msgs[x].epoch, .int .i64 msgs[x].lsn, .int .i64 msgs[x].value, .int .i64 msgs[x].scl, vc, vm], .bool true]) ∧ Evo k k' (fun c => c = cX ∨ c = cXM) w w' ∧ Blk k' w' cX px 77 (cs.set 2 vM') ∧ MsgsIs k' w' cXM vM' (msgs.eraseIdx x) ∧ CutsIm k' w' vc msgs[x].cuts ∧ IntsIm k' w' vm msgs[x].marks := by
  obtain ⟨rows, hR, hA⟩ := hM
  have hnl : rows.length = msgs.length := hA.1.symm
  obtain ⟨g, mcap, hvm, hkg, hgl, hcap, hcell, hfr⟩ := hR.at (by omega)
  rw [hnl] at hvm
  subst hvm
  obtain ⟨z0, z1, z2, y0, y1, y2, hrx, hcx, hmx⟩ := msg_row (hA.2 x hx (by omega))
  obtain ⟨n, hn⟩ : ∃ n, msgs.length = n + 1 := ⟨msgs.length - 1, by omega⟩
  have q2 : w.cell? ⟨px, 2, none⟩ = some (.slice (some ⟨g, 0, none⟩) (n + 1) mcap) := by rw [← hn]; exact (hB.cell 2).trans h2
  have ql := hB.lt
  have r0 : ∀ j, j < 9 → w.cell? ⟨g, x * 9 + j, none⟩ = (msgCells msgs[x] (.slice z0 z1 z2) (.slice y0 y1 y2))[j]? := fun j hj => by rw [hcell x j (by omega) hj, hrx]
  have g0 : w.cell? ⟨g, x * 9 + 0, none⟩ = _ := r0 0 (by omega)
  have g1 : w.cell? ⟨g, x * 9 + 1, none⟩ = _ := r0 1 (by omega)
  have g2 : w.cell? ⟨g, x * 9 + 2, none⟩ = _ := r0 2 (by omega)
  have g3 : w.cell? ⟨g, x * 9 + 3, none⟩ = _ := r0 3 (by omega)
  have g4 : w.cell? ⟨g, x * 9 + 4, none⟩ = _ := r0 4 (by omega)
  have g5 : w.cell? ⟨g, x * 9 + 5, none⟩ = _ := r0 5 (by omega)
  have g6 : w.cell? ⟨g, x * 9 + 6, none⟩ = _ := r0 6 (by omega)
  have g7 : w.cell? ⟨g, x * 9 + 7, none⟩ = _ := r0 7 (by omega)
  have g8 : w.cell? ⟨g, x * 9 + 8, none⟩ = _ := r0 8 (by omega)
  simp only [msgCells, List.getElem?_cons_zero, List.getElem?_cons_succ, Nat.add_zero] at g0 g1 g2 g3 g4 g5 g6 g7 g8
  have hpg : ¬ px = g := fun e => by have := hB.2; rw [e, hkg] at this; revert this; decide
  have HALL := hide hA
  have HHN := hide hn
  rw [hn] at hR hl hx hnl
  generalize hmx0 : msgs[x] = mx at *
  have hd1 : decide ((x : Int) < 0) = false := by simp
  have hd2 : decide (((n : Int) + 1) ≤ (x : Int)) = false := by simp; omega
  have hw : (n : Int) + 1 - 1 = (n : Int) := by omega
  have hxn : x ≤ n := by omega
  clear r0 hcell hmx0
  go_enter Tryz.func97, Tryz.ntmps97
  go_wp2_with fail
  obtain ⟨kx, hkx⟩ : ∃ kx : Nat → Nat, kx = fun b => if b < w.heap.size then k b else 0 := ⟨_, rfl⟩
  have H0 : Hid (∃ rows', Evo k kx (fun c => c = cXM) w ((w.alloc (Obj.cells #[.int .i64 0, .int .i64 0, .int .i64 0, .int .i64 0, .int .i64 0, .int .i64 0, .int .i64 0, .slice none 0 0, .slice none 0 0] 109)).alloc (Obj.cells #[.int .i64 mx.kind, .int .i64 mx.frm, .int .i64 mx.to_, .int .i64 mx.epoch, .int .i64 mx.lsn, .int .i64 mx.value, .int .i64 mx.scl, .slice z0 z1 z2, .slice y0 y1 y2] 109)) ∧ Rows kx ((w.alloc (Obj.cells #[.int .i64 0, .int .i64 0, .int .i64 0, .int .i64 0, .int .i64 0, .int .i64 0, .int .i64 0, .slice none 0 0, .slice none 0 0] 109)).alloc (Obj.cells #[.int .i64 mx.kind, .int .i64 mx.frm, .int .i64 mx.to_, .int .i64 mx.epoch, .int .i64 mx.lsn, .int .i64 mx.value, .int .i64 mx.scl, .slice z0 z1 z2, .slice y0 y1 y2] 109)) cXM 109 9 (.slice (some ⟨g, 0, none⟩) (n + 1) mcap) rows' ∧ Moved rows rows' x x ∧ Blk kx ((w.alloc (Obj.cells #[.int .i64 0, .int .i64 0, .int .i64 0, .int .i64 0, .int .i64 0, .int .i64 0, .int .i64 0, .slice none 0 0, .slice none 0 0] 109)).alloc (Obj.cells #[.int .i64 mx.kind, .int .i64 mx.frm, .int .i64 mx.to_, .int .i64 mx.epoch, .int .i64 mx.lsn, .int .i64 mx.value, .int .i64 mx.scl, .slice z0 z1 z2, .slice y0 y1 y2] 109)) 0 w.heap.size 109 zrow ∧ Blk kx ((w.alloc (Obj.cells #[.int .i64 0, .int .i64 0, .int .i64 0, .int .i64 0, .int .i64 0, .int .i64 0, .int .i64 0, .slice none 0 0, .slice none 0 0] 109)).alloc (Obj.cells #[.int .i64 mx.kind, .int .i64 mx.frm, .int .i64 mx.to_, .int .i64 mx.epoch, .int .i64 mx.lsn, .int .i64 mx.value, .int .i64 mx.scl, .slice z0 z1 z2, .slice y0 y1 y2] 109)) 0 (w.heap.size + 1) 109 [.int .i64 mx.kind, .int .i64 mx.frm, .int .i64 mx.to_, .int .i64 mx.epoch, .int .i64 mx.lsn, .int .i64 mx.value, .int .i64 mx.scl, .slice z0 z1 z2, .slice y0 y1 y2]) := by
    have ev : Evo k kx noC w ((w.alloc (Obj.cells #[.int .i64 0, .int .i64 0, .int .i64 0, .int .i64 0, .int .i64 0, .int .i64 0, .int .i64 0, .slice none 0 0, .slice none 0 0] 109)).alloc (Obj.cells #[.int .i64 mx.kind, .int .i64 mx.frm, .int .i64 mx.to_, .int .i64 mx.epoch, .int .i64 mx.lsn, .int .i64 mx.value, .int .i64 mx.scl, .slice z0 z1 z2, .slice y0 y1 y2] 109)) := by rw [hkx]; exact (((Evo.refl k noC w).alloc _).alloc _).recolour _ (fun i hi => if_pos hi)
    refine hide ⟨rows, ev.mono (fun _ h => h.elim), hR.evo ev (noC_not _), ⟨rfl, fun t h1 h2 => by rw [if_neg (by omega)]⟩, ⟨(Below.heap_alloc _ _ _ (by simp)).trans (heap_alloc_new w _), by rw [hkx]; simp⟩, ⟨heap_alloc2_new w _ _, by rw [hkx]; simp; omega⟩⟩
  have HKX := hide hkx
  clear hkx
  go_loopw [8] (fun i wr => ∃ j : Nat, x ≤ j ∧ j ≤ n ∧ i = .int .i64 j ∧ Hid (∃ rows', Evo k kx (fun c => c = cXM) w wr ∧ Rows kx wr cXM 109 9 (.slice (some ⟨g, 0, none⟩) (n + 1) mcap) rows' ∧ Moved rows rows' x j ∧ Blk kx wr 0 w.heap.size 109 zrow ∧ Blk kx wr 0 (w.heap.size + 1) 109 [.int .i64 mx.kind, .int .i64 mx.frm, .int .i64 mx.to_, .int .i64 mx.epoch, .int .i64 mx.lsn, .int .i64 mx.value, .int .i64 mx.scl, .slice z0 z1 z2, .slice y0 y1 y2])) (fun i _ => n - (intOf i).toNat)
  case atStart => exact ⟨x, Nat.le_refl _, hxn, rfl, H0⟩
  case round =>
    obtain ⟨j, hxj, hjn, rfl, hst⟩ := hrel
    obtain ⟨rows', ev, hR', hMv, bz, bm⟩ := hst.out
    have hl' : rows'.length = n + 1 := hMv.1.trans hnl
    obtain ⟨g', cap', hv', hkg', hgl', _, hcell', hfr'⟩ := hR'.at (by omega)
    simp only [Value.slice.injEq, Option.some.injEq, Addr.mk.injEq, and_true] at hv'
    obtain ⟨hg', -, hc'⟩ := hv'
    subst hg' hc'
    have hBw := hB.evo ev (by decide)
    have u2 : wr.cell? ⟨px, 2, none⟩ = some (.slice (some ⟨g, 0, none⟩) (n + 1) mcap) := by rw [← HHN.out]; exact (hBw.cell 2).trans h2
    have ul := hBw.lt
    have uf2 : wr.frozen? ⟨px, 2, none⟩ = false := hBw.free 2
    have hlj := hR'.len _ (List.getElem_mem (show j < rows'.length by omega))
    obtain ⟨c0, c1, c2, c3, c4, c5, c6, c7, c8, hrow⟩ : ∃ c0 c1 c2 c3 c4 c5 c6 c7 c8, rows'[j] = [c0, c1, c2, c3, c4, c5, c6, c7, c8] := by
      match h : rows'[j], hlj with
      | [c0, c1, c2, c3, c4, c5, c6, c7, c8], _ => exact ⟨c0, c1, c2, c3, c4, c5, c6, c7, c8, rfl⟩
    have rj : ∀ t, t < 9 → wr.cell? ⟨g, j * 9 + t, none⟩ = [c0, c1, c2, c3, c4, c5, c6, c7, c8][t]? := fun t ht => by rw [hcell' j t (by omega) ht, hrow]
    have e0 : wr.cell? ⟨g, j * 9 + 0, none⟩ = _ := rj 0 (by omega)
    have e1 : wr.cell? ⟨g, j * 9 + 1, none⟩ = _ := rj 1 (by omega)
    have e2 : wr.cell? ⟨g, j * 9 + 2, none⟩ = _ := rj 2 (by omega)
    have e3 : wr.cell? ⟨g, j * 9 + 3, none⟩ = _ := rj 3 (by omega)
    have e4 : wr.cell? ⟨g, j * 9 + 4, none⟩ = _ := rj 4 (by omega)
    have e5 : wr.cell? ⟨g, j * 9 + 5, none⟩ = _ := rj 5 (by omega)
    have e6 : wr.cell? ⟨g, j * 9 + 6, none⟩ = _ := rj 6 (by omega)
    have e7 : wr.cell? ⟨g, j * 9 + 7, none⟩ = _ := rj 7 (by omega)
    have e8 : wr.cell? ⟨g, j * 9 + 8, none⟩ = _ := rj 8 (by omega)
    simp only [List.getElem?_cons_zero, List.getElem?_cons_succ, Nat.add_zero] at e0 e1 e2 e3 e4 e5 e6 e7 e8
    have f0 := hfr' (j * 9)
    have f1 := hfr' (j * 9 + 1)
    have f2 := hfr' (j * 9 + 2)
    have f3 := hfr' (j * 9 + 3)
    have f4 := hfr' (j * 9 + 4)
    have f5 := hfr' (j * 9 + 5)
    have f6 := hfr' (j * 9 + 6)
    have f7 := hfr' (j * 9 + 7)
    have f8 := hfr' (j * 9 + 8)
    by_cases hlt : j < n
    · have hd : decide ((j : Int) < (n : Int)) = true := by simp; omega
      have hwj : IntKind.i64.wrap ((j : Int) + 1) = (j : Int) + 1 := by rw [IntKind.wrap_i64] <;> omega
      obtain ⟨zz0, zz1, zz2, yy0, yy1, yy2, hr1, _, _⟩ := msg_row (HALL.out.2 (j + 1) (by rw [HHN.out]; omega) (by omega))
      have hrow1 : rows'[j + 1]'(by omega) = msgCells (msgs[j + 1]'(by rw [HHN.out]; omega)) (.slice zz0 zz1 zz2) (.slice yy0 yy1 yy2) := by rw [hMv.2 (j + 1) (by omega) (by omega), if_neg (by omega)]; exact hr1
      generalize msgs[j + 1]'(by rw [HHN.out]; omega) = mj at *
      have rj1 : ∀ t, t < 9 → wr.cell? ⟨g, (j + 1) * 9 + t, none⟩ = (msgCells mj (.slice zz0 zz1 zz2) (.slice yy0 yy1 yy2))[t]? := fun t ht => by rw [hcell' (j + 1) t (by omega) ht, hrow1]
      have v0 : wr.cell? ⟨g, (j + 1) * 9 + 0, none⟩ = _ := rj1 0 (by omega)
      have v1 : wr.cell? ⟨g, (j + 1) * 9 + 1, none⟩ = _ := rj1 1 (by omega)
      have v2 : wr.cell? ⟨g, (j + 1) * 9 + 2, none⟩ = _ := rj1 2 (by omega)
      have v3 : wr.cell? ⟨g, (j + 1) * 9 + 3, none⟩ = _ := rj1 3 (by omega)
      have v4 : wr.cell? ⟨g, (j + 1) * 9 + 4, none⟩ = _ := rj1 4 (by omega)
      have v5 : wr.cell? ⟨g, (j + 1) * 9 + 5, none⟩ = _ := rj1 5 (by omega)
      have v6 : wr.cell? ⟨g, (j + 1) * 9 + 6, none⟩ = _ := rj1 6 (by omega)
      have v7 : wr.cell? ⟨g, (j + 1) * 9 + 7, none⟩ = _ := rj1 7 (by omega)
      have v8 : wr.cell? ⟨g, (j + 1) * 9 + 8, none⟩ = _ := rj1 8 (by omega)
      simp only [msgCells, List.getElem?_cons_zero, List.getElem?_cons_succ, Nat.add_zero] at v0 v1 v2 v3 v4 v5 v6 v7 v8
      have hj1 : ((j : Int) + 1) < (n : Int) + 1 := by omega
      have hM9 := hMv.step hxj (by omega)
      rw [hr1] at hM9
      have HN9 := hide (And.intro hM9 hR')
      clear rj rj1 hcell' hfr' hrow1 hr1 hM9 hst hrow hrx hn hlj
      go_wp2_with fail
      go_region
      all_goals go_wp2_with fail
      go_roundw
      case rel =>
        have evS := ((Evo.refl kx (fun c => c = cXM) wr).set9 (b := g) (o := j * 9) hkg' (.int .i64 mj.kind) (.int .i64 mj.frm) (.int .i64 mj.to_) (.int .i64 mj.epoch) (.int .i64 mj.lsn) (.int .i64 mj.value) (.int .i64 mj.scl) (.slice zz0 zz1 zz2) (.slice yy0 yy1 yy2)).drew
        exact ⟨j + 1, by omega, by omega, by go_num, hide ⟨_, ev.trans evS, (HN9.out.2.set9 j (by omega) (.int .i64 mj.kind) (.int .i64 mj.frm) (.int .i64 mj.to_) (.int .i64 mj.epoch) (.int .i64 mj.lsn) (.int .i64 mj.value) (.int .i64 mj.scl) (.slice zz0 zz1 zz2) (.slice yy0 yy1 yy2)).drew, HN9.out.1, bz.evo evS (by decide), bm.evo evS (by decide)⟩⟩
      case measure => simp [intOf]; omega
    · have hje : j = n := by omega
      have hd : decide ((j : Int) < (n : Int)) = false := by simp; omega
      subst hje
      have HN9 := hide (And.intro hMv hR')
      clear rj hcell' hfr' hst hrow hrx hn hlj
      go_upto_region 10 with (fail)
      have evS : Evo kx kx (fun c => c = cXM) wr (((((((((wr.setCell ⟨g, j * 9, none⟩ (.int .i64 0)).setCell ⟨g, j * 9 + 1, none⟩ (.int .i64 0)).setCell ⟨g, j * 9 + 2, none⟩ (.int .i64 0)).setCell ⟨g, j * 9 + 3, none⟩ (.int .i64 0)).setCell ⟨g, j * 9 + 4, none⟩ (.int .i64 0)).setCell ⟨g, j * 9 + 5, none⟩ (.int .i64 0)).setCell ⟨g, j * 9 + 6, none⟩ (.int .i64 0)).setCell ⟨g, j * 9 + 7, none⟩ (.slice none 0 0)).setCell ⟨g, j * 9 + 8, none⟩ (.slice none 0 0)) := (Evo.refl kx (fun c => c = cXM) wr).set9 (b := g) (o := j * 9) hkg' (.int .i64 0) (.int .i64 0) (.int .i64 0) (.int .i64 0) (.int .i64 0) (.int .i64 0) (.int .i64 0) (.slice none 0 0) (.slice none 0 0)
      have hRz : Rows kx (((((((((wr.setCell ⟨g, j * 9, none⟩ (.int .i64 0)).setCell ⟨g, j * 9 + 1, none⟩ (.int .i64 0)).setCell ⟨g, j * 9 + 2, none⟩ (.int .i64 0)).setCell ⟨g, j * 9 + 3, none⟩ (.int .i64 0)).setCell ⟨g, j * 9 + 4, none⟩ (.int .i64 0)).setCell ⟨g, j * 9 + 5, none⟩ (.int .i64 0)).setCell ⟨g, j * 9 + 6, none⟩ (.int .i64 0)).setCell ⟨g, j * 9 + 7, none⟩ (.slice none 0 0)).setCell ⟨g, j * 9 + 8, none⟩ (.slice none 0 0)) cXM 109 9 (.slice (some ⟨g, 0, none⟩) (j + 1) mcap) (rows'.set j zrow) := HN9.out.2.set9 j (by omega) (.int .i64 0) (.int .i64 0) (.int .i64 0) (.int .i64 0) (.int .i64 0) (.int .i64 0) (.int .i64 0) (.slice none 0 0) (.slice none 0 0)
      generalize hW9 : (((((((((wr.setCell ⟨g, j * 9, none⟩ (.int .i64 0)).setCell ⟨g, j * 9 + 1, none⟩ (.int .i64 0)).setCell ⟨g, j * 9 + 2, none⟩ (.int .i64 0)).setCell ⟨g, j * 9 + 3, none⟩ (.int .i64 0)).setCell ⟨g, j * 9 + 4, none⟩ (.int .i64 0)).setCell ⟨g, j * 9 + 5, none⟩ (.int .i64 0)).setCell ⟨g, j * 9 + 6, none⟩ (.int .i64 0)).setCell ⟨g, j * 9 + 7, none⟩ (.slice none 0 0)).setCell ⟨g, j * 9 + 8, none⟩ (.slice none 0 0)) = W9 at *
      have HW9 := hide hW9
      clear hW9 e0 e1 e2 e3 e4 e5 e6 e7 e8 f0 f1 f2 f3 f4 f5 f6 f7 f8 u2 ul uf2 q2 g0 g1 g2 g3 g4 g5 g6 g7 g8
      have bz9 := bz.evo evS (by decide)
      have bm9 := bm.evo evS (by decide)
      have hB9 := hBw.evo evS (by decide)
      have a2 : W9.cell? ⟨px, 2, none⟩ = some (.slice (some ⟨g, 0, none⟩) (j + 1) mcap) := by rw [← HHN.out]; exact (hB9.cell 2).trans h2
      have af := hB9.free 2
      have al := hB9.lt
      have hpz : ¬ px = w.heap.size := by omega
      have hpz1 : ¬ px = w.heap.size + 1 := by omega
      have hcp : j + 1 ≤ mcap := by omega
      unfold zrow at bz9
      have m0 : W9.cell? ⟨w.heap.size + 1, 0, none⟩ = some (.int .i64 mx.kind) := bm9.cell 0
      have m1 : W9.cell? ⟨w.heap.size + 1, 1, none⟩ = some (.int .i64 mx.frm) := bm9.cell 1
      have m2 : W9.cell? ⟨w.heap.size + 1, 2, none⟩ = some (.int .i64 mx.to_) := bm9.cell 2
      have m3 : W9.cell? ⟨w.heap.size + 1, 3, none⟩ = some (.int .i64 mx.epoch) := bm9.cell 3
      have m4 : W9.cell? ⟨w.heap.size + 1, 4, none⟩ = some (.int .i64 mx.lsn) := bm9.cell 4
      have m5 : W9.cell? ⟨w.heap.size + 1, 5, none⟩ = some (.int .i64 mx.value) := bm9.cell 5
      have m6 : W9.cell? ⟨w.heap.size + 1, 6, none⟩ = some (.int .i64 mx.scl) := bm9.cell 6
      have m7 : W9.cell? ⟨w.heap.size + 1, 7, none⟩ = some (.slice z0 z1 z2) := bm9.cell 7
      have m8 : W9.cell? ⟨w.heap.size + 1, 8, none⟩ = some (.slice y0 y1 y2) := bm9.cell 8
      have ml := bm9.lt
      have z0' : W9.cell? ⟨w.heap.size, 0, none⟩ = some (.int .i64 0) := bz9.cell 0
      have z1' : W9.cell? ⟨w.heap.size, 1, none⟩ = some (.int .i64 0) := bz9.cell 1
      have z2' : W9.cell? ⟨w.heap.size, 2, none⟩ = some (.int .i64 0) := bz9.cell 2
      have z3' : W9.cell? ⟨w.heap.size, 3, none⟩ = some (.int .i64 0) := bz9.cell 3
      have z4' : W9.cell? ⟨w.heap.size, 4, none⟩ = some (.int .i64 0) := bz9.cell 4
      have z5' : W9.cell? ⟨w.heap.size, 5, none⟩ = some (.int .i64 0) := bz9.cell 5
      have z6' : W9.cell? ⟨w.heap.size, 6, none⟩ = some (.int .i64 0) := bz9.cell 6
      have z7' : W9.cell? ⟨w.heap.size, 7, none⟩ = some (.slice none 0 0) := bz9.cell 7
      have z8' : W9.cell? ⟨w.heap.size, 8, none⟩ = some (.slice none 0 0) := bz9.cell 8
      have zf0 := bz9.free 0
      have zf1 := bz9.free 1
      have zf2 := bz9.free 2
      have zf3 := bz9.free 3
      have zf4 := bz9.free 4
      have zf5 := bz9.free 5
      have zf6 := bz9.free 6
      have zf7 := bz9.free 7
      have zf8 := bz9.free 8
      have zl := bz9.lt
      go_wp2_with fail
      have ev2 : Evo kx kx (fun c => c = cX ∨ c = cXM) wr (W9.setCell ⟨px, 2, none⟩ (.slice (some ⟨g, 0, none⟩) j mcap)) := (evS.mono (fun _ h => .inr h)).setCell _ _ (fun _ => .inl hB9.2)
      have evA : Evo k kx (fun c => c = cX ∨ c = cXM) w (W9.setCell ⟨px, 2, none⟩ (.slice (some ⟨g, 0, none⟩) j mcap)) := (ev.mono (fun _ h => .inr h)).trans ev2
      refine bodyPost_ret (v := .tuple #[.agg #[.int .i64 mx.kind, .int .i64 mx.frm, .int .i64 mx.to_, .int .i64 mx.epoch, .int .i64 mx.lsn, .int .i64 mx.value, .int .i64 mx.scl, .slice z0 z1 z2, .slice y0 y1 y2], .bool true]) (by simp [results, Tryz.results97, go_sem, z0', z1', z2', z3', z4', z5', z6', z7', z8']) rfl ?_
      have hk0 : kx w.heap.size = 0 := by rw [HKX.out]; simp
      have evN := (Evo.refl kx (fun c => c = 0) (W9.setCell ⟨px, 2, none⟩ (.slice (some ⟨g, 0, none⟩) j mcap))).set9 (b := w.heap.size) (o := 0) hk0 (.int .i64 mx.kind) (.int .i64 mx.frm) (.int .i64 mx.to_) (.int .i64 mx.epoch) (.int .i64 mx.lsn) (.int .i64 mx.value) (.int .i64 mx.scl) (.slice z0 z1 z2) (.slice y0 y1 y2)
      have evF := evA.setNew9 (b := w.heap.size) (o := 0) (Nat.le_refl _) (.int .i64 mx.kind) (.int .i64 mx.frm) (.int .i64 mx.to_) (.int .i64 mx.epoch) (.int .i64 mx.lsn) (.int .i64 mx.value) (.int .i64 mx.scl) (.slice z0 z1 z2) (.slice y0 y1 y2)
      simp only [Nat.zero_add] at evN evF
      have him : ¬ (IM = cX ∨ IM = cXM) := by decide
      have hd9 := HN9.out.1.done hxj hnl zrow
      have hRt := (hRz.take j (by simp; omega))
      rw [hd9] at hRt
      have hRf := (hRt.other ⟨px, 2, none⟩ (.slice (some ⟨g, 0, none⟩) j mcap) (by show kx px ≠ cXM; rw [hB9.2]; decide)).evo evN (by decide)
      refine ⟨_, _, kx, .slice (some ⟨g, 0, none⟩) j mcap, rfl, evF, (hB9.set 2 _).evo evN (by decide), ⟨_, hRf, ?_⟩, hcx.evo evF him, hmx.evo evF him⟩
      exact All2.erase (HALL.out.imp fun _ _ y => y.evo evF him) x

end Go.Proofs.YtfpbkghcjaonlaaGreat

/-
  sixfoldlaw: made; plays of nothing; News.
-/
namespace Go.Proofs.YtfpbkghcjaonlaaGreat
open Go.RowKit

/-- Nothing is ours as the call begins. -/
def k0 : Nat → Nat := fun _ => 0
def cOurs : Nat → Prop := fun c => 10 ≤ c

theorem below_of_ours {k' : Nat → Nat} {w w' : World} (h : Evo k0 k' cOurs w w') : Below w.heap.size w w' :=
  ⟨h.os, h.tape, h.output, h.size, fun b hb => h.keep b hb (by unfold cOurs k0; omega)⟩

set_option maxHeartbeats 2000000 in
theorem made_bad (w : World) (a b : Int) (h : a < 1 ∨ 8 < a ∨ b < 1 ∨ 200 < b) :
    Calls Tryz.prog 9 #[.agg #[.int .i64 a, .int .i64 b]] w fun e w' => e = .returned (.tuple #[.pointer none, .bool true]) ∧ Below w.heap.size w w' := by
  have HX := hide (fun W => xnew_bad W a b h)
  have HY := hide (fun W => refNew_bad W a b h)
  clear h
  go_enter Tryz.func9, Tryz.ntmps9
  go_wp2_with fail
  refine (HX.out _).mono ?_
  rintro e1 w1 ⟨rfl, hb1⟩
  have hs1 := hb1.size
  simp only [World.size_alloc] at hs1
  have hk : Blk (fun _ => 0) w1 0 w.heap.size 23 [.int .i64 a, .int .i64 b] := ⟨(hb1.block w.heap.size (by simp)).trans (heap_alloc_new w _), rfl⟩
  have c0 : w1.cell? ⟨w.heap.size, 0, none⟩ = some (.int .i64 a) := hk.cell 0
  have c1 : w1.cell? ⟨w.heap.size, 1, none⟩ = some (.int .i64 b) := hk.cell 1
  have hB1 : Below w.heap.size w w1 := ((Below.refl _ _).alloc (Nat.le_refl _) _).trans (hb1.mono (by simp))
  clear hk hb1
  go_wp2_with fail
  refine (HY.out _).mono ?_
  rintro e1 w2 ⟨rfl, hb2⟩
  go_wp2_with fail
  go_ret2
  exact ⟨rfl, hB1.trans (hb2.mono (by omega))⟩

set_option maxHeartbeats 2000000 in
theorem made_good (w : World) (a b : Int) (h1 : ¬ a < 1) (h2 : ¬ 8 < a) (h3 : ¬ b < 1) (h4 : ¬ 200 < b) :
    Calls Tryz.prog 9 #[.agg #[.int .i64 a, .int .i64 b]] w fun e w' => ∃ g px py k', e = .returned (.tuple #[.pointer (some ⟨g, 0, none⟩), .bool true]) ∧ Evo k0 k' cOurs w w' ∧
      NewQ a b px py k' w' ∧ LawIs k' w' is205 g px py 0 0 0 ∧ Clean k' w' := by
  have HX := hide (fun W => xnew_good W a b h1 h2 h3 h4)
  have HY := hide (fun k W => refNew_good k W a b h1 h2 h3 h4)
  clear h1 h2 h3 h4
  go_enter Tryz.func9, Tryz.ntmps9
  go_wp2_with fail
  refine (HX.out _).mono ?_
  rintro e1 w1 ⟨px, rfl, hpx, hxb, hb1⟩
  have hs1 := hb1.size
  simp only [World.size_alloc] at hs1 hpx
  have hk : Blk (fun _ => 0) w1 0 w.heap.size 23 [.int .i64 a, .int .i64 b] := ⟨(hb1.block w.heap.size (by simp)).trans (heap_alloc_new w _), rfl⟩
  have c0 : w1.cell? ⟨w.heap.size, 0, none⟩ = some (.int .i64 a) := hk.cell 0
  have c1 : w1.cell? ⟨w.heap.size, 1, none⟩ = some (.int .i64 b) := hk.cell 1
  have hB1 : Below w.heap.size w w1 := ((Below.refl _ _).alloc (Nat.le_refl _) _).trans (hb1.mono (by simp))
  have ev1 : Evo k0 (fun g => if g = px then cX else 0) cOurs w w1 := (Evo.of_below (k := k0) hB1).recolour _ (fun i hi => by show (if i = px then cX else 0) = k0 i; rw [if_neg (by omega)]; rfl)
  have hX1 : Blk (fun g => if g = px then cX else 0) w1 cX px 77 (volCells a b (.slice none 0 0) (newRows 6) (.slice none 0 0)) := ⟨hxb, if_pos rfl⟩
  clear hk hb1 hxb
  go_wp2_with fail
  refine (HY.out (fun g => if g = px then cX else 0) _).mono ?_
  rintro e1 w2 ⟨py, k2, rfl, ev2, hY2⟩
  have hX2 := hX1.evo ev2 (by unfold cRef cX; omega)
  clear hX1
  go_wp2_with fail
  go_ret2
  have ev3 : Evo k2 (fun g => if g < w2.heap.size then k2 g else if g = w2.heap.size then 200 else 0) noC w2 (w2.alloc (Obj.cells #[.pointer (some ⟨px, 0, none⟩), .pointer (some ⟨py, 0, none⟩), .slice none 0 0, .slice none 0 0, .slice none 0 0] 48)) :=
    ((Evo.refl k2 noC w2).alloc _).recolour _ (fun i hi => if_pos hi)
  have evA := ev1.trans ((ev2.mono (fun c h => by unfold cRef at h; unfold cOurs; omega)).trans (ev3.mono (fun _ h => h.elim)))
  have hQ3 : NewQ a b px py _ _ := ⟨hX2.evo ev3 (noC_not _), hY2.evo ev3 (noC_not _) (fun c _ _ => noC_not c)⟩
  have hL3 : LawIs (fun g => if g < w2.heap.size then k2 g else if g = w2.heap.size then 200 else 0) (w2.alloc (Obj.cells #[.pointer (some ⟨px, 0, none⟩), .pointer (some ⟨py, 0, none⟩), .slice none 0 0, .slice none 0 0, .slice none 0 0] 48)) is205 w2.heap.size px py 0 0 0 := by
    refine ⟨.slice none 0 0, .slice none 0 0, .slice none 0 0, ⟨heap_alloc_new w2 _, ?_⟩, ⟨[], Rows.nil _ _ _ _ _, rfl, by simp⟩, ⟨[], Rows.nil _ _ _ _ _, rfl, by simp⟩, ⟨[], Rows.nil _ _ _ _ _, rfl, by simp⟩⟩
    show (if w2.heap.size < w2.heap.size then _ else _) = _
    rw [if_neg (by omega), if_pos rfl]
  have hC0 : Clean k0 w := fun g _ => .inl (by unfold k0; omega)
  refine ⟨w2.heap.size, px, py, reco w.heap.size _, rfl, evA.recol, ⟨hQ3.x.recol (by decide), hQ3.y.recol⟩, ?_, hC0.recol evA⟩
  exact hL3.recol (fun c hc => by unfold is205 at hc; omega) (fun g hg => by rw [evA.col g hg]; exact hC0 g hg)

set_option maxHeartbeats 2000000 in
theorem plays_nil (w : World) (a b p : Int) :
    Calls Tryz.prog 8 #[.agg #[.int .i64 a, .int .i64 b], .slice none 0 0, .int .i64 p] w fun e w' => e = .returned (.bool true) ∧ Below w.heap.size w w' := by
  by_cases h : a < 1 ∨ 8 < a ∨ b < 1 ∨ 200 < b
  · have HM := hide (fun W => made_bad W a b h)
    clear h
    go_enter Tryz.func8, Tryz.ntmps8
    go_wp2_with fail
    refine (HM.out _).mono ?_
    rintro e1 w1 ⟨rfl, hb1⟩
    go_wp2_with fail
    go_ret
    exact ⟨rfl, ((Below.refl _ _).alloc (Nat.le_refl _) _).trans (hb1.mono (by simp))⟩
  · have HM := hide (fun W => made_good W a b (by omega) (by omega) (by omega) (by omega))
    clear h
    go_enter Tryz.func8, Tryz.ntmps8
    go_wp2_with fail
    refine (HM.out _).mono ?_
    rintro e1 w1 ⟨g, px, py, k1, rfl, ev1, hq, hL, hc⟩
    have HL := hide (last_any (fl := 0) (NewQ a b px py) (fun k k' w w' hq ev => hq.evo ev (fun c hc => by unfold cLaw; omega)) (fun k w hq => newSides hq) (by omega) hq hL hc (by omega) (by omega) (by omega))
    clear hq hL hc
    go_wp2_with fail
    refine wp_loop_rounds 1 ?_
    rw [rounds_succ]
    go_wp2_with fail
    refine HL.out.mono ?_
    rintro e1 w2 ⟨rfl, k2, ev2, _⟩
    go_wp2_with fail
    go_ret
    have evA : Evo k0 k2 cOurs (w.alloc (Obj.cells #[.int .i64 a, .int .i64 b] 23)) w2 := ev1.trans (ev2.mono (fun c h => by unfold cLaw at h; unfold cOurs; omega))
    exact ⟨rfl, ((Below.refl _ _).alloc (Nat.le_refl _) _).trans ((below_of_ours evA).mono (by simp))⟩

set_option maxHeartbeats 2000000 in
theorem news_any (w : World) (a b : Int) :
    Calls Tryz.prog 3 #[.agg #[.int .i64 a, .int .i64 b]] w fun e w' => e = .returned (.bool true) ∧ Below w.heap.size w w' := by
  have HP := hide (fun W => plays_nil W a b 0)
  go_enter Tryz.func3, Tryz.ntmps3
  go_wp2_with fail
  refine (HP.out _).mono ?_
  rintro e1 w1 ⟨rfl, hb1⟩
  go_wp2_with fail
  go_ret
  exact ⟨rfl, ((Below.refl _ _).alloc (Nat.le_refl _) _).trans (hb1.mono (by simp))⟩
end Go.Proofs.YtfpbkghcjaonlaaGreat

/-
  The program: a volume whole, in memory.
-/
namespace Go.Proofs.YtfpbkghcjaonlaaGreat
open Go.RowKit

def noteRow (n : Int) (vc vm : Value) : List Value := [.int .i64 n, vc, vm]
def wrRow (x : XWr) (vN vC vV : Value) : List Value := [.int .i64 x.number, .int .i64 x.phase, .int .i64 x.base, .int .i64 x.next, .int .i64 x.dur, vN, vC, vV] ++ (x.heard.map .bool ++ x.noted.map (fun n => .int .i64 n))

def NoteIs (k : Nat → Nat) (w : World) (n : Int × List (Int × Int) × List Int) (r : List Value) : Prop := ∃ vc vm, r = noteRow n.1 vc vm ∧ CutsIm k w vc n.2.1 ∧ IntsIm k w vm n.2.2
def NotesIs (k : Nat → Nat) (w : World) (c : Nat) (v : Value) (ns : List (Int × List (Int × Int) × List Int)) : Prop := ∃ rows, Rows k w c 164 3 v rows ∧ All2 (NoteIs k w) ns rows

structure WrIs (k : Nat → Nat) (w : World) (c : Nat) (x : XWr) (row : List Value) : Prop where
  ex : ∃ vN vC vV, row = wrRow x vN vC vV ∧ NotesIs k w c vN x.notes ∧ CutsIm k w vC x.cuts ∧ Rows k w (c + 1) 3 1 vV (x.values.map intRow)
  h6 : x.heard.length = 6
  n6 : x.noted.length = 6

def cWr (i : Nat) : Nat := 110 + 2 * i

structure SegsX (k : Nat → Nat) (w : World) (srows : List (List Value)) (segs : List XSeg) : Prop where
  l1 : srows.length = 6
  l2 : segs.length = 6
  all : ∀ i (h : i < srows.length) (h2 : i < segs.length), ∃ vc, srows[i] = xsegRow segs[i] vc ∧ CutsIm k w vc segs[i].cuts ∧ segs[i].places.length = 40

structure WrsX (k : Nat → Nat) (w : World) (v : Value) (wrows : List (List Value)) (wrs : List XWr) : Prop where
  own : Rows k w cXW 120 20 v wrows
  l1 : wrows.length = wrs.length
  l2 : wrs.length ≤ 9
  all : ∀ i (h : i < wrows.length) (h2 : i < wrs.length), WrIs k w (cWr i) wrs[i] wrows[i]

structure XVolIs (k : Nat → Nat) (w : World) (px : Nat) (x : XVol) : Prop where
  ex : ∃ vM vW srows wrows, Blk k w cX px 77 (volCells x.wi x.room vM srows vW) ∧ MsgsIs k w cXM vM x.msgs ∧ SegsX k w srows x.segs ∧ WrsX k w vW wrows x.wrs

theorem volCells_wr {k : Nat → Nat} {w : World} {wi room : Int} {vM vW : Value} {srows : List (List Value)} {segs : List XSeg} (h : SegsX k w srows segs) : (volCells wi room vM srows vW)[741]? = some vW := by
  have hl : ∀ r ∈ srows, r.length = 123 := by
    intro r hr
    obtain ⟨i, hi, rfl⟩ := List.getElem_of_mem hr
    have hi2 : i < segs.length := by have := h.l1; have := h.l2; omega
    obtain ⟨vc, h1, _, h3⟩ := h.all i hi hi2
    rw [h1]
    unfold xsegRow
    have := flatten_len (placeRows_len segs[i].places)
    simp only [List.length_append, List.length_cons, List.length_nil, this, List.length_map, h3]
  have hf := flatten_len hl
  rw [h.l1] at hf
  unfold volCells
  have e0 : 741 - ([Value.int .i64 wi, .int .i64 room, vM] : List Value).length - 6 * 123 = 0 := by simp
  rw [List.getElem?_append_right (by simp), List.getElem?_append_right (by rw [hf]; simp), hf, e0]
  rfl

/-- What is bounded of a writer. -/
structure XWOk (p : XWr) : Prop where
  cl : p.cuts.length ≤ 1000
  vl : p.values.length ≤ 4000000000
  nl : p.notes.length ≤ 4000000000
  nk : ∀ n ∈ p.notes, n.2.1.length ≤ 1000 ∧ n.2.2.length ≤ 4000000000
  b0 : 0 ≤ p.base
  b1 : p.base ≤ 4000000000
  nt : ∀ n ∈ p.noted, 0 ≤ n ∧ n ≤ 3000000000

/-- What is bounded. -/
structure XOk (x : XVol) : Prop where
  rm : x.room ≤ 200
  ml : x.msgs.length ≤ 200
  mo : ∀ m ∈ x.msgs, MsgOk m
  sk : ∀ s ∈ x.segs, s.cuts.length ≤ 1000
  wk : ∀ p ∈ x.wrs, XWOk p

section
variable {k k' : Nat → Nat} {w w' : World} {C : Nat → Prop}

theorem NotesIs.evo {c : Nat} {v : Value} {ns : List (Int × List (Int × Int) × List Int)} (h : NotesIs k w c v ns) (g : Evo k k' C w w') (hc : ¬ C c) (hi : ¬ C IM) : NotesIs k' w' c v ns := by
  obtain ⟨rows, h1, h2⟩ := h
  exact ⟨rows, h1.evo g hc, h2.imp fun _ _ ⟨vc, vm, a, b, d⟩ => ⟨vc, vm, a, b.evo g hi, d.evo g hi⟩⟩
theorem WrIs.evo {c : Nat} {x : XWr} {row : List Value} (h : WrIs k w c x row) (g : Evo k k' C w w') (hi : ¬ C IM) (h0 : ¬ C c) (h1 : ¬ C (c + 1)) : WrIs k' w' c x row := by
  obtain ⟨vN, vC, vV, a, b, d, e⟩ := h.ex
  exact ⟨⟨vN, vC, vV, a, b.evo g h0 hi, d.evo g hi, e.evo g h1⟩, h.h6, h.n6⟩
theorem SegsX.evo {srows : List (List Value)} {segs : List XSeg} (h : SegsX k w srows segs) (g : Evo k k' C w w') (hi : ¬ C IM) : SegsX k' w' srows segs :=
  ⟨h.l1, h.l2, fun i a b => let ⟨vc, p, q, r⟩ := h.all i a b; ⟨vc, p, q.evo g hi, r⟩⟩
theorem WrsX.evo {v : Value} {wrows : List (List Value)} {wrs : List XWr} (h : WrsX k w v wrows wrs) (g : Evo k k' C w w') (hi : ¬ C IM) (h0 : ¬ C cXW) (h1 : ∀ c, 110 ≤ c → c < 130 → ¬ C c) : WrsX k' w' v wrows wrs := by
  have l1 := h.l1
  have l2 := h.l2
  exact ⟨h.own.evo g h0, l1, l2, fun i a b => (h.all i a b).evo g hi (h1 _ (by unfold cWr; omega) (by unfold cWr; omega)) (h1 _ (by unfold cWr; omega) (by unfold cWr; omega))⟩
theorem XVolIs.evo {px : Nat} {x : XVol} (h : XVolIs k w px x) (g : Evo k k' C w w') (hi : ¬ C IM) (h1 : ∀ c, 100 ≤ c → c < 200 → ¬ C c) : XVolIs k' w' px x := by
  obtain ⟨vM, vW, sr, wr, a, b, c, d⟩ := h.ex
  exact ⟨vM, vW, sr, wr, a.evo g (h1 _ (by decide) (by decide)), b.evo g (h1 _ (by decide) (by decide)) hi, c.evo g hi, d.evo g hi (h1 _ (by decide) (by decide)) (fun c a b => h1 c (by omega) (by omega))⟩

/-- The network alone has changed. -/
theorem XVolIs.with_net {px : Nat} {x : XVol} {vM vM' vW : Value} {srows wrows : List (List Value)} {msgs : List Msg} (hS : SegsX k w srows x.segs) (hW : WrsX k w vW wrows x.wrs) (g : Evo k k' (fun c => c = cX ∨ c = cXM) w w')
    (hB : Blk k' w' cX px 77 ((volCells x.wi x.room vM srows vW).set 2 vM')) (hM : MsgsIs k' w' cXM vM' msgs) : XVolIs k' w' px { x with msgs := msgs } :=
  ⟨vM', vW, srows, wrows, hB, hM, hS.evo g (by decide), hW.evo g (by decide) (by decide) (fun c a b => by unfold cX cXM; omega)⟩
end

def cXN : Nat → Prop := fun c => c = cX ∨ c = cXM

theorem xsend_any {k : Nat → Nat} {w : World} {px : Nat} {x : XVol} (m : Msg) {vc vm : Value} (hx : XVolIs k w px x) (hok : XOk x) (hc : CutsIm k w vc m.cuts) (hm : IntsIm k w vm m.marks) (hmk : MsgOk m) :
    Calls Tryz.prog 87 #[.pointer (some ⟨px, 1, none⟩), .agg #[.int .i64 m.kind, .int .i64 m.frm, .int .i64 m.to_, .int .i64 m.epoch, .int .i64 m.lsn, .int .i64 m.value, .int .i64 m.scl, vc, vm]] w fun e w' => e = .returned (.tuple #[]) ∧ ∃ k', Evo k k' cXN w w' ∧ XVolIs k' w' px (x.send m) := by
  have hx0 := hx
  obtain ⟨vM, vW, sr, wr, hB, hM, hS, hW⟩ := hx.ex
  have hr := hok.rm
  unfold XVol.send
  by_cases hf : x.room ≤ (x.msgs.length : Int)
  · rw [if_pos hf]
    obtain ⟨z0, z1, z2, hz⟩ := Rows.shape hc
    subst hz
    obtain ⟨y0, y1, y2, hz⟩ := Rows.shape hm
    subst hz
    refine (xsend_full (room := x.room) (vM := vM) (msgs := x.msgs) _ _ _ _ _ _ _ _ _ _ _ _ _ hB rfl rfl hM hf).mono ?_
    rintro e w' ⟨rfl, hb⟩
    exact ⟨rfl, k, Evo.of_below hb, hx0.evo (Evo.of_below (C := noC) hb) (noC_not _) (fun c _ _ => noC_not c)⟩
  · rw [if_neg hf]
    refine (xsend_room (room := x.room) (vM := vM) (msgs := x.msgs) m hB rfl rfl hM hc hm (by have := hmk.1; omega) hmk.2 hf (by omega)).mono ?_
    rintro e w' ⟨rfl, k', vM', ev, hB', hM'⟩
    exact ⟨rfl, k', ev, XVolIs.with_net hS hW ev hB' hM'⟩

theorem XOk.send {x : XVol} (h : XOk x) (m : Msg) (hm : MsgOk m) : XOk (x.send m) := by
  unfold XVol.send
  split
  · exact h
  · rename_i hf
    have hr := h.rm
    refine ⟨h.rm, ?_, fun m' hm' => ?_, h.sk, h.wk⟩
    · simp only [List.length_append, List.length_singleton]; omega
    · rcases List.mem_append.1 hm' with h1 | h1
      · exact h.mo m' h1
      · rw [List.mem_singleton.1 h1]; exact hm

theorem XVol.sendAll_take (x : XVol) (l : List Msg) (j : Nat) (h : j < l.length) : x.sendAll (l.take (j + 1)) = (x.sendAll (l.take j)).send l[j] := by
  unfold XVol.sendAll; rw [List.take_succ_eq_append_getElem h, List.foldl_append]; rfl
theorem XOk.sendAll {x : XVol} (h : XOk x) (l : List Msg) (hl : ∀ m ∈ l, MsgOk m) : XOk (x.sendAll l) := by
  unfold XVol.sendAll
  induction l generalizing x with
  | nil => exact h
  | cons m r ih => exact ih (h.send m (hl m List.mem_cons_self)) (fun m' hm' => hl m' (List.mem_cons_of_mem _ hm'))

set_option maxRecDepth 3000 in
set_option maxHeartbeats 8000000 in
theorem xsendAll_any {k : Nat → Nat} {w : World} {px : Nat} {x : XVol} (l : List Msg) {v : Value} (hx : XVolIs k w px x) (hok : XOk x) (hl : MsgsIs k w 0 v l) (hll : l.length ≤ 4000000000) (hlk : ∀ m ∈ l, MsgOk m) :
    Calls Tryz.prog 66 #[.pointer (some ⟨px, 0, none⟩), v] w fun e w' => e = .returned (.tuple #[]) ∧ ∃ k', Evo k k' cXN w w' ∧ XVolIs k' w' px (x.sendAll l) := by
  obtain ⟨a, cap, hv, hcells⟩ := msgs_cells hl
  subst hv
  have hpl : px < w.heap.size := by obtain ⟨_, _, _, _, hB, _⟩ := hx.ex; exact hB.lt
  have HL := hide hl
  have HLK := hide hlk
  have H0 : Hid (∃ k', Evo k k' cXN w w ∧ XVolIs k' w px (x.sendAll (l.take 0))) := hide ⟨k, Evo.refl _ _ _, hx⟩
  clear hl hlk hcells
  go_enter Tryz.func66, Tryz.ntmps66
  go_wp2_with fail
  go_loopw [8] (fun i wr => ∃ j : Nat, j ≤ l.length ∧ i = .int .i64 j ∧ Hid (∃ k', Evo k k' cXN w wr ∧ XVolIs k' wr px (x.sendAll (l.take j)))) (fun i _ => l.length - (intOf i).toNat)
  case atStart => exact ⟨0, Nat.zero_le _, rfl, H0⟩
  case round =>
    obtain ⟨j, hj, rfl, hst⟩ := hrel
    by_cases hlt : j < l.length
    · obtain ⟨k1, ev, hv⟩ := hst.out
      have hl1 := HL.out.evo ev (by unfold cXN cX cXM; omega) (by unfold cXN cX cXM IM; omega)
      obtain ⟨a', cap', hv', hcells⟩ := msgs_cells hl1
      simp only [Value.slice.injEq, true_and] at hv'
      obtain ⟨ha', hc'⟩ := hv'
      subst ha' hc'
      obtain ⟨g, vc, vm, rfl, c0, c1, c2, c3, c4, c5, c6, c7, c8, hc, hm⟩ := hcells j hlt
      have hgl := World.block_lt_of_cell? wr _ c0
      have hpl1 : px < wr.heap.size := by obtain ⟨_, _, _, _, hB, _⟩ := hv.ex; exact hB.lt
      obtain ⟨z0, z1, z2, hz⟩ := Rows.shape hc
      subst hz
      obtain ⟨y0, y1, y2, hz⟩ := Rows.shape hm
      subst hz
      have HT := hide (XVol.sendAll_take x l j hlt)
      have hmk := HLK.out _ (List.getElem_mem hlt)
      have hok1 := hok.sendAll (l.take j) (fun m' hm' => HLK.out m' (List.mem_of_mem_take hm'))
      have HS : Hid (∀ W, Below wr.heap.size wr W → Calls Tryz.prog 87 #[.pointer (some ⟨px, 1, none⟩), .agg #[.int .i64 l[j].kind, .int .i64 l[j].frm, .int .i64 l[j].to_, .int .i64 l[j].epoch, .int .i64 l[j].lsn, .int .i64 l[j].value, .int .i64 l[j].scl, .slice z0 z1 z2, .slice y0 y1 y2]] W fun e w' => e = .returned (.tuple #[]) ∧ ∃ k', Evo k k' cXN w w' ∧ XVolIs k' w' px ((x.sendAll (l.take j)).send l[j])) := hide fun W hW => by
        have e0 : Evo k1 k1 noC wr W := Evo.of_below hW
        refine (xsend_any l[j] (hv.evo e0 (noC_not _) (fun c _ _ => noC_not c)) hok1 (hc.evo e0 (noC_not _)) (hm.evo e0 (noC_not _)) hmk).mono ?_
        rintro e w' ⟨rfl, k2, ev2, h2⟩
        exact ⟨rfl, k2, (ev.trans (e0.mono (fun _ h => h.elim))).trans ev2, h2⟩
      generalize l[j] = mj at *
      clear hcells hc hm hv hst hok1 hmk hl1
      go_wp2_with fail
      go_region_with (go_at_call 87; refine (HS.out _ (Below.drew ((Below.refl _ _).alloc (Nat.le_refl _) _))).mono ?_; rintro e2 w4 ⟨rfl, HY2⟩)
      all_goals go_wp2_with fail
      all_goals go_roundw
      case rel => exact ⟨j + 1, by omega, by go_num, hide (by rw [HT.out]; exact HY2)⟩
      case measure => simp [intOf]; omega
    · have hje : j = l.length := by omega
      have hd : decide ((j : Int) < (l.length : Int)) = false := by simp; omega
      have H9 : Hid (∃ k', Evo k k' cXN w wr ∧ XVolIs k' wr px (x.sendAll l)) := by rw [hje, List.take_length] at hst; exact hst
      clear hje hst
      go_wp2_with fail
      go_end0
      exact ⟨rfl, H9.out⟩
end Go.Proofs.YtfpbkghcjaonlaaGreat
