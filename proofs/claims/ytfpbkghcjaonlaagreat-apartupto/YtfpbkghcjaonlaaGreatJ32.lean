import Derived.Test.YtfpbkghcjaonlaaGreatJ31
import Derived.Test.YtfpbkghcjaonlaaGreatJ19
import Derived.Test.YtfpbkghcjaonlaaGreatJ21
import Derived.Test.YtfpbkghcjaonlaaGreatJ22
import Derived.Great.BuildSlice
/-
  The program: Deliver.
-/
namespace Go.Proofs.YtfpbkghcjaonlaaGreat
open Go.RowKit

set_option maxRecDepth 3000 in
set_option maxHeartbeats 4000000 in
theorem xdeliver_in {k : Nat → Nat} {w : World} {px : Nat} {x : XVol} (hx : XVolIs k w px x) (hok : XOk x) (i : Nat) (hi : i < x.msgs.length) (xe : XVol)
    (hW : (x.msgs[i].kind = 2 ∨ x.msgs[i].kind = 4 ∨ x.msgs[i].kind = 5) → ∀ k1 w1 z0 z1 z2 y0 y1 y2, XVolIs k1 w1 px (x.taken (i : Int)) → CutsIm k1 w1 (.slice z0 z1 z2) x.msgs[i].cuts → IntsIm k1 w1 (.slice y0 y1 y2) x.msgs[i].marks → Calls Tryz.prog 114 #[.pointer (some ⟨px, 0, none⟩), .agg #[.int .i64 x.msgs[i].kind, .int .i64 x.msgs[i].frm, .int .i64 x.msgs[i].to_, .int .i64 x.msgs[i].epoch, .int .i64 x.msgs[i].lsn, .int .i64 x.msgs[i].value, .int .i64 x.msgs[i].scl, .slice z0 z1 z2, .slice y0 y1 y2]] w1 fun e w' => e = .returned (.tuple #[]) ∧ ∃ k', Evo k1 k' cXS w1 w' ∧ XVolIs k' w' px xe)
    (hS : ¬ (x.msgs[i].kind = 2 ∨ x.msgs[i].kind = 4 ∨ x.msgs[i].kind = 5) → ∀ k1 w1 z0 z1 z2 y0 y1 y2, XVolIs k1 w1 px (x.taken (i : Int)) → CutsIm k1 w1 (.slice z0 z1 z2) x.msgs[i].cuts → IntsIm k1 w1 (.slice y0 y1 y2) x.msgs[i].marks → Calls Tryz.prog 115 #[.pointer (some ⟨px, 0, none⟩), .agg #[.int .i64 x.msgs[i].kind, .int .i64 x.msgs[i].frm, .int .i64 x.msgs[i].to_, .int .i64 x.msgs[i].epoch, .int .i64 x.msgs[i].lsn, .int .i64 x.msgs[i].value, .int .i64 x.msgs[i].scl, .slice z0 z1 z2, .slice y0 y1 y2]] w1 fun e w' => e = .returned (.tuple #[]) ∧ ∃ k', Evo k1 k' cXS w1 w' ∧ XVolIs k' w' px xe) :
    Calls Tryz.prog 95 #[.pointer (some ⟨px, 0, none⟩), .int .i64 i] w fun e w' => e = .returned (.int .i64 0) ∧ ∃ k', Evo k k' cXS w w' ∧ XVolIs k' w' px xe := by
  obtain ⟨vM, vW, sr, wr, hB, hM, hSx, hWx⟩ := hx.ex
  have hpl := hB.lt
  have hml := hok.ml
  have HT : Hid (Calls Tryz.prog 97 #[.pointer (some ⟨px, 1, none⟩), .int .i64 i] w fun e w' => ∃ z0 z1 z2 y0 y1 y2, e = .returned (.tuple #[.agg #[.int .i64 x.msgs[i].kind, .int .i64 x.msgs[i].frm, .int .i64 x.msgs[i].to_, .int .i64 x.msgs[i].epoch, .int .i64 x.msgs[i].lsn, .int .i64 x.msgs[i].value, .int .i64 x.msgs[i].scl, .slice z0 z1 z2, .slice y0 y1 y2], .bool true]) ∧ ∃ k', Evo k k' cXN w w' ∧ XVolIs k' w' px (x.taken (i : Int)) ∧ CutsIm k' w' (.slice z0 z1 z2) x.msgs[i].cuts ∧ IntsIm k' w' (.slice y0 y1 y2) x.msgs[i].marks) := hide (by
    refine (take_in i hi hB rfl hM (by omega)).mono ?_
    rintro e w' ⟨vc, vm, k', vM', rfl, ev, hB', hM', hc, hm⟩
    obtain ⟨z0, z1, z2, hz⟩ := Rows.shape hc
    subst hz
    obtain ⟨y0, y1, y2, hz⟩ := Rows.shape hm
    subst hz
    refine ⟨z0, z1, z2, y0, y1, y2, rfl, k', ev, ?_, hc, hm⟩
    unfold XVol.taken
    rw [Int.toNat_natCast]
    exact XVolIs.with_net hSx hWx ev hB' hM')
  have HWr := hide hW
  have HSg := hide hS
  generalize x.msgs[i] = mm at *
  obtain ⟨mk, mf, mt, m3, m4, m5, m6, mc, mg⟩ := mm
  dsimp only at *
  have hcN : ∀ c, cXN c → cXS c := fun c h => by unfold cXN cX cXM at h; unfold cXS; omega
  clear hB hM hSx hWx hx hok hi hW hS
  by_cases hk : mk = 2 ∨ mk = 4 ∨ mk = 5
  · have HWr2 := hide (HWr.out hk)
    have hcase : mk = 2 ∨ ((mk == 2) = false ∧ mk = 4) ∨ ((mk == 2) = false ∧ (mk == 4) = false ∧ mk = 5) := by
      rcases hk with h | h | h
      · exact .inl h
      · exact .inr (.inl ⟨by simp [h], h⟩)
      · exact .inr (.inr ⟨by simp [h], by simp [h], h⟩)
    clear hk HWr HSg
    rcases hcase with h | ⟨h2, h⟩ | ⟨h2, h4, h⟩
    all_goals
      subst h
      go_enter Tryz.func95, Tryz.ntmps95
      go_wp2_with fail
      refine HT.out.mono ?_
      rintro e1 w1 ⟨z0, z1, z2, y0, y1, y2, rfl, HY⟩
      have HY' := hide HY
      clear HY
      go_wp2_with fail
      obtain ⟨k1, ev1, hv1, hc1, hm1⟩ := HY'.out
      have e0 : ∀ O, Evo k1 k1 noC w1 (w1.alloc O) := fun O => (Evo.refl k1 noC w1).alloc _
      refine (HWr2.out k1 _ z0 z1 z2 y0 y1 y2 (hv1.evo (e0 _) (noC_not _) (fun c _ _ => noC_not c)) (hc1.evo (e0 _) (noC_not _)) (hm1.evo (e0 _) (noC_not _))).mono ?_
      rintro e2 w2 ⟨rfl, k2, ev2, hv2⟩
      have HF := hide (And.intro (((ev1.mono hcN).trans ((e0 _).mono (fun _ h => h.elim))).trans ev2) hv2)
      clear ev1 hv1 hc1 hm1 e0 ev2 hv2
      go_wp2_with fail
      go_ret
      exact ⟨rfl, k2, HF.out.1, HF.out.2⟩
  · have HSg2 := hide (HSg.out hk)
    have h2 : (mk == 2) = false := by simp; omega
    have h4 : (mk == 4) = false := by simp; omega
    have h5 : (mk == 5) = false := by simp; omega
    clear hk HWr HSg
    go_enter Tryz.func95, Tryz.ntmps95
    go_wp2_with fail
    refine HT.out.mono ?_
    rintro e1 w1 ⟨z0, z1, z2, y0, y1, y2, rfl, HY⟩
    have HY' := hide HY
    clear HY
    go_wp2_with fail
    obtain ⟨k1, ev1, hv1, hc1, hm1⟩ := HY'.out
    have e0 : Evo k1 k1 noC w1 (w1.alloc (Obj.cells #[.int .i64 mk, .int .i64 mf, .int .i64 mt, .int .i64 m3, .int .i64 m4, .int .i64 m5, .int .i64 m6, .slice z0 z1 z2, .slice y0 y1 y2] 109)) := (Evo.refl k1 noC w1).alloc _
    refine (HSg2.out k1 _ z0 z1 z2 y0 y1 y2 (hv1.evo e0 (noC_not _) (fun c _ _ => noC_not c)) (hc1.evo e0 (noC_not _)) (hm1.evo e0 (noC_not _))).mono ?_
    rintro e2 w2 ⟨rfl, k2, ev2, hv2⟩
    have HF := hide (And.intro (((ev1.mono hcN).trans (e0.mono (fun _ h => h.elim))).trans ev2) hv2)
    clear ev1 hv1 hc1 hm1 e0 ev2 hv2
    go_wp2_with fail
    go_ret
    exact ⟨rfl, k2, HF.out.1, HF.out.2⟩

set_option maxRecDepth 3000 in
set_option maxHeartbeats 4000000 in
theorem xdeliver_out {k : Nat → Nat} {w : World} {px : Nat} {x : XVol} (hx : XVolIs k w px x) (n : Int) (hn : ¬ (0 ≤ n ∧ n < (x.msgs.length : Int))) :
    Calls Tryz.prog 95 #[.pointer (some ⟨px, 0, none⟩), .int .i64 n] w fun e w' => e = .returned (.int .i64 (x.deliver n).2) ∧ ∃ k', Evo k k' cXS w w' ∧ XVolIs k' w' px (x.deliver n).1 := by
  obtain ⟨vM, vW, sr, wr, hB, hM, hS, hW⟩ := hx.ex
  have hpl := hB.lt
  have HE : Hid (x.deliver n = (x, 12)) := hide (by
    unfold XVol.deliver XVol.look
    by_cases h0 : n < 0
    · rw [if_pos h0]
    · rw [if_neg h0, List.getElem?_eq_none (by omega)])
  obtain ⟨a, cap, hv, _⟩ := msgs_cells hM
  subst hv
  have HT := hide (take_no w px n a x.msgs.length cap (hB.cell 2) (by omega))
  clear hB hM hS hW hn
  go_enter Tryz.func95, Tryz.ntmps95
  go_wp2_with fail
  refine HT.out.mono ?_
  rintro e1 w1 ⟨rfl, hb1⟩
  go_wp2_with fail
  go_ret
  exact ⟨by rw [HE.out]; rfl, k, Evo.of_below (hb1.alloc hb1.size _), by rw [HE.out]; exact hx.evo (Evo.of_below (C := noC) (hb1.alloc hb1.size _)) (noC_not _) (fun c _ _ => noC_not c)⟩
end Go.Proofs.YtfpbkghcjaonlaaGreat

/-
  The program: Open.
-/
namespace Go.Proofs.YtfpbkghcjaonlaaGreat
open Go.RowKit

def newRow (n : Int) : List Value := [.int .i64 n, .int .i64 1, .int .i64 0, .int .i64 0, .int .i64 0, .slice none 0 0, .slice none 0 0, .slice none 0 0, .bool false, .bool false, .bool false, .bool false, .bool false, .bool false, .int .i64 0, .int .i64 0, .int .i64 0, .int .i64 0, .int .i64 0, .int .i64 0]
theorem newRow_eq (n : Int) : newRow n = wrRow (xwr0 n) (.slice none 0 0) (.slice none 0 0) (.slice none 0 0) := rfl

theorem newRow_size (n : Int) : (newRow n).toArray.size = 20 := by simp [newRow]
theorem newRow_one (n : Int) : (newRow n).toArray.all (·.oneCell') = true := by simp [newRow, Value.oneCell']
theorem Tryz.infoWrSize : (Tryz.prog.info? 120).map (·.size) = some 20 := by kernel_rfl

set_option maxRecDepth 3000 in
set_option maxHeartbeats 400000 in
theorem wrNew_any (w : World) (n : Int) :
    Calls Tryz.prog 64 #[.int .i64 n] w fun e w' => e = .returned (.agg (newRow n).toArray) ∧ Below w.heap.size w w' := by
  go_enter Tryz.func64, Tryz.ntmps64
  go_upto_region 1 with (fail)
  go_wp2_with (refine wpList_store_new rfl 120 (.tmp 2) (.tmp 4) rfl _ (newRow n).toArray rfl rfl (by rw [newRow_size]; exact Tryz.infoWrSize) (by rw [newRow_size]; simp) (newRow_one n) ?_)
  refine bodyPost_ret (v := .agg (newRow n).toArray) ?_ rfl ⟨rfl, (Below.refl _ _).alloc (Nat.le_refl _) _⟩
  exact results_cell_row rfl _ _ w.heap.size 120 _ (0, 0) _ rfl (heap_alloc_new w _) Tryz.underlying120 rfl (by rw [Tryz.infoWrSize]; rfl)


theorem Tryz.infoWriter : (Tryz.prog.info? 120).map (fun i => (i.zero, i.size, i.bytes)) = some (some (.agg #[.int .i64 0, .int .i64 0, .int .i64 0, .int .i64 0, .int .i64 0, .slice none 0 0, .slice none 0 0, .slice none 0 0, .bool false, .bool false, .bool false, .bool false, .bool false, .bool false, .int .i64 0, .int .i64 0, .int .i64 0, .int .i64 0, .int .i64 0, .int .i64 0]), 20, 168) := by kernel_rfl
theorem vol_wr_cell {k k0 : Nat → Nat} {w w0 : World} {px : Nat} {wi room : Int} {vM v : Value} {sr : List (List Value)} {segs : List XSeg} (h : Blk k w cX px 77 (volCells wi room vM sr v)) (hS : SegsX k0 w0 sr segs) : w.cell? ⟨px, 741, none⟩ = some v := by
  rw [h.cell, volCells_wr hS]

theorem volCells_setwr {k : Nat → Nat} {w : World} {wi room : Int} {vM v v' : Value} {srows : List (List Value)} {segs : List XSeg} (h : SegsX k w srows segs) : (volCells wi room vM srows v).set 741 v' = volCells wi room vM srows v' := by
  have hl : ∀ r ∈ srows, r.length = 123 := by
    intro r hr
    obtain ⟨i, hi, rfl⟩ := List.getElem_of_mem hr
    have hi2 : i < segs.length := by have := h.l1; have := h.l2; omega
    obtain ⟨vc, h1, _, h3⟩ := h.all i hi hi2
    rw [h1]
    unfold xsegRow
    have := flatten_len (placeRows_len segs[i].places)
    simp only [List.length_append, List.length_cons, List.length_nil, this, List.length_map, h3]
  have hf := flatten_len hl
  rw [h.l1] at hf
  unfold volCells
  have e0 : 741 - ([Value.int .i64 wi, .int .i64 room, vM] : List Value).length - 6 * 123 = 0 := by simp
  rw [List.set_append_right _ _ (by simp), List.set_append_right _ _ (by rw [hf]; simp), hf, e0]
  rfl

theorem wrRow_len (x : XWr) (vN vC vV : Value) (h6 : x.heard.length = 6) (n6 : x.noted.length = 6) : (wrRow x vN vC vV).length = 20 := by unfold wrRow; simp; omega

/-- A new writer's block. -/
theorem newWr_at {k : Nat → Nat} {w : World} {b c cc : Nat} (n : Int) (h : Blk k w cc b 120 (newRow n)) : WrAt k w c b 0 (xwr0 n) := by
  refine ⟨⟨none, 0, 0, none, 0, 0, none, 0, 0, fun j hj => ?_, ⟨[], Rows.nil _ _ _ _ _, rfl, fun i h1 => by simp [xwr0] at h1⟩, Rows.nil _ _ _ _ _, Rows.nil _ _ _ _ _⟩, rfl, rfl⟩
  rw [h.cell, Nat.zero_add, newRow_eq]

theorem xwr0_ok (n : Int) : XWOk (xwr0 n) := ⟨by simp [xwr0], by simp [xwr0], by simp [xwr0], by simp [xwr0], by simp [xwr0], by simp [xwr0], by simp [xwr0]⟩

end Go.Proofs.YtfpbkghcjaonlaaGreat

/-
  The program: Open: steps of a region that draws, of a row that is not laid open.
-/
namespace Go.Proofs.YtfpbkghcjaonlaaGreat
open Go.RowKit

theorem step_load_row {P : Program} {ops : Array Oper} {o : Oper} {a : Act} {w : World} {K : Act → World → Prop} {Q : Exit → Act → World → Prop} {E : Prop} (hg : o.guard = none) (ty : TypeId) (x : Operand) (ho : o.op = .load ty x)
    (g : Nat) (hx : a.eval x = .pointer (some ⟨g, 0, none⟩)) (t : TypeId) (cs : Array Value) (fr : Nat × Nat) (d : TypeDesc) (hc : w.heap[g]? = some (.cells cs t fr))
    (hu : P.underlying ty = some d) (hd : (match d with | .struct _ | .array _ _ => true | _ => false) = true) (hi : (P.info? ty).map (·.size) = some cs.size)
    (hK : K (a.put o.dst (.agg cs)) w) : if Region.wanted o (yielded ops a.tmps) = true then Oper.wp P o a w K Q else E := by
  have hw : Region.wanted o (yielded ops a.tmps) = true := by simp [Region.wanted, hg]
  rw [if_pos hw]
  exact wp_load_row ty x ho g hx t cs fr d hc hu hd hi hK

theorem fill_one {s : Nat} (hs : 0 < s) (cs base : Array Value) (hc : cs.size = s) (hb : base.size = s) : Instr.fill (fun i => some (i * s, s)) base [(0, .agg cs)] = some cs := by
  obtain ⟨r, hr, hz, hk⟩ := Great.fill_dense hs [.agg cs] 0 base (fun v hv => by rw [List.mem_singleton.1 hv]; exact hc) (by simp; omega)
  have e : r = cs := by
    apply Array.ext_getElem?
    intro i
    rw [hk i]
    by_cases hi : i < s
    · rw [if_pos (by simp; omega), Nat.div_eq_of_lt hi, Nat.mod_eq_of_lt hi]; rfl
    · rw [if_neg (by simp; omega), Array.getElem?_eq_none (by omega), Array.getElem?_eq_none (by omega)]
  rw [e] at hr
  exact hr

theorem step_buildSlice1 {P : Program} {ops : Array Oper} {o : Oper} {a : Act} {w : World} {K : Act → World → Prop} {Q : Exit → Act → World → Prop} {E : Prop} (hg : o.guard = none) (t e : TypeId) (x : Operand) (ho : o.op = .buildSlice t 1 #[(0, x)])
    (cs : Array Value) (hx : a.eval x = .agg cs) (size : Nat) (z : Value) (hu : P.underlying t = some (.slice e)) (hinf : (P.info? e).map (fun i => (i.zero, i.size)) = some (some z, size)) (hcs : cs.size = size) (h0 : 0 < size) (hsm : size ≤ 1000)
    (hK : K (a.put o.dst (.slice (some ⟨w.heap.size, 0, none⟩) 1 1)) (w.alloc (.cells cs e))) : if Region.wanted o (yielded ops a.tmps) = true then Oper.wp P o a w K Q else E := by
  have hw : Region.wanted o (yielded ops a.tmps) = true := by simp [Region.wanted, hg]
  rw [if_pos hw]
  cases hi : P.info? e with
  | none => rw [hi] at hinf; simp at hinf
  | some ie =>
    rw [hi] at hinf
    simp only [Option.map_some, Option.some.injEq, Prod.mk.injEq] at hinf
    obtain ⟨hz, hsz⟩ := hinf
    refine wp_buildSlice t e 1 #[(0, x)] ho cs ie z hu hi hz (by omega) (by omega) ?_ hK
    rw [hsz]
    have e1 : ((#[(0, x)] : Array (Nat × Operand)).map fun (i, x) => (i, a.eval x)).toList = [(0, .agg cs)] := by simp [hx]
    rw [e1]
    exact fill_one h0 cs _ hcs (by simp)

theorem Tryz.infoWriter2 : (Tryz.prog.info? 120).map (fun i => (i.zero, i.size)) = some (some (.agg #[.int .i64 0, .int .i64 0, .int .i64 0, .int .i64 0, .int .i64 0, .slice none 0 0, .slice none 0 0, .slice none 0 0, .bool false, .bool false, .bool false, .bool false, .bool false, .bool false, .int .i64 0, .int .i64 0, .int .i64 0, .int .i64 0, .int .i64 0, .int .i64 0]), 20) := by kernel_rfl
theorem Tryz.descWriter : ∃ d, Tryz.prog.underlying 120 = some d ∧ (match d with | .struct _ | .array _ _ => true | _ => false) = true := ⟨_, Tryz.underlying120, rfl⟩
end Go.Proofs.YtfpbkghcjaonlaaGreat

/-
  The program: Open.
-/
namespace Go.Proofs.YtfpbkghcjaonlaaGreat
open Go.RowKit

set_option maxRecDepth 5000 in
set_option maxHeartbeats 2000000 in
theorem xopen_no {k : Nat → Nat} {w : World} {px : Nat} {x : XVol} (hx : XVolIs k w px x) (hn : 9 ≤ x.wrs.length) :
    Calls Tryz.prog 28 #[.pointer (some ⟨px, 0, none⟩)] w fun e w' => e = .returned (.tuple #[.int .i64 x.open_.2.1, .int .i64 x.open_.2.2]) ∧ ∃ k', Evo k k' cXS w w' ∧ XVolIs k' w' px x.open_.1 := by
  have HE : Hid (x.open_ = (x, 0, 2)) := hide (by unfold XVol.open_; rw [if_pos hn])
  obtain ⟨a, cap, q⟩ := wrs_cell hx
  have hd : decide ((9 : Int) ≤ (x.wrs.length : Int)) = true := by simp; omega
  go_enter Tryz.func28, Tryz.ntmps28
  go_wp2_with fail
  go_ret2
  exact ⟨by rw [HE.out]; rfl, k, Evo.refl _ _ _, by rw [HE.out]; exact hx⟩

set_option maxRecDepth 5000 in
set_option maxHeartbeats 4000000 in
theorem xopen_yes {k : Nat → Nat} {w : World} {px : Nat} {x : XVol} (hx : XVolIs k w px x) (hok : XOk x) (hn : ¬ 9 ≤ x.wrs.length) :
    Calls Tryz.prog 28 #[.pointer (some ⟨px, 0, none⟩)] w fun e w' => e = .returned (.tuple #[.int .i64 ((x.wrs.length : Int) + 1), .int .i64 0]) ∧ ∃ k', Evo k k' cXS w w' ∧ XVolIs k' w' px x.open_.1 := by
  obtain ⟨vM, vW, sr, wr, hB, hM, hS, hW⟩ := hx.ex
  obtain ⟨a, cap, hv, hcp⟩ := hW.own.form
  have l1 := hW.l1
  rw [l1] at hv
  subst hv
  have q : w.cell? ⟨px, 741, none⟩ = some (.slice a x.wrs.length cap) := by rw [hB.cell, volCells_wr hS]
  have hpl := hB.lt
  have hd : decide ((9 : Int) ≤ (x.wrs.length : Int)) = false := by simp; omega
  have hw1 : IntKind.i64.wrap ((x.wrs.length : Int) + 1) = (x.wrs.length : Int) + 1 := by rw [IntKind.wrap_i64] <;> omega
  have hn9 : x.wrs.length ≤ 9 := by omega
  have HNew := hide (wrNew_any w ((x.wrs.length : Int) + 1))
  go_enter Tryz.func28, Tryz.ntmps28
  go_wp2_with fail
  refine HNew.out.mono ?_
  rintro e1 w1 ⟨rfl, hb1⟩
  go_wp2_with (refine wpList_store_new rfl 120 (.tmp 5) (.tmp 20) rfl _ (newRow ((x.wrs.length : Int) + 1)).toArray rfl rfl (by rw [newRow_size]; exact Tryz.infoWrSize) (by rw [newRow_size]; simp) (newRow_one _) ?_)
  obtain ⟨W2, hW2⟩ : ∃ W2, W2 = w1.alloc (Obj.cells (newRow ((x.wrs.length : Int) + 1)).toArray 120) := ⟨_, rfl⟩
  rw [← hW2]
  have hb2 : Below w.heap.size w W2 := by rw [hW2]; exact hb1.alloc hb1.size _
  obtain ⟨bl, hbl⟩ : ∃ bl, bl = w1.heap.size := ⟨_, rfl⟩
  rw [← hbl]
  obtain ⟨kx, hkx⟩ : ∃ kx : Nat → Nat, kx = fun g => if g < w.heap.size then k g else 0 := ⟨_, rfl⟩
  have evx : Evo k kx noC w W2 := by rw [hkx]; exact (Evo.of_below (k := k) hb2).recolour _ (fun i hi => if_pos hi)
  have hbk : Blk kx W2 0 bl 120 (newRow ((x.wrs.length : Int) + 1)) := ⟨by rw [hW2, hbl]; exact heap_alloc_new w1 _, by rw [hkx, hbl]; exact if_neg (by have := hb1.size; omega)⟩
  have HX := hide (And.intro hW2 (And.intro hbl hkx))
  clear hW2 hbl hkx hb1 HNew
  generalize hnn : (x.wrs.length : Int) + 1 = nn at *
  have HNN := hide hnn
  clear hnn
  obtain ⟨row, hrow⟩ : ∃ row, row = newRow nn := ⟨_, rfl⟩
  rw [← hrow] at hbk
  have hrl : row.length = 20 := by rw [hrow]; simp [newRow]
  have hrs : row.toArray.size = 20 := by simpa using hrl
  have hr1 : ∀ u ∈ row, u.oneCell' = true := by rw [hrow]; simp [newRow, Value.oneCell']
  have hrw : row = wrRow (xwr0 nn) (.slice none 0 0) (.slice none 0 0) (.slice none 0 0) := by rw [hrow]; exact newRow_eq nn
  have HRow := hide (And.intro hrow hrw)
  clear hrow hrw
  have hB2 := hB.evo evx (noC_not _)
  have q2 : W2.cell? ⟨px, 741, none⟩ = some (.slice a x.wrs.length cap) := by rw [hB2.cell, volCells_wr hS]
  have pl2 := hB2.lt
  have ev3 : Evo kx kx noC W2 (W2.drew.alloc (Obj.cells row.toArray 120)) := ((Evo.refl kx noC W2).drew).alloc _
  have pB := hB2.evo ev3 (noC_not _)
  have hR := (hW.own.evo evx (noC_not _)).evo ev3 (noC_not _)
  have HL : Hid (wr.length = x.wrs.length) := hide l1
  have HSx := hide hS
  have HFin : Hid (∀ k5 w5 ao1 cap1, Rows k5 w5 cXW 120 20 (.slice ao1 (x.wrs.length + 1) cap1) (wr ++ [row]) → Evo kx k5 (fun c => c = cXW) (W2.drew.alloc (Obj.cells row.toArray 120)) w5 → Hid (∃ k2, Evo k k2 cXS w (w5.setCell ⟨px, 741, none⟩ (.slice ao1 (x.wrs.length + 1) cap1)) ∧ XVolIs k2 (w5.setCell ⟨px, 741, none⟩ (.slice ao1 (x.wrs.length + 1) cap1)) px { x with wrs := x.wrs ++ [xwr0 nn] } ∧ Blk k2 (w5.setCell ⟨px, 741, none⟩ (.slice ao1 (x.wrs.length + 1) cap1)) 0 bl 120 (newRow nn))) := hide fun k5 w5 ao1 cap1 hR5 hE5 => by
    obtain ⟨f1, f2, f3⟩ := push_fin (Evo.refl _ noC _) pB (by decide) hR5 hE5 741
    rw [volCells_setwr HSx.out] at f2
    have evA := (ev3.mono (D := fun c => c = cX ∨ c = cXW) (fun _ h => h.elim)).trans f1
    have evB := (evx.mono (D := fun c => c = cX ∨ c = cXW) (fun _ h => h.elim)).trans evA
    have him : ¬ (IM = cX ∨ IM = cXW) := by decide
    refine hide ⟨k5, evB.mono (fun c h => by unfold cX cXW at h; unfold cXS; omega), ⟨vM, _, sr, wr ++ [row], f2, hM.evo evB (by decide) him, HSx.out.evo evB him, ⟨f3, ?_, ?_, ?_⟩⟩, by rw [← HRow.out.1]; exact hbk.evo evA (by decide)⟩
    · simp only [List.length_append, List.length_singleton]; have := HL.out; omega
    · simp only [List.length_append, List.length_singleton]; omega
    · intro i h1 h2
      simp only [List.length_append, List.length_singleton] at h1 h2
      have hl := HL.out
      by_cases hi : i < wr.length
      · have e1 : (wr ++ [row])[i]'(by simp; omega) = wr[i] := List.getElem_append_left hi
        have e2 : (x.wrs ++ [xwr0 nn])[i]'(by simp; omega) = x.wrs[i]'(by omega) := List.getElem_append_left (by omega)
        show WrIs _ _ _ ((x.wrs ++ [xwr0 nn])[i]'(by simp; omega)) _
        rw [e1, e2]
        exact (hW.all i hi (by omega)).evo evB him (by unfold cWr cX cXW; omega) (by unfold cWr cX cXW; omega)
      · have hie : i = wr.length := by omega
        have e1 : (wr ++ [row])[i]'(by simp; omega) = row := by rw [List.getElem_append_right (by omega)]; simp
        have e2 : (x.wrs ++ [xwr0 nn])[i]'(by simp; omega) = xwr0 nn := by rw [List.getElem_append_right (by omega)]; simp
        show WrIs _ _ _ ((x.wrs ++ [xwr0 nn])[i]'(by simp; omega)) _
        rw [e1, e2]
        exact ⟨⟨_, _, _, HRow.out.2, ⟨[], Rows.nil _ _ _ _ _, rfl, fun i h1 => by simp [xwr0] at h1⟩, Rows.nil _ _ _ _ _, Rows.nil _ _ _ _ _⟩, rfl, rfl⟩
  have HYc : Hid (∀ k5 w5, Evo kx k5 (fun c => c = cXW) (W2.drew.alloc (Obj.cells row.toArray 120)) w5 → w5.cell? ⟨px, 741, none⟩ = some (.slice a x.wrs.length cap) ∧ w5.frozen? ⟨px, 741, none⟩ = false ∧ px < w5.heap.size) := hide fun k5 w5 hE5 => ⟨vol_wr_cell (pB.evo hE5 (by decide)) HSx.out, (pB.evo hE5 (by decide)).free 741, (pB.evo hE5 (by decide)).lt⟩
  have HApp : Hid (∀ (ops : Array Oper) (o : Oper) (ac : Act) (K : Act → World → Prop) (Q : Exit → Act → World → Prop) (E : Prop), o.guard = none → o.op = Op.call { callee := Callee.builtin Builtin.append, args := #[.tmp 25, .tmp 27], argTypes := #[75, 75] } → ac.eval (.tmp 25) = .slice a x.wrs.length cap → ac.eval (.tmp 27) = .slice (some ⟨W2.heap.size, 0, none⟩) 1 1 →
      (∀ ao1 cap1 w5, w5.cell? ⟨px, 741, none⟩ = some (.slice a x.wrs.length cap) → w5.frozen? ⟨px, 741, none⟩ = false → px < w5.heap.size → Hid (∃ k2, Evo k k2 cXS w (w5.setCell ⟨px, 741, none⟩ (.slice ao1 (x.wrs.length + 1) cap1)) ∧ XVolIs k2 (w5.setCell ⟨px, 741, none⟩ (.slice ao1 (x.wrs.length + 1) cap1)) px { x with wrs := x.wrs ++ [xwr0 nn] } ∧ Blk k2 (w5.setCell ⟨px, 741, none⟩ (.slice ao1 (x.wrs.length + 1) cap1)) 0 bl 120 (newRow nn)) → K (ac.put o.dst (.slice ao1 (x.wrs.length + 1) cap1)) w5) →
      if Region.wanted o (yielded ops ac.tmps) = true then Oper.wp Tryz.prog o ac (W2.drew.alloc (Obj.cells row.toArray 120)) K Q else E) := hide fun ops o ac K Q E hg hop h25 h27 hK => by
    refine step_append_rows kx cXW (.tmp 25) (.tmp 27) 75 120 _ 20 168 _ wr [row] x.wrs.length ⟨W2.heap.size, 0, none⟩ 1 1 HL.out hg hop Tryz.underlying75 Tryz.infoWriter rfl (by decide) h25 h27 hR rfl (by simpa using hrl) ?_ (by simpa using hr1) (by simp only [maxLen]; omega) (by omega) ?_
    · intro j u hj
      rw [Addr.add_lit, Nat.zero_add, cell_of_row _ W2.heap.size j _ _ _ (heap_alloc_new W2.drew _)]
      simpa using hj
    · intro ao1 cap1 w5 k5 hR5 hE5
      obtain ⟨y1, y2, y3⟩ := HYc.out k5 w5 hE5
      exact hK ao1 cap1 w5 y1 y2 y3 (HFin.out k5 w5 ao1 cap1 hR5 hE5)
  have hbl : W2.drew.heap[bl]? = some (.cells row.toArray 120 (0, 0)) := hbk.1
  have HBL := hide hbl
  have hblA : (W2.drew.alloc (Obj.cells row.toArray 120)).heap[bl]? = some (.cells row.toArray 120 (0, 0)) := (hbk.evo ev3 (noC_not _)).1
  clear l1 hbl hblA hbk hB2 ev3 pB hR
  dsimp only [Act.put]
  go_cut [] (fun wc => Hid (∃ k2, Evo k k2 cXS w wc ∧ XVolIs k2 wc px { x with wrs := x.wrs ++ [xwr0 nn] } ∧ Blk k2 wc 0 bl 120 (newRow nn)))
  case first =>
    refine wp_region_any (by kernel_rfl) ?_
    change wpAny _ _ _ _ _ _ _ (World.drew _)
    refine wpAny_take (i := 0) (v := .pointer (some ⟨px, 0, none⟩)) rfl (by kernel_rfl) (by kernel_rfl) (by kernel_rfl) (fun _ _ _ h => h) (Or.inl ⟨by rfl, by intro w; go_simp⟩) ?_
    dsimp only [Act.put]
    refine wpAny_take (i := 1) (v := .pointer (some ⟨px, 0, none⟩)) rfl (by kernel_rfl) (by kernel_rfl) (by kernel_rfl) (fun _ _ _ h => h) (Or.inl ⟨by rfl, by intro w; go_simp⟩) ?_
    dsimp only [Act.put]
    refine wpAny_take (i := 2) (v := .pointer (some ⟨px, 0, none⟩)) rfl (by kernel_rfl) (by kernel_rfl) (by kernel_rfl) (fun _ _ _ h => h) (Or.inl ⟨by rfl, by intro w; go_simp⟩) ?_
    dsimp only [Act.put]
    refine wpAny_take (i := 3) (v := .pointer (some ⟨px, 741, none⟩)) rfl (by kernel_rfl) (by kernel_rfl) (by kernel_rfl) (fun _ _ _ h => h) (Or.inl ⟨by rfl, by intro w; go_simp⟩) ?_
    dsimp only [Act.put]
    refine wpAny_ready (rs := [4, 5]) (by kernel_rfl) (by simp) ?_
    refine AllReady.cons (o := _) rfl (fun K hK => ?_) (AllReady.cons (o := _) rfl (fun K hK => ?_) AllReady.nil)
    · go_simp
      refine hK _ _ ?_
      clear hK K
      refine wpAny_ready (rs := [5]) (by kernel_rfl) (by simp) ?_
      refine AllReady.cons (o := _) rfl (fun K hK => ?_) AllReady.nil
      refine step_load_row rfl 120 (.tmp 5) rfl bl rfl 120 row.toArray (0, 0) _ HBL.out Tryz.underlying120 rfl (by rw [hrs]; exact Tryz.infoWrSize) ?_
      refine hK _ _ ?_
      clear hK K
      dsimp only [Act.put]
      refine wpAny_ready (rs := [6]) (by kernel_rfl) (by simp) ?_
      refine AllReady.cons (o := _) rfl (fun K hK => ?_) AllReady.nil
      refine step_buildSlice1 rfl 75 120 (.tmp 26) rfl row.toArray rfl 20 _ Tryz.underlying75 Tryz.infoWriter2 hrs (by decide) (by decide) ?_
      refine hK _ _ ?_
      clear hK K
      dsimp only [Act.put]
      refine wpAny_ready (rs := [7]) (by kernel_rfl) (by simp) ?_
      refine AllReady.cons (o := _) rfl (fun K hK => ?_) AllReady.nil
      refine HApp.out _ _ _ _ _ _ rfl rfl rfl rfl ?_
      intro ao1 cap1 w5 y1 y2 y3 hfin
      refine hK _ _ ?_
      clear hK K
      dsimp only [Act.put]
      refine wpAny_take (i := 8) (v := .pointer (some ⟨px, 0, none⟩)) rfl (by kernel_rfl) (by kernel_rfl) (by kernel_rfl) (fun _ _ _ h => h) (Or.inl ⟨by rfl, by intro w; go_simp⟩) ?_
      dsimp only [Act.put]
      refine wpAny_take (i := 9) (v := .pointer (some ⟨px, 741, none⟩)) rfl (by kernel_rfl) (by kernel_rfl) (by kernel_rfl) (fun _ _ _ h => h) (Or.inl ⟨by rfl, by intro w; go_simp⟩) ?_
      dsimp only [Act.put]
      refine wpAny_ready (rs := [10]) (by kernel_rfl) (by simp) ?_
      refine AllReady.cons (o := _) rfl (fun K hK => ?_) AllReady.nil
      go_simp
      refine hK _ _ ?_
      clear hK K
      refine wpAny_done (by kernel_rfl) ?_ _
      go_wp2_with fail
      go_meet
      exact hfin
    · refine step_load_row rfl 120 (.tmp 5) rfl bl rfl 120 row.toArray (0, 0) _ HBL.out Tryz.underlying120 rfl (by rw [hrs]; exact Tryz.infoWrSize) ?_
      refine hK _ _ ?_
      clear hK K
      dsimp only [Act.put]
      refine wpAny_ready (rs := [4, 6]) (by kernel_rfl) (by simp) ?_
      refine AllReady.cons (o := _) rfl (fun K hK => ?_) (AllReady.cons (o := _) rfl (fun K hK => ?_) AllReady.nil)
      · go_simp
        refine hK _ _ ?_
        clear hK K
        refine wpAny_ready (rs := [6]) (by kernel_rfl) (by simp) ?_
        refine AllReady.cons (o := _) rfl (fun K hK => ?_) AllReady.nil
        refine step_buildSlice1 rfl 75 120 (.tmp 26) rfl row.toArray rfl 20 _ Tryz.underlying75 Tryz.infoWriter2 hrs (by decide) (by decide) ?_
        refine hK _ _ ?_
        clear hK K
        dsimp only [Act.put]
        refine wpAny_ready (rs := [7]) (by kernel_rfl) (by simp) ?_
        refine AllReady.cons (o := _) rfl (fun K hK => ?_) AllReady.nil
        refine HApp.out _ _ _ _ _ _ rfl rfl rfl rfl ?_
        intro ao1 cap1 w5 y1 y2 y3 hfin
        refine hK _ _ ?_
        clear hK K
        dsimp only [Act.put]
        refine wpAny_take (i := 8) (v := .pointer (some ⟨px, 0, none⟩)) rfl (by kernel_rfl) (by kernel_rfl) (by kernel_rfl) (fun _ _ _ h => h) (Or.inl ⟨by rfl, by intro w; go_simp⟩) ?_
        dsimp only [Act.put]
        refine wpAny_take (i := 9) (v := .pointer (some ⟨px, 741, none⟩)) rfl (by kernel_rfl) (by kernel_rfl) (by kernel_rfl) (fun _ _ _ h => h) (Or.inl ⟨by rfl, by intro w; go_simp⟩) ?_
        dsimp only [Act.put]
        refine wpAny_ready (rs := [10]) (by kernel_rfl) (by simp) ?_
        refine AllReady.cons (o := _) rfl (fun K hK => ?_) AllReady.nil
        go_simp
        refine hK _ _ ?_
        clear hK K
        refine wpAny_done (by kernel_rfl) ?_ _
        go_wp2_with fail
        go_meet
        exact hfin
      · refine step_buildSlice1 rfl 75 120 (.tmp 26) rfl row.toArray rfl 20 _ Tryz.underlying75 Tryz.infoWriter2 hrs (by decide) (by decide) ?_
        refine hK _ _ ?_
        clear hK K
        dsimp only [Act.put]
        refine wpAny_ready (rs := [4]) (by kernel_rfl) (by simp) ?_
        refine AllReady.cons (o := _) rfl (fun K hK => ?_) AllReady.nil
        go_simp
        refine hK _ _ ?_
        clear hK K
        refine wpAny_ready (rs := [7]) (by kernel_rfl) (by simp) ?_
        refine AllReady.cons (o := _) rfl (fun K hK => ?_) AllReady.nil
        refine HApp.out _ _ _ _ _ _ rfl rfl rfl rfl ?_
        intro ao1 cap1 w5 y1 y2 y3 hfin
        refine hK _ _ ?_
        clear hK K
        dsimp only [Act.put]
        refine wpAny_take (i := 8) (v := .pointer (some ⟨px, 0, none⟩)) rfl (by kernel_rfl) (by kernel_rfl) (by kernel_rfl) (fun _ _ _ h => h) (Or.inl ⟨by rfl, by intro w; go_simp⟩) ?_
        dsimp only [Act.put]
        refine wpAny_take (i := 9) (v := .pointer (some ⟨px, 741, none⟩)) rfl (by kernel_rfl) (by kernel_rfl) (by kernel_rfl) (fun _ _ _ h => h) (Or.inl ⟨by rfl, by intro w; go_simp⟩) ?_
        dsimp only [Act.put]
        refine wpAny_ready (rs := [10]) (by kernel_rfl) (by simp) ?_
        refine AllReady.cons (o := _) rfl (fun K hK => ?_) AllReady.nil
        go_simp
        refine hK _ _ ?_
        clear hK K
        refine wpAny_done (by kernel_rfl) ?_ _
        go_wp2_with fail
        go_meet
        exact hfin
  case rest =>
    obtain ⟨k2, ev2, hv2, hb2'⟩ := hcut.out
    have hok2 : XOk { x with wrs := x.wrs ++ [xwr0 nn] } := ⟨hok.rm, hok.ml, hok.mo, hok.sk, fun p hp => by
      rcases List.mem_append.1 hp with h | h
      · exact hok.wk p h
      · rw [List.mem_singleton.1 h]; exact xwr0_ok nn⟩
    have hwk := xwr0_ok nn
    have HD := hide (due_any (newWr_at (c := 0) nn hb2') hwk.b0 hwk.b1 hwk.nt hwk.vl hwk.nl)
    have HSA : Hid (∀ W v, MsgsMade k2 wc W v (xwr0 nn).due → Below wc.heap.size wc W → Calls Tryz.prog 66 #[.pointer (some ⟨px, 0, none⟩), v] W fun e w' => e = .returned (.tuple #[]) ∧ ∃ k', Evo k k' cXS w w' ∧ XVolIs k' w' px x.open_.1) := hide fun W v hm hb => by
      obtain ⟨k3, ev3', hl⟩ := hm.is hb
      refine (xsendAll_any (xwr0 nn).due (hv2.evo ev3' (noC_not _) (fun c _ _ => noC_not c)) hok2 hl (by have := due_len (xwr0 nn); omega) (due_ok hwk)).mono ?_
      rintro e w' ⟨rfl, k4, ev4, h4⟩
      refine ⟨rfl, k4, (ev2.trans (ev3'.mono (fun _ h => h.elim))).trans (ev4.mono (fun c h => by unfold cXN cX cXM at h; unfold cXS; omega)), ?_⟩
      unfold XVol.open_
      rw [if_neg hn]
      rw [HNN.out]
      exact h4
    clear hcut hv2 hb2' hok2 hwk ev2
    generalize (xwr0 nn).due = du at *
    go_wp2_with fail
    refine HD.out.mono ?_
    rintro e1 w3 ⟨⟨v, rfl, hm⟩, hb3⟩
    obtain ⟨rows, hmm, _⟩ := id hm
    obtain ⟨s0, s1, s2, hs⟩ := made_shape hmm
    subst hs
    have H9 := hide (HSA.out _ _ hm hb3)
    clear hm hmm
    go_wp2_with fail
    refine H9.out.mono ?_
    rintro e1 w4 ⟨rfl, HY⟩
    have HY2 := hide HY
    clear HY
    go_wp2_with fail
    go_ret2
    exact ⟨by rw [HNN.out]; rfl, HY2.out⟩


theorem xopen_any {k : Nat → Nat} {w : World} {px : Nat} {x : XVol} (hx : XVolIs k w px x) (hok : XOk x) :
    Calls Tryz.prog 28 #[.pointer (some ⟨px, 0, none⟩)] w fun e w' => e = .returned (.tuple #[.int .i64 x.open_.2.1, .int .i64 x.open_.2.2]) ∧ ∃ k', Evo k k' cXS w w' ∧ XVolIs k' w' px x.open_.1 := by
  by_cases hn : 9 ≤ x.wrs.length
  · exact xopen_no hx hn
  · have h := xopen_yes hx hok hn
    rw [show x.open_.2.1 = (x.wrs.length : Int) + 1 from by unfold XVol.open_; rw [if_neg hn], show x.open_.2.2 = 0 from by unfold XVol.open_; rw [if_neg hn]]
    exact h
end Go.Proofs.YtfpbkghcjaonlaaGreat

/-
  sixfoldlaw: pens.
-/
namespace Go.Proofs.YtfpbkghcjaonlaaGreat
open Go.RowKit

set_option maxRecDepth 2000 in
set_option maxHeartbeats 4000000 in
theorem lawPens_open {T : Type} {R : T → (Nat → Nat) → World → Prop} {t t1 t2 : T} {k : Nat → Nat} {w wr : World} {b px py nC nR nI : Nat} {X : List (Nat × Nat × List Value)} (hF : Fam R) (A B : Int) (val err : Int)
    (HX : Step R 28 #[.pointer (some ⟨px, 0, none⟩)] (.tuple #[.int .i64 val, .int .i64 err]) t t1)
    (HY : Step R 29 #[.pointer (some ⟨py, 0, none⟩)] (.tuple #[.int .i64 val, .int .i64 err]) t1 t2)
    (h : LSt R t k w wr b px py nC nR nI X) :
    Calls Tryz.prog 16 #[.pointer (some ⟨b, 0, none⟩), .agg #[.int .i64 1, .int .i64 A, .int .i64 B]] wr fun e w' => e = .returned (.bool true) ∧ LSt R t2 k w w' b px py nC nR nI X := by
  have h0 := h.alloc hF 33 [.int .i64 1, .int .i64 A, .int .i64 B]
  obtain ⟨z0, z1, hbl⟩ := h.cells
  have hbg : ¬ b = wr.heap.size := by omega
  have H0 := hide h0
  have HF := hide hF
  have HX' := hide HX
  have HY' := hide HY
  clear h h0 HX HY hF
  have H1 := hide (H0.out.call HF.out HX'.out)
  go_enter Tryz.func16, Tryz.ntmps16
  go_wp2_with fail
  refine H1.out.mono ?_
  rintro e1 w1 ⟨rfl, h1⟩
  obtain ⟨y0, y1, hbl1, g0, g1, g2, hgl⟩ := h1.acts
  have H2 := hide (h1.call HF.out HY'.out)
  clear h1
  go_wp2_with fail
  refine H2.out.mono ?_
  rintro e2 w2 ⟨rfl, h2⟩
  have H3 := hide h2
  clear h2
  go_wp2_with fail
  go_ret
  exact ⟨by simp, H3.out.drop⟩

set_option maxRecDepth 2000 in
set_option maxHeartbeats 4000000 in
theorem lawPens_resend {T : Type} {R : T → (Nat → Nat) → World → Prop} {t t1 t2 : T} {k : Nat → Nat} {w wr : World} {b px py nC nR nI : Nat} {X : List (Nat × Nat × List Value)} (hF : Fam R) (A B : Int) (err : Int)
    (HX : Step R 30 #[.pointer (some ⟨px, 0, none⟩), .int .i64 A] (.int .i64 err) t t1)
    (HY : Step R 31 #[.pointer (some ⟨py, 0, none⟩), .int .i64 A] (.int .i64 err) t1 t2)
    (h : LSt R t k w wr b px py nC nR nI X) :
    Calls Tryz.prog 16 #[.pointer (some ⟨b, 0, none⟩), .agg #[.int .i64 2, .int .i64 A, .int .i64 B]] wr fun e w' => e = .returned (.bool true) ∧ LSt R t2 k w w' b px py nC nR nI X := by
  have h0 := h.alloc hF 33 [.int .i64 2, .int .i64 A, .int .i64 B]
  obtain ⟨z0, z1, hbl⟩ := h.cells
  have hbg : ¬ b = wr.heap.size := by omega
  have H0 := hide h0
  have HF := hide hF
  have HX' := hide HX
  have HY' := hide HY
  clear h h0 HX HY hF
  have H1 := hide ((H0.out.drew HF.out).call HF.out HX'.out)
  have HA := hide (H0.out.drew HF.out).acts
  go_enter Tryz.func16, Tryz.ntmps16
  go_wp2_with fail
  go_region_held3 (fun W => W.cell? ⟨b, 0, none⟩ = some (.pointer (some ⟨px, 0, none⟩)) ∧ W.cell? ⟨wr.heap.size, 1, none⟩ = some (.int .i64 A) ∧ W.cell? ⟨wr.heap.size, 2, none⟩ = some (.int .i64 B)) (first | exact ⟨HA.out.1, HA.out.2.2.2.2.1, HA.out.2.2.2.2.2.1⟩ | exact HSx)
    (first | (go_at_call 30; refine H1.out.mono ?_; rintro e1 w1 ⟨rfl, h1⟩; have ha1 := h1.acts; have HSx := And.intro ha1.1 (And.intro ha1.2.2.2.2.1 ha1.2.2.2.2.2.1); have H1x := hide h1; clear h1 ha1))
  have HA1 := hide (H1x.out.drew HF.out).acts
  have H2 := hide ((H1x.out.drew HF.out).call HF.out HY'.out)
  obtain ⟨y0, y1, hbl1, g0, g1, g2, hgl⟩ := H1x.out.acts
  clear HSx z0 z1 hbl
  go_wp2_with fail
  go_region_held3 (fun W => W.cell? ⟨b, 1, none⟩ = some (.pointer (some ⟨py, 0, none⟩)) ∧ W.cell? ⟨wr.heap.size, 1, none⟩ = some (.int .i64 A) ∧ W.cell? ⟨wr.heap.size, 2, none⟩ = some (.int .i64 B)) (first | exact ⟨HA1.out.2.1, HA1.out.2.2.2.2.1, HA1.out.2.2.2.2.2.1⟩ | exact HSy)
    (first | (go_at_call 31; refine H2.out.mono ?_; rintro e2 w2 ⟨rfl, h2⟩; have ha2 := h2.acts; have HSy := And.intro ha2.2.1 (And.intro ha2.2.2.2.2.1 ha2.2.2.2.2.2.1); have H2x := hide h2; clear h2 ha2))
  clear HSy
  go_wp2_with fail
  go_ret
  exact ⟨by simp, H2x.out.drop⟩

set_option maxRecDepth 2000 in
set_option maxHeartbeats 4000000 in
theorem lawPens_append {T : Type} {R : T → (Nat → Nat) → World → Prop} {t t1 t2 : T} {k : Nat → Nat} {w wr : World} {b px py nC nR nI : Nat} {X : List (Nat × Nat × List Value)} (hF : Fam R) (A B : Int) (val err : Int)
    (HX : Step R 32 #[.pointer (some ⟨px, 0, none⟩), .int .i64 A, .int .i64 B] (.tuple #[.int .i64 val, .int .i64 err]) t t1)
    (HY : Step R 33 #[.pointer (some ⟨py, 0, none⟩), .int .i64 A, .int .i64 B] (.tuple #[.int .i64 val, .int .i64 err]) t1 t2)
    (h : LSt R t k w wr b px py nC nR nI X) :
    Calls Tryz.prog 16 #[.pointer (some ⟨b, 0, none⟩), .agg #[.int .i64 3, .int .i64 A, .int .i64 B]] wr fun e w' => e = .returned (.bool true) ∧ LSt R t2 k w w' b px py nC nR nI X := by
  have h0 := h.alloc hF 33 [.int .i64 3, .int .i64 A, .int .i64 B]
  obtain ⟨z0, z1, hbl⟩ := h.cells
  have hbg : ¬ b = wr.heap.size := by omega
  have H0 := hide h0
  have HF := hide hF
  have HX' := hide HX
  have HY' := hide HY
  clear h h0 HX HY hF
  have H1 := hide ((H0.out.drew HF.out).call HF.out HX'.out)
  have HA := hide (H0.out.drew HF.out).acts
  go_enter Tryz.func16, Tryz.ntmps16
  go_wp2_with fail
  go_region_held3 (fun W => W.cell? ⟨b, 0, none⟩ = some (.pointer (some ⟨px, 0, none⟩)) ∧ W.cell? ⟨wr.heap.size, 1, none⟩ = some (.int .i64 A) ∧ W.cell? ⟨wr.heap.size, 2, none⟩ = some (.int .i64 B)) (first | exact ⟨HA.out.1, HA.out.2.2.2.2.1, HA.out.2.2.2.2.2.1⟩ | exact HSx)
    (first | (go_at_call 32; refine H1.out.mono ?_; rintro e1 w1 ⟨rfl, h1⟩; have ha1 := h1.acts; have HSx := And.intro ha1.1 (And.intro ha1.2.2.2.2.1 ha1.2.2.2.2.2.1); have H1x := hide h1; clear h1 ha1))
  have HA1 := hide (H1x.out.drew HF.out).acts
  have H2 := hide ((H1x.out.drew HF.out).call HF.out HY'.out)
  obtain ⟨y0, y1, hbl1, g0, g1, g2, hgl⟩ := H1x.out.acts
  clear HSx z0 z1 hbl
  go_wp2_with fail
  go_region_held3 (fun W => W.cell? ⟨b, 1, none⟩ = some (.pointer (some ⟨py, 0, none⟩)) ∧ W.cell? ⟨wr.heap.size, 1, none⟩ = some (.int .i64 A) ∧ W.cell? ⟨wr.heap.size, 2, none⟩ = some (.int .i64 B)) (first | exact ⟨HA1.out.2.1, HA1.out.2.2.2.2.1, HA1.out.2.2.2.2.2.1⟩ | exact HSy)
    (first | (go_at_call 33; refine H2.out.mono ?_; rintro e2 w2 ⟨rfl, h2⟩; have ha2 := h2.acts; have HSy := And.intro ha2.2.1 (And.intro ha2.2.2.2.2.1 ha2.2.2.2.2.2.1); have H2x := hide h2; clear h2 ha2))
  clear HSy
  go_wp2_with fail
  go_ret
  exact ⟨by simp, H2x.out.drop⟩

set_option maxRecDepth 2000 in
set_option maxHeartbeats 4000000 in
theorem lawPens_read {T : Type} {R : T → (Nat → Nat) → World → Prop} {t t1 t2 : T} {k : Nat → Nat} {w wr : World} {b px py nC nR nI : Nat} {X : List (Nat × Nat × List Value)} (hF : Fam R) (A B : Int) (val err : Int)
    (HX : Step R 34 #[.pointer (some ⟨px, 0, none⟩), .int .i64 A, .int .i64 B] (.tuple #[.int .i64 val, .int .i64 err]) t t1)
    (HY : Step R 35 #[.pointer (some ⟨py, 0, none⟩), .int .i64 A, .int .i64 B] (.tuple #[.int .i64 val, .int .i64 err]) t1 t2)
    (h : LSt R t k w wr b px py nC nR nI X) :
    Calls Tryz.prog 16 #[.pointer (some ⟨b, 0, none⟩), .agg #[.int .i64 8, .int .i64 A, .int .i64 B]] wr fun e w' => e = .returned (.bool true) ∧ LSt R t2 k w w' b px py nC nR nI X := by
  have h0 := h.alloc hF 33 [.int .i64 8, .int .i64 A, .int .i64 B]
  obtain ⟨z0, z1, hbl⟩ := h.cells
  have hbg : ¬ b = wr.heap.size := by omega
  have H0 := hide h0
  have HF := hide hF
  have HX' := hide HX
  have HY' := hide HY
  clear h h0 HX HY hF
  have H1 := hide ((H0.out.drew HF.out).call HF.out HX'.out)
  have HA := hide (H0.out.drew HF.out).acts
  go_enter Tryz.func16, Tryz.ntmps16
  go_wp2_with fail
  go_region_held3 (fun W => W.cell? ⟨b, 0, none⟩ = some (.pointer (some ⟨px, 0, none⟩)) ∧ W.cell? ⟨wr.heap.size, 1, none⟩ = some (.int .i64 A) ∧ W.cell? ⟨wr.heap.size, 2, none⟩ = some (.int .i64 B)) (first | exact ⟨HA.out.1, HA.out.2.2.2.2.1, HA.out.2.2.2.2.2.1⟩ | exact HSx)
    (first | (go_at_call 34; refine H1.out.mono ?_; rintro e1 w1 ⟨rfl, h1⟩; have ha1 := h1.acts; have HSx := And.intro ha1.1 (And.intro ha1.2.2.2.2.1 ha1.2.2.2.2.2.1); have H1x := hide h1; clear h1 ha1))
  have HA1 := hide (H1x.out.drew HF.out).acts
  have H2 := hide ((H1x.out.drew HF.out).call HF.out HY'.out)
  obtain ⟨y0, y1, hbl1, g0, g1, g2, hgl⟩ := H1x.out.acts
  clear HSx z0 z1 hbl
  go_wp2_with fail
  go_region_held3 (fun W => W.cell? ⟨b, 1, none⟩ = some (.pointer (some ⟨py, 0, none⟩)) ∧ W.cell? ⟨wr.heap.size, 1, none⟩ = some (.int .i64 A) ∧ W.cell? ⟨wr.heap.size, 2, none⟩ = some (.int .i64 B)) (first | exact ⟨HA1.out.2.1, HA1.out.2.2.2.2.1, HA1.out.2.2.2.2.2.1⟩ | exact HSy)
    (first | (go_at_call 35; refine H2.out.mono ?_; rintro e2 w2 ⟨rfl, h2⟩; have ha2 := h2.acts; have HSy := And.intro ha2.2.1 (And.intro ha2.2.2.2.2.1 ha2.2.2.2.2.2.1); have H2x := hide h2; clear h2 ha2))
  clear HSy
  go_wp2_with fail
  go_ret
  exact ⟨by simp, H2x.out.drop⟩

end Go.Proofs.YtfpbkghcjaonlaaGreat
