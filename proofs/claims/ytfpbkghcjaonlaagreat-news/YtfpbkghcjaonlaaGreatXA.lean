/-
  The program: great rows; segment.New, network.New.
-/
import Derived.Test.YtfpbkghcjaonlaaGreatLawA
import Derived.Deep.MidRow
import Derived.Deep.WholeRow
namespace Go.Proofs.YtfpbkghcjaonlaaGreat
open Go.RowKit

theorem wpList_store_new {P : Program} {w : World} {ops : Array Oper} {rest : List Oper} {op : Oper} {a : Act} {Q : Exit → Act → World → Prop} (hgd : op.guard = none) (ty : TypeId) (x y : Operand) (ho : op.op = .store ty x y)
    (c c' : Array Value) (hx : a.eval x = .pointer (some ⟨w.heap.size, 0, none⟩)) (hy : a.eval y = .agg c') (hi : (P.info? ty).map (·.size) = some c'.size) (hs : c.size = c'.size) (h1 : c'.all (·.oneCell') = true)
    (h : wpList P ops Q rest (a.put op.dst undef) (w.alloc (.cells c' ty))) : wpList P ops Q (op :: rest) a (w.alloc (.cells c ty)) := by
  refine wpList_plain hgd fun K hK => ?_
  unfold Oper.wp execOp
  simp only [ho, hx, hy, Instr.storeAt, Instr.sureAddr, Sem.run_bind, Sem.run_pure, Result.andThen_ok, run_storeVar_new w ty c c' hi hs h1]
  exact hK _ _ h

theorem Blk.setCells {k : Nat → Nat} {c b e : Nat} : ∀ (vs : List Value) {w : World} {cs : List Value} (o : Nat), Blk k w c b e cs → o + vs.length ≤ cs.length → Blk k (w.setCells b o vs) c b e (cs.take o ++ vs ++ cs.drop (o + vs.length))
  | [], w, cs, o, h, _ => by simpa [World.setCells] using h
  | v :: r, w, cs, o, h, hl => by
    simp only [List.length_cons] at hl
    have h1 := Blk.setCells r (w := w.setCell ⟨b, o, none⟩ v) (cs := cs.set o v) (o + 1) (h.set o v) (by simp; omega)
    have e1 : (cs.set o v).take (o + 1) ++ r ++ (cs.set o v).drop (o + 1 + r.length) = cs.take o ++ (v :: r) ++ cs.drop (o + (v :: r).length) := by
      rw [List.take_set, List.drop_set_of_lt (by omega)]
      have h2 : cs.take (o + 1) = cs.take o ++ [cs[o]'(by omega)] := List.take_succ_eq_append_getElem (by omega)
      rw [h2, List.set_append_right _ _ (by simp; omega)]
      simp [show o - min o cs.length = 0 from by omega, Nat.add_assoc, Nat.add_comm 1 r.length]
    rw [e1] at h1
    exact h1

theorem Evo.setCells {k1 k2 : Nat → Nat} {C : Nat → Prop} {a : World} {b : Nat} (hb : C (k2 b)) : ∀ (vs : List Value) {w : World} (o : Nat), Evo k1 k2 C a w → Evo k1 k2 C a (w.setCells b o vs)
  | [], _, _, h => h
  | _ :: r, _, o, h => Evo.setCells hb r (o + 1) (h.setCell _ _ (fun _ => hb))

theorem Blk.there {k : Nat → Nat} {w : World} {c b e : Nat} {cs : List Value} (h : Blk k w c b e cs) (o n : Nat) (hl : o + n ≤ cs.length) : w.there b o n := fun j hj => by
  refine ⟨?_, h.free _⟩
  rw [h.cell, List.getElem?_eq_getElem (by omega)]; rfl
theorem Blk.rangeAt {k : Nat → Nat} {w : World} {c b e : Nat} {cs : List Value} (h : Blk k w c b e cs) (o : Nat) (r : List Value) (hr : ∀ j v, r[j]? = some v → cs[o + j]? = some v) : w.rangeAt b o r := fun j v hv => by
  rw [h.cell]; exact hr j v hv

set_option maxHeartbeats 1000000 in
theorem netNew_any (w : World) (n : Int) :
    Calls Tryz.prog 26 #[.int .i64 n] w fun e w' => e = .returned (.agg #[.int .i64 n, .slice none 0 0]) ∧ Below w.heap.size w w' := by
  go_enter Tryz.func26, Tryz.ntmps26
  go_wp2
  exact bodyPost_ret (v := .agg #[.int .i64 n, .slice none 0 0]) (by simp [results, Tryz.results26, go_sem]) rfl ⟨rfl, (Below.refl _ _).alloc (Nat.le_refl _) _⟩

theorem Tryz.infoSegSize : (Tryz.prog.info? 73).map (·.size) = some 123 := by kernel_rfl
theorem segZero_size : Tryz.zeroCells73.size = 123 := by kernel_rfl
theorem segZero_one : (Tryz.zeroCells73.setIfInBounds 0 (.bool true)).all (·.oneCell') = true := by kernel_rfl
/-- The cells of a new segment. -/
def segNewRow : List Value := .bool true :: .int .i64 0 :: .slice none 0 0 :: List.replicate 120 (.int .i64 0)
theorem segZero_row : (Tryz.zeroCells73.setIfInBounds 0 (.bool true)) = segNewRow.toArray := by kernel_rfl

set_option maxRecDepth 100000 in
set_option maxHeartbeats 4000000 in
theorem segNew_any (w : World) :
    Calls Tryz.prog 27 #[] w fun e w' => e = .returned (.agg segNewRow.toArray) ∧ Below w.heap.size w w' := by
  go_enter Tryz.func27, Tryz.ntmps27
  go_wp2_with (refine wpList_store_new rfl 73 (.tmp 0) (.tmp 1) rfl _ (Tryz.zeroCells73.setIfInBounds 0 (.bool true)) rfl rfl (by rw [Array.size_setIfInBounds, segZero_size]; exact Tryz.infoSegSize) (by simp) segZero_one ?_)
  refine bodyPost_ret (v := .agg segNewRow.toArray) ?_ rfl ⟨rfl, (Below.refl _ _).alloc (Nat.le_refl _) _⟩
  rw [segZero_row]
  exact results_cell_row rfl _ _ w.heap.size 73 _ (0, 0) _ rfl (heap_alloc_new w _) Tryz.underlying73 rfl (by rw [Tryz.infoSegSize]; rfl)
end Go.Proofs.YtfpbkghcjaonlaaGreat
