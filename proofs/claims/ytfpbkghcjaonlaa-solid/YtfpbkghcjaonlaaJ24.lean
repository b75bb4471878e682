import Derived.Test.YtfpbkghcjaonlaaJ23
/-
  sixfoldlaw's player: appends, a record that is taken.
-/
namespace Go.Proofs.Ytfpbkghcjaonlaa.Sim
open Go.RowKit

set_option maxRecDepth 3000 in
set_option maxHeartbeats 8000000 in
theorem pl_appends_yes {k : Nat → Nat} {w : World} {b px : Nat} {P : PSt} (h : Pl k w b px P) (i : Nat) (hi : i < P.pens.length) (v : Int) (h0 : (P.r.append ((i : Int) + 1) v).2.2 = 0) :
    Calls Try.prog 18 #[.pointer (some ⟨b, 0, none⟩), .int .i64 ((i : Int) + 1), .int .i64 v] w fun e w' => e = .returned (.tuple #[.bool true, .bool true]) ∧ ∃ k', Evo k k' cPS w w' ∧ Pl k' w' b px (P.appended i v) := by
  have HV := hide (pl_vappend h ((i : Int) + 1) v)
  have HI := hide (h.2.appended hi v h0)
  obtain ⟨j, p, hj, hp, hov, hf4, hfo, h40, hn, hps⟩ := (goes_append h.2.inv h.2.saf ((i : Int) + 1) v).2.2 h0
  have hij : j = i := by omega
  subst hij
  have hq : P.pens[j]? = some P.pens[j] := List.getElem?_eq_getElem hi
  obtain ⟨a1, a2, a3⟩ := h.2.pen j _ p hq hp
  have h9 := h.2.p9
  have HPE : Hid (P.appended j v = { P with r := (P.r.append ((j : Int) + 1) v).1, pens := P.pens.set j { P.pens[j] with lsns := P.pens[j].lsns ++ [(baseOf p.fenced : Int) + (p.values.length : Int) + 1], values := P.pens[j].values ++ [v] } }) := hide (by unfold PSt.appended; rw [hq, hn])
  have hll : P.pens[j].lsns.length = p.values.length := by rw [a2]; simp [lsnsOf]
  have hvl : P.pens[j].values.length = p.values.length := by rw [a1]
  have hlast : ∀ x (hx : x < P.pens[j].lsns.length), P.pens[j].lsns[x] = (baseOf p.fenced : Int) + 1 + (x : Int) := fun x hx => by simp only [a2]; simp [lsnsOf]
  rw [h0, hn] at HV
  obtain ⟨z0, hbl⟩ := h.ptr
  have hb40 : (baseOf p.fenced : Int) + (p.values.length : Int) < 40 := h40
  have hb0 : (0 : Int) ≤ (baseOf p.fenced : Int) := by omega
  generalize (baseOf p.fenced : Int) = B at *
  generalize p.values.length = m at *
  clear h h0 hj hp hov hf4 hfo h40 hn hps hq a1 a2 a3
  have c1 : decide (B + (m : Int) + 1 < 1) = false := by simp; omega
  have c2 : decide (40 < B + (m : Int) + 1) = false := by simp; omega
  have hw1 : IntKind.i64.wrap ((j : Int) + 1 - 1) = j := by rw [IntKind.wrap_i64] <;> omega
  have HLL := hide (And.intro hll hvl)
  clear hll hvl
  go_enter Try.func18, Try.ntmps18
  go_wp2_with fail
  refine HV.out.mono ?_
  rintro e1 w1 ⟨rfl, k1, ev1, hx1, vP, gs, ho⟩
  clear z0 hbl HV
  have hgl : gs.length = P.pens.length := ho.len
  have hjg : j < gs.length := by omega
  obtain ⟨pa, pcap, hvp, hpl, hpc⟩ := ptrs_at ho.arr j hjg
  subst hvp
  have y3 : w1.cell? ⟨b, 3, none⟩ = some (.slice (some ⟨pa, 0, none⟩) gs.length pcap) := ho.blk.cell 3
  have hbl := ho.blk.lt
  have hpj : PlPen k1 w1 j gs[j] P.pens[j] := ho.pen j hjg hi
  obtain ⟨vl, vv, hBg, hL, hVv⟩ := hpj
  have HO := hide (And.intro ho (And.intro hx1 ev1))
  obtain ⟨la, lcap, hvl, _⟩ := hL.form
  obtain ⟨va, vcap, hvv, _⟩ := hVv.form
  subst hvl hvv
  simp only [List.length_map] at hL hVv hBg
  rw [HLL.out.1] at hL hBg
  rw [HLL.out.2] at hVv hBg
  have hjG : decide ((j : Int) < (gs.length : Int)) = true := by simp; omega
  generalize hg0 : gs[j] = g at *
  have g0 := hBg.cell 0
  have g1 := hBg.cell 1
  simp only [List.getElem?_cons_zero, List.getElem?_cons_succ] at g0 g1
  have gl := hBg.lt
  have HBg := hide (And.intro hBg (And.intro hL hVv))
  have hm40 : m ≤ 40 := by omega
  have hjn : j < 9 := by omega
  have HG := hide (And.intro hgl hg0)
  have ev2 : ∀ n : Nat, Evo k1 (fun x => if x < w1.heap.size then k1 x else 0) noC w1 (w1.alloc (Obj.cells #[.int .i64 (B + (m : Int) + 1)] 3)) := fun _ => (Evo.alloc (Evo.refl k1 noC w1) _).recolour _ (fun i hi => if_pos hi)
  have hL2 := hL.evo (ev2 0) (noC_not _)
  have hV2 := hVv.evo (ev2 0) (noC_not _)
  have hB2 := hBg.evo (ev2 0) (noC_not _)
  have HE2 := hide (ev2 0)
  clear ho hBg hL hVv hgl hg0 ev2 hx1 ev1
  generalize (fun x => if x < w1.heap.size then k1 x else 0) = k2 at *
  have fin : ∀ (ao1 cap1 w3 k3) (ao2 cap2 w5 k5), Rows k3 w3 (311 + 4 * j) 3 1 (.slice ao1 (m + 1) cap1) ((P.pens[j].lsns ++ [B + (m : Int) + 1]).map intRow) → Evo k2 k3 (fun x => x = 311 + 4 * j) (w1.alloc (Obj.cells #[.int .i64 (B + (m : Int) + 1)] 3)) w3 →
      Rows k5 w5 (312 + 4 * j) 3 1 (.slice ao2 (m + 1) cap2) ((P.pens[j].values ++ [v]).map intRow) → Evo k3 k5 (fun x => x = 312 + 4 * j) ((w3.setCell ⟨g, 0, none⟩ (.slice ao1 (m + 1) cap1)).alloc (Obj.cells #[.int .i64 v] 3)) w5 →
      ∃ k', Evo k k' cPS w (w5.setCell ⟨g, 1, none⟩ (.slice ao2 (m + 1) cap2)) ∧ Pl k' (w5.setCell ⟨g, 1, none⟩ (.slice ao2 (m + 1) cap2)) b px (P.appended j v) := by
    intro ao1 cap1 w3 k3 ao2 cap2 w5 k5 hR3 hE3 hR5 hE5
    obtain ⟨ho, hx1, ev1⟩ := HO.out
    obtain ⟨hgl, hg0⟩ := HG.out
    have hB3 := hB2.evo hE3 (by omega)
    have hB3' := hB3.set 0 (.slice ao1 (m + 1) cap1)
    simp only [List.set_cons_zero] at hB3'
    have E3s : Evo k3 k3 (fun c => c = 310 + 4 * j) w3 (w3.setCell ⟨g, 0, none⟩ (.slice ao1 (m + 1) cap1)) := (Evo.refl _ _ _).setCell _ _ (fun _ => hB3.2)
    have hR3' := hR3.evo E3s (by omega)
    have E4 : Evo k3 k3 noC (w3.setCell ⟨g, 0, none⟩ (.slice ao1 (m + 1) cap1)) ((w3.setCell ⟨g, 0, none⟩ (.slice ao1 (m + 1) cap1)).alloc (Obj.cells #[.int .i64 v] 3)) := (Evo.refl _ _ _).alloc _
    have hB4 := hB3'.evo E4 (noC_not _)
    have hR4 := hR3'.evo E4 (noC_not _)
    have hB5 := hB4.evo hE5 (by omega)
    have hR5' := hR4.evo hE5 (by omega)
    have hB6 := hB5.set 1 (.slice ao2 (m + 1) cap2)
    simp only [List.set_cons_zero, List.set_cons_succ] at hB6
    have E6 : Evo k5 k5 (fun c => c = 310 + 4 * j) w5 (w5.setCell ⟨g, 1, none⟩ (.slice ao2 (m + 1) cap2)) := (Evo.refl _ _ _).setCell _ _ (fun _ => hB5.2)
    have hR6 := hR5'.evo E6 (by omega)
    have hR7 := hR5.evo E6 (by omega)
    have evA : Evo k1 k5 (fun c => 310 + 4 * j ≤ c ∧ c ≤ 312 + 4 * j) w1 (w5.setCell ⟨g, 1, none⟩ (.slice ao2 (m + 1) cap2)) :=
      ((HE2.out.mono (fun _ h => h.elim)).trans (hE3.mono (fun c h => by omega))).trans (((E3s.mono (fun c h => by omega)).trans (E4.mono (fun _ h => h.elim))).trans ((hE5.mono (fun c h => by omega)).trans (E6.mono (fun c h => by omega))))
    refine ⟨k5, (ev1.mono (fun c h => by unfold cXS at h; unfold cPS; omega)).trans (evA.mono (fun c h => by unfold cPS; omega)), ?_, HI.out⟩
    rw [HPE.out]
    refine ⟨hx1.evo evA (by unfold IM; omega) (fun c a b => by omega), _, gs, ho.blk.evo evA (by omega), ho.arr.evo evA (by omega), by simp only [List.length_set]; exact hgl, fun x a c => ?_⟩
    simp only at c
    by_cases e : j = x
    · subst e
      simp only [List.getElem_set_self]
      rw [hg0]
      exact ⟨_, _, hB6, hR6, hR7⟩
    · simp only [List.getElem_set_ne e]
      obtain ⟨ul, uv, q1, q2, q3⟩ := ho.pen x a (show x < P.pens.length by simpa using c)
      exact ⟨ul, uv, q1.evo evA (by omega), q2.evo evA (by omega), q3.evo evA (by omega)⟩
  have FIN := hide fin
  clear fin
  have HRL : Hid ((P.pens[j].lsns.map intRow).length = m ∧ (P.pens[j].values.map intRow).length = m) := hide ⟨by simpa using HLL.out.1, by simpa using HLL.out.2⟩
  by_cases hm0 : m = 0
  · have d3 : decide ((0 : Int) < (m : Int)) = false := by simp; omega
    have d4 : decide (0 < m) = false := by simp; omega
    have d5 : ¬ 0 < m := by omega
    clear hm0 hlast
    go_wp2_with (at_builtin; first
      | (refine wpList_append_rows k2 (311 + 4 * j) (.tmp 82) (.tmp 84) 38 3 _ 1 8 _ (P.pens[j].lsns.map intRow) [intRow (B + (m : Int) + 1)] m ⟨w1.heap.size, 0, none⟩ 1 1 HRL.out.1 rfl rfl Try.underlying38 Try.infoInt rfl (by decide) rfl rfl hL2 rfl (by simp [intRow]) (by simpa [intRow] using cell_one_new' w1 [.int .i64 (B + (m : Int) + 1)] 3) (by simp [intRow, Value.oneCell']) (by simp only [maxLen]; omega) (by omega) ?_; intro ao1 cap1 w3 k3 hR3 hE3; have hB3 := hB2.evo hE3 (by omega); have x0 : w3.cell? ⟨g, 0, none⟩ = some (.slice la m lcap) := hB3.cell 0; have x1 : w3.cell? ⟨g, 1, none⟩ = some (.slice va m vcap) := hB3.cell 1; have xf := hB3.free 0; have hgl3 := hB3.lt; have hV4 := ((hV2.evo hE3 (by omega)).other ⟨g, 0, none⟩ (.slice ao1 (m + 1) cap1) (by show k3 g ≠ _; rw [hB3.2]; omega)).alloc (Obj.cells #[.int .i64 v] 3); have hB4 := ((hB3.set 0 (.slice ao1 (m + 1) cap1)).evo ((Evo.refl k3 noC _).alloc (Obj.cells #[.int .i64 v] 3)) (noC_not _)))
      | (refine wpList_append_rows k3 (312 + 4 * j) (.tmp 92) (.tmp 94) 38 3 _ 1 8 _ (P.pens[j].values.map intRow) [intRow v] m ⟨w3.heap.size, 0, none⟩ 1 1 HRL.out.2 rfl rfl Try.underlying38 Try.infoInt rfl (by decide) rfl rfl hV4 rfl (by simp [intRow]) (by simpa [intRow] using cell_one_new' (w3.setCell ⟨g, 0, none⟩ (.slice ao1 (m + 1) cap1)) [.int .i64 v] 3) (by simp [intRow, Value.oneCell']) (by simp only [maxLen]; omega) (by omega) ?_; intro ao2 cap2 w5 k5 hR5 hE5; have hB5 := hB4.evo hE5 (by omega); have u1 : w5.cell? ⟨g, 1, none⟩ = some (.slice va m vcap) := hB5.cell 1; have uf := hB5.free 1; have hgl5 := hB5.lt))
    go_ret2
    exact ⟨rfl, FIN.out ao1 cap1 w3 k3 ao2 cap2 w5 k5 (by simpa using hR3) hE3 (by simpa using hR5) hE5⟩
  · have d3 : decide ((0 : Int) < (m : Int)) = true := by simp; omega
    have d4 : decide (0 < m) = true := by simp; omega
    have d5 : 0 < m := by omega
    obtain ⟨lg, hla, hlgl, hlc⟩ := ints_last HBg.out.2.1 (m - 1) (by rw [HLL.out.1]; omega)
    rw [hlast] at hlc
    subst hla
    have hwm : IntKind.i64.wrap ((m : Int) - 1) = ((m - 1 : Nat) : Int) := by rw [IntKind.wrap_i64] <;> omega
    have hwn : IntKind.i64.wrap (B + 1 + ((m - 1 : Nat) : Int) + 1) = B + (m : Int) + 1 := by rw [IntKind.wrap_i64] <;> omega
    have hmi : decide (((m - 1 : Nat) : Int) < (m : Int)) = true := by simp; omega
    have hmi2 : m - 1 < m := by omega
    generalize m - 1 = m' at *
    clear hm0 hlast
    go_wp2_with (at_builtin; first
      | (refine wpList_append_rows k2 (311 + 4 * j) (.tmp 82) (.tmp 84) 38 3 _ 1 8 _ (P.pens[j].lsns.map intRow) [intRow (B + (m : Int) + 1)] m ⟨w1.heap.size, 0, none⟩ 1 1 HRL.out.1 rfl rfl Try.underlying38 Try.infoInt rfl (by decide) rfl rfl hL2 rfl (by simp [intRow]) (by simpa [intRow] using cell_one_new' w1 [.int .i64 (B + (m : Int) + 1)] 3) (by simp [intRow, Value.oneCell']) (by simp only [maxLen]; omega) (by omega) ?_; intro ao1 cap1 w3 k3 hR3 hE3; have hB3 := hB2.evo hE3 (by omega); have x0 : w3.cell? ⟨g, 0, none⟩ = some (.slice (some ⟨lg, 0, none⟩) m lcap) := hB3.cell 0; have x1 : w3.cell? ⟨g, 1, none⟩ = some (.slice va m vcap) := hB3.cell 1; have xf := hB3.free 0; have hgl3 := hB3.lt; have hV4 := ((hV2.evo hE3 (by omega)).other ⟨g, 0, none⟩ (.slice ao1 (m + 1) cap1) (by show k3 g ≠ _; rw [hB3.2]; omega)).alloc (Obj.cells #[.int .i64 v] 3); have hB4 := ((hB3.set 0 (.slice ao1 (m + 1) cap1)).evo ((Evo.refl k3 noC _).alloc (Obj.cells #[.int .i64 v] 3)) (noC_not _)))
      | (refine wpList_append_rows k3 (312 + 4 * j) (.tmp 92) (.tmp 94) 38 3 _ 1 8 _ (P.pens[j].values.map intRow) [intRow v] m ⟨w3.heap.size, 0, none⟩ 1 1 HRL.out.2 rfl rfl Try.underlying38 Try.infoInt rfl (by decide) rfl rfl hV4 rfl (by simp [intRow]) (by simpa [intRow] using cell_one_new' (w3.setCell ⟨g, 0, none⟩ (.slice ao1 (m + 1) cap1)) [.int .i64 v] 3) (by simp [intRow, Value.oneCell']) (by simp only [maxLen]; omega) (by omega) ?_; intro ao2 cap2 w5 k5 hR5 hE5; have hB5 := hB4.evo hE5 (by omega); have u1 : w5.cell? ⟨g, 1, none⟩ = some (.slice va m vcap) := hB5.cell 1; have uf := hB5.free 1; have hgl5 := hB5.lt))
    go_ret2
    exact ⟨rfl, FIN.out ao1 cap1 w3 k3 ao2 cap2 w5 k5 (by simpa using hR3) hE3 (by simpa using hR5) hE5⟩
end Go.Proofs.Ytfpbkghcjaonlaa.Sim

/-
  sixfoldlaw's player: written, reads.
-/
namespace Go.Proofs.Ytfpbkghcjaonlaa.Sim
open Go.RowKit

/-- The cells of a list of numbers. -/
def IntsAt (w : World) (a : Option Addr) (l : List Int) : Prop := ∀ x (hx : x < l.length), ∃ lg, a = some ⟨lg, 0, none⟩ ∧ lg < w.heap.size ∧ w.cell? ⟨lg, x, none⟩ = some (.int .i64 l[x])
structure PenAt (w : World) (g : Nat) (q : PPen) (la : Option Addr) (lcap : Nat) (va : Option Addr) (vcap : Nat) : Prop where
  lt : g < w.heap.size
  c0 : w.cell? ⟨g, 0, none⟩ = some (.slice la q.lsns.length lcap)
  c1 : w.cell? ⟨g, 1, none⟩ = some (.slice va q.values.length vcap)
  c2 : w.cell? ⟨g, 2, none⟩ = some (.int .i64 q.last.phase)
  c3 : w.cell? ⟨g, 3, none⟩ = some (.int .i64 q.last.base)
  c4 : w.cell? ⟨g, 4, none⟩ = some (.int .i64 q.last.next)
  c5 : w.cell? ⟨g, 5, none⟩ = some (.int .i64 q.last.dur)
  ls : IntsAt w la q.lsns
  vs : IntsAt w va q.values
theorem ints_at {k : Nat → Nat} {w : World} {c : Nat} {v : Value} {l : List Int} (h : Rows k w c 3 1 v (l.map intRow)) : ∃ a cap, v = .slice a l.length cap ∧ IntsAt w a l := by
  obtain ⟨a, cap, he, _⟩ := h.form
  simp only [List.length_map] at he
  subst he
  exact ⟨a, cap, rfl, fun x hx => ints_last h x hx⟩
theorem Pl.arr {k : Nat → Nat} {w : World} {b px : Nat} {P : PSt} (h : Pl k w b px P) : ∃ a cap, w.cell? ⟨b, 3, none⟩ = some (.slice a P.pens.length cap) ∧ b < w.heap.size ∧
    ∀ j (hj : j < P.pens.length), ∃ pa g la lcap va vcap, a = some ⟨pa, 0, none⟩ ∧ pa < w.heap.size ∧ w.cell? ⟨pa, j, none⟩ = some (.pointer (some ⟨g, 0, none⟩)) ∧ PenAt w g P.pens[j] la lcap va vcap := by
  obtain ⟨vP, gs, ho⟩ := h.1.2
  have hl := ho.len
  obtain ⟨a, cap, hv, _⟩ := ho.arr.form
  simp only [List.length_map] at hv
  subst hv
  refine ⟨a, cap, ?_, ho.blk.lt, fun j hj => ?_⟩
  · rw [← hl]; exact ho.blk.cell 3
  · obtain ⟨pa, cap2, he, h1, h2⟩ := ptrs_at ho.arr j (by omega)
    obtain ⟨vl, vv, q1, q2, q3⟩ := ho.pen j (by omega) hj
    obtain ⟨la, lcap, rfl, hL⟩ := ints_at q2
    obtain ⟨va, vcap, rfl, hV⟩ := ints_at q3
    simp only [Value.slice.injEq] at he
    exact ⟨pa, gs[j], la, lcap, va, vcap, he.1, h1, h2, q1.lt, q1.cell 0, q1.cell 1, q1.cell 2, q1.cell 3, q1.cell 4, q1.cell 5, hL, hV⟩
theorem PlInv.lens {P : PSt} (h : PlInv P) (j : Nat) (hj : j < P.pens.length) : P.pens[j].lsns.length = P.pens[j].values.length ∧ P.pens[j].values.length ≤ 40 := by
  have hl := h.len
  obtain ⟨e1, e2, _⟩ := h.pen j _ _ (List.getElem?_eq_getElem hj) (List.getElem?_eq_getElem (show j < P.r.pens.length by omega))
  have := (h.inv.pens j _ (List.getElem?_eq_getElem (show j < P.r.pens.length by omega))).n40
  rw [e2, e1]
  constructor
  · simp [lsnsOf]
  · omega

set_option maxRecDepth 3000 in
set_option maxHeartbeats 8000000 in
theorem written_any {k : Nat → Nat} {w : World} {b px : Nat} {P : PSt} (h : Pl k w b px P) (lsn v : Int) (i0 j0 : Nat) (hi0 : i0 < P.pens.length) (hj0 : j0 < P.pens[i0].lsns.length) (hv0 : j0 < P.pens[i0].values.length) (e1 : P.pens[i0].lsns[j0] = lsn) (e2 : P.pens[i0].values[j0] = v) :
    Calls Try.prog 36 #[.pointer (some ⟨b, 0, none⟩), .int .i64 lsn, .int .i64 v] w fun e w' => e = .returned (.bool true) ∧ w' = w := by
  have h9 := h.2.p9
  have HL := hide h.2.lens
  obtain ⟨a, cap, y3, hbl, hall⟩ := h.arr
  have HA := hide hall
  have HE : Hid (∀ x (hx : x < P.pens.length) c (hc : c < P.pens[x].lsns.length) (hv : c < P.pens[x].values.length), x = i0 → c = j0 → P.pens[x].lsns[c] = lsn ∧ P.pens[x].values[c] = v) := hide (by
    intro x hx c hc hv hx0 hc0
    subst hx0 hc0
    exact ⟨e1, e2⟩)
  have HJ : Hid (∀ x (hx : x < P.pens.length), x = i0 → j0 < P.pens[x].lsns.length) := hide (by
    intro x hx hx0
    subst hx0
    exact hj0)
  clear h hall e1 e2 hj0 hv0
  go_enter Try.func36, Try.ntmps36
  go_wp2_with fail
  go_loopw [7] (fun i wr => wr = w ∧ ∃ j : Nat, j ≤ i0 ∧ i = .int .i64 j) (fun i _ => P.pens.length - (intOf i).toNat)
  case atStart => exact ⟨rfl, 0, Nat.zero_le _, rfl⟩
  case round =>
    obtain ⟨rfl, x, hx, rfl⟩ := hrel
    have hxl : x < P.pens.length := by omega
    have hd : decide ((x : Int) < (P.pens.length : Int)) = true := by simp; omega
    obtain ⟨pa, g, la, lcap, va, vcap, rfl, hpl, hpc, hg⟩ := HA.out x hxl
    have hll := HL.out x hxl
    have gl := hg.lt
    have g0 := hg.c0
    have g1 := hg.c1
    have HLs := hide hg.ls
    have HVs := hide hg.vs
    have HE' := hide (HE.out x hxl)
    have HJ' := hide (HJ.out x hxl)
    generalize P.pens[x] = q at *
    obtain ⟨m, hm⟩ : ∃ m, m = q.lsns.length := ⟨_, rfl⟩
    rw [← hll.1, ← hm] at g1
    rw [← hm] at g0
    have hm40 : m ≤ 40 := by omega
    have HM := hide (And.intro hm (hll.1.symm.trans hm.symm))
    clear hm hll hg
    obtain ⟨W1, hW1⟩ : ∃ W1, W1 = wr := ⟨_, rfl⟩
    subst hW1
    go_wp2_with fail
    go_loopw [8] (fun i wr => wr = W1 ∧ ∃ j : Nat, j ≤ m ∧ i = .int .i64 j ∧ (x = i0 → j ≤ j0)) (fun i _ => m - (intOf i).toNat)
    case atStart => exact ⟨rfl, 0, Nat.zero_le _, rfl, fun _ => Nat.zero_le _⟩
    case round =>
      obtain ⟨rfl, c, hc, rfl, hcj⟩ := hrel
      by_cases hcm : c < m
      · have hd2 : decide ((c : Int) < (m : Int)) = true := by simp; omega
        obtain ⟨lg, rfl, hlg, hlc⟩ := HLs.out c (by rw [← HM.out.1]; exact hcm)
        obtain ⟨vg, rfl, hvg, hvc⟩ := HVs.out c (by rw [HM.out.2]; exact hcm)
        have HX := hide (HE'.out c (by rw [← HM.out.1]; exact hcm) (by rw [HM.out.2]; exact hcm))
        generalize q.lsns[c]'(by rw [← HM.out.1]; exact hcm) = lc at *
        generalize q.values[c]'(by rw [HM.out.2]; exact hcm) = vc at *
        cases d1 : (lc == lsn)
        · have HN : Hid (x = i0 → c + 1 ≤ j0) := hide (fun hx0 => by
            have h1 := hcj hx0
            have : c ≠ j0 := fun hc0 => by
              have := (HX.out hx0 hc0).1
              rw [this] at d1
              simp at d1
            omega)
          go_wp2_with fail
          go_roundw
          case rel => exact ⟨trivial, c + 1, by omega, by go_num, HN.out⟩
          case measure => simp [intOf]; omega
        · cases d2 : (vc == v)
          · have HN : Hid (x = i0 → c + 1 ≤ j0) := hide (fun hx0 => by
              have h1 := hcj hx0
              have : c ≠ j0 := fun hc0 => by
                have := (HX.out hx0 hc0).2
                rw [this] at d2
                simp at d2
              omega)
            go_wp2_with fail
            go_roundw
            case rel => exact ⟨trivial, c + 1, by omega, by go_num, HN.out⟩
            case measure => simp [intOf]; omega
          · go_wp2_with fail
            go_ret
            exact ⟨rfl, rfl⟩
      · have hd2 : decide ((c : Int) < (m : Int)) = false := by simp; omega
        have hxi : x + 1 ≤ i0 := by
          have : x ≠ i0 := fun hx0 => by
            have h1 := hcj hx0
            have h2 := HJ'.out hx0
            rw [← HM.out.1] at h2
            omega
          omega
        go_wp2_with fail
        go_roundw
        case rel => exact ⟨trivial, x + 1, hxi, by go_num⟩
        case measure => simp [intOf]; omega
end Go.Proofs.Ytfpbkghcjaonlaa.Sim

/-
  sixfoldlaw's player: reads.
-/
namespace Go.Proofs.Ytfpbkghcjaonlaa.Sim
open Go.RowKit

theorem PlInv.swear {P : PSt} (h : PlInv P) {n : Nat} {v : Int} (ho : Once P.r n v) (hn : n ≤ 40) : PlInv (P.swear n v) := by
  have hs := h.sl
  have hv := h.vl
  refine ⟨h.inv, h.saf, h.len, h.pen, by simp [PSt.swear, h.sl], by simp [PSt.swear, h.vl], fun x hx => ?_⟩
  by_cases e : n = x
  · subst e
    exact ⟨v, by simp only [PSt.swear]; rw [List.getElem?_set_self (by omega)], ho⟩
  · simp only [PSt.swear] at hx ⊢
    rw [List.getElem?_set_ne e] at hx ⊢
    exact h.sw x hx
theorem PlInv.one {P : PSt} (h : PlInv P) {n : Nat} {v : Int} (ho : Once P.r n v) : P.sworn[n]? = some true → P.value[n]? = some v := by
  intro hs
  obtain ⟨x, h1, h2⟩ := h.sw n hs
  rw [h1, h2.uniq h.inv h.saf ho]
theorem once40 {r : RVol} (h : Inv r) {n : Nat} {v : Int} (ho : Once r n v) : 1 ≤ n ∧ n ≤ 40 := by
  obtain ⟨h1, i, p, hp, hd, _⟩ := ho
  have := (h.pens i p hp).bounds
  omega
theorem rec_written {P : PSt} (h : PlInv P) {ep n v : Int} (hr : RecInv P.r.pens ep n v) : ∃ (i0 j0 : Nat) (hi : i0 < P.pens.length) (hj : j0 < P.pens[i0].lsns.length) (hv : j0 < P.pens[i0].values.length), ep = (i0 : Int) + 1 ∧ P.pens[i0].lsns[j0] = n ∧ P.pens[i0].values[j0] = v := by
  obtain ⟨h1, h40, p, ⟨i, hn, hp, h4⟩, hb, hvv⟩ := hr
  have hil := (List.getElem?_eq_some_iff.1 hp).1
  have hl := h.len
  have hi : i < P.pens.length := by omega
  obtain ⟨e1, e2, _⟩ := h.pen i _ p (List.getElem?_eq_getElem hi) hp
  obtain ⟨hj, hve⟩ := List.getElem?_eq_some_iff.1 hvv
  have hlen : (lsnsOf p).length = p.values.length := by simp [lsnsOf]
  refine ⟨i, (n - (baseOf p.fenced : Int) - 1).toNat, hi, by rw [e2, hlen]; exact hj, by rw [e1]; exact hj, hn, ?_, ?_⟩
  · simp only [e2]
    simp only [lsnsOf, List.getElem_map, List.getElem_range]
    omega
  · simp only [e1]; exact hve

theorem read_errs {r : RVol} {i : Nat} (hi : i < r.pens.length) (lsn : Int) (h0 : (r.read ((i : Int) + 1) lsn).2.2 ≠ 0) : (r.read ((i : Int) + 1) lsn).2.1 = 0 ∧ ((r.read ((i : Int) + 1) lsn).2.2 = 4 ∨ (r.read ((i : Int) + 1) lsn).2.2 = 5 ∨ (r.read ((i : Int) + 1) lsn).2.2 = 8 ∨ (r.read ((i : Int) + 1) lsn).2.2 = 9) := by
  have hm : r.may ((i : Int) + 1) = (r.pens[i].stands, if r.pens[i].stands.phase = 4 then 4 else 0) := by
    unfold RVol.may writerAt
    rw [if_neg (by omega), show ((i : Int) + 1).toNat - 1 = i from by omega, List.getElem?_eq_getElem hi]
  revert h0
  unfold RVol.read
  rw [hm]
  simp only
  by_cases hp : r.pens[i].stands.phase = 4
  · rw [if_pos hp, if_pos (by decide)]; simp
  · rw [if_neg hp, if_neg (by decide)]
    split
    · simp
    · split
      · simp
      · split
        · simp
        · unfold RVol.readOf
          split
          · simp
          · split <;> simp

def PSt.readsP (P : PSt) (i : Nat) (lsn : Int) : PSt := if (P.r.read ((i : Int) + 1) lsn).2.2 = 0 then (P.vol (P.r.read ((i : Int) + 1) lsn).1).swear lsn.toNat (P.r.read ((i : Int) + 1) lsn).2.1 else P.vol (P.r.read ((i : Int) + 1) lsn).1

set_option maxHeartbeats 4000000 in
theorem pl_reads {k : Nat → Nat} {w : World} {b px : Nat} {P : PSt} (h : Pl k w b px P) (i : Nat) (hi : i < P.pens.length) (lsn : Int) :
    Calls Try.prog 33 #[.pointer (some ⟨b, 0, none⟩), .int .i64 ((i : Int) + 1), .int .i64 lsn] w fun e w' => e = .returned (.bool true) ∧ ∃ k', Evo k k' cPS w w' ∧ Pl k' w' b px (P.readsP i lsn) := by
  have HV := hide (pl_read h ((i : Int) + 1) lsn)
  have hl := h.2.len
  obtain ⟨z0, hbl⟩ := h.ptr
  by_cases h0 : (P.r.read ((i : Int) + 1) lsn).2.2 = 0
  · obtain ⟨a, p, m, hn, rfl, hr, hp, h1, hd, hval⟩ := read_val h.2.inv h.2.saf h0
    have hai : a = i := by omega
    subst hai
    have ho : Once P.r m (P.r.read ((a : Int) + 1) (m : Int)).2.1 := ⟨h1, a, p, hp, hd, hval⟩
    have h40 := once40 h.2.inv ho
    have HP : Hid (P.readsP a (m : Int) = P.swear m (P.r.read ((a : Int) + 1) (m : Int)).2.1) := hide (by
      unfold PSt.readsP
      rw [if_pos h0, hr, Int.toNat_natCast]; rfl)
    rw [h0, hr] at HV
    have HO := hide ho
    obtain ⟨_, ep, _, _, hrec⟩ := hval
    obtain ⟨i0, j0, q1, q2, q3, _, q4, q5⟩ := rec_written h.2 hrec
    generalize (P.r.read ((a : Int) + 1) (m : Int)).2.1 = v at *
    have HW : Hid (∀ k' w', Pl k' w' b px P → Calls Try.prog 36 #[.pointer (some ⟨b, 0, none⟩), .int .i64 m, .int .i64 v] w' fun e w'' => e = .returned (.bool true) ∧ w'' = w') := hide fun k' w' h' => written_any h' (m : Int) v i0 j0 q1 q2 q3 q4 q5
    have HS : Hid (∀ k' w', Pl k' w' b px P → Calls Try.prog 37 #[.pointer (some ⟨b, 0, none⟩), .int .i64 m, .int .i64 v] w' fun e w'' => e = .returned (.bool true) ∧ Evo k' k' (fun c => c = 300) w' w'' ∧ Pl k' w'' b px (P.swear m v)) := hide fun k' w' h' => (swear_any h'.1 h'.2.sl h'.2.vl h'.2.p9 m h40.1 h40.2 v (h'.2.one HO.out)).mono (fun e w'' ⟨e1, e2, e3⟩ => ⟨e1, e2, e3, h'.2.swear HO.out h40.2⟩)
    clear h h0 hr hp hd hrec q1 q2 q3 q4 q5 h1 h40 ho hl hn
    go_enter Try.func33, Try.ntmps33
    go_wp2_with fail
    refine HV.out.mono ?_
    rintro e1 w1 ⟨rfl, k1, ev1, hp1⟩
    have hp1 : Pl k1 w1 b px P := hp1
    go_wp2_with fail
    refine (HW.out k1 w1 hp1).mono ?_
    rintro e2 w2 ⟨rfl, rfl⟩
    go_wp2_with fail
    refine (HS.out k1 w2 hp1).mono ?_
    rintro e3 w3 ⟨rfl, ev3, hp3⟩
    go_wp2_with fail
    go_ret
    exact ⟨rfl, k1, (ev1.mono (fun c h => by unfold cXS at h; unfold cPS; omega)).trans (ev3.mono (fun c h => by unfold cPS; omega)), by rw [HP.out]; exact hp3⟩
  · obtain ⟨e1, e2⟩ := read_errs (by omega) lsn h0
    have HP : Hid (P.readsP i lsn = P.vol (P.r.read ((i : Int) + 1) lsn).1) := hide (by unfold PSt.readsP; rw [if_neg h0])
    rw [e1] at HV
    generalize (P.r.read ((i : Int) + 1) lsn).2.2 = er at *
    clear h h0 e1 hl
    rcases e2 with rfl | rfl | rfl | rfl
    all_goals
      go_enter Try.func33, Try.ntmps33
      go_wp2_with fail
      refine HV.out.mono ?_
      rintro e1 w1 ⟨rfl, k1, ev1, hp1⟩
      go_wp2_with fail
      go_ret
      exact ⟨rfl, k1, ev1.mono (fun c h => by unfold cXS at h; unfold cPS; omega), by rw [HP.out]; exact hp1⟩
end Go.Proofs.Ytfpbkghcjaonlaa.Sim

/-
  sixfoldlaw's player: asks.
-/
namespace Go.Proofs.Ytfpbkghcjaonlaa.Sim
open Go.RowKit

theorem stands_ok {r : RVol} (h : Inv r) (sf : Saf r) {i : Nat} {p : RPen} (hp : r.pens[i]? = some p) : WOk r.wi p.stands ∧ p.stands.next = p.stands.base + (p.values.length : Int) ∧ (p.values ≠ [] → p.stands.base = (baseOf p.fenced : Int)) := by
  have hpi := h.pens i p hp
  have h40 := hpi.n40
  have hb := hpi.bounds
  have hov := sf.ov p (List.mem_of_getElem? hp)
  rcases hpi.cases with ⟨ho, h4⟩ | ⟨_, hf, h5⟩ | ⟨_, _, hf, h5⟩ | ⟨_, h4, hf, h5⟩
  · rw [stands_over ho] at hb h4 ⊢
    simp only at hb h4 ⊢
    by_cases hl : p.fenced.length < 4
    · obtain ⟨e1, e2, e3⟩ := hov.few ho hl
      have hv := (hpi.few hl).2
      rw [e1, e2, e3, hv, h4]
      refine ⟨⟨by decide, fun h => by simp at h, fun h => by simp at h, fun h => by simp at h, fun _ => ⟨by decide, by decide⟩, by decide⟩, by simp, fun h => by simp at h⟩
    · obtain ⟨e1, e2, e3⟩ := hov.many ho (by omega)
      rw [e1, e2, h4]
      rw [e1] at hb
      refine ⟨⟨by simp, fun h => by simp at h, fun h => by simp at h, fun h => by simp at h, fun _ => ⟨by simp only; omega, by simp only; omega⟩, by simp only; omega⟩, rfl, fun _ => rfl⟩
  · have hv := (hpi.few hf).2
    rw [h5, hv]
    exact ⟨⟨by decide, fun _ => ⟨rfl, rfl, rfl⟩, fun h => by simp at h, fun h => by simp at h, fun h => by simp at h, by decide⟩, by simp, fun h => by simp at h⟩
  · have hv := hpi.shut hf
    rw [h5, hv]
    refine ⟨⟨by simp, fun h => by simp at h, fun _ => ⟨by simp, rfl⟩, fun h => by simp at h, fun h => by simp at h, by simp only [List.length_nil]; omega⟩, by simp, fun h => by simp at h⟩
  · have hd := durUp_spec p.status (baseOf p.fenced) p.values.length hf
    have hw := hpi.win (by omega) hf
    rw [h5]
    refine ⟨⟨by simp, fun h => by simp at h, fun h => by simp at h, fun _ => by simp only; omega, fun h => by simp at h, by simp only; omega⟩, rfl, fun _ => rfl⟩

theorem evo_cell {k k' : Nat → Nat} {C : Nat → Prop} {w w' : World} (ev : Evo k k' C w w') {g : Nat} (hg : g < w.heap.size) (hc : ¬ C (k g)) (o : Nat) : w'.cell? ⟨g, o, none⟩ = w.cell? ⟨g, o, none⟩ := by
  unfold World.cell?
  rw [ev.keep g hg hc]
def PSt.told (P : PSt) (i : Nat) (x : WSt) : PSt := { P with pens := match P.pens[i]? with | some q => P.pens.set i { q with last := x } | none => P.pens }
theorem told_eq {P : PSt} {i : Nat} (hi : i < P.pens.length) (x : WSt) : (P.told i x).pens = P.pens.set i { P.pens[i] with last := x } := by unfold PSt.told; rw [List.getElem?_eq_getElem hi]
theorem PlInv.told {P : PSt} (h : PlInv P) {i : Nat} {p : RPen} (hi : i < P.pens.length) (hp : P.r.pens[i]? = some p) : PlInv (P.told i p.stands) := by
  have he := told_eq hi p.stands
  refine ⟨h.inv, h.saf, by rw [he, List.length_set]; exact h.len, fun j q p' hq hp' => ?_, h.sl, h.vl, h.sw⟩
  rw [he] at hq
  have hp' : P.r.pens[j]? = some p' := hp'
  by_cases e : i = j
  · subst e
    rw [List.getElem?_set_self hi] at hq
    have e1 := Option.some.inj hq
    rw [hp] at hp'
    have e2 := Option.some.inj hp'
    subst e1 e2
    obtain ⟨a, c, _⟩ := h.pen i _ p (List.getElem?_eq_getElem hi) hp
    exact ⟨a, c, WGo.refl _⟩
  · rw [List.getElem?_set_ne e] at hq
    exact h.pen j q p' hq hp'
theorem Pl.told {k : Nat → Nat} {w : World} {b px : Nat} {P : PSt} (h : Pl k w b px P) {i : Nat} {p : RPen} (hi : i < P.pens.length) (hp : P.r.pens[i]? = some p) {g : Nat} {vl vv : Value} {vP : Value} {gs : List Nat} (ho : PlOwn k w b px vP gs P) (hgi : i < gs.length) (hg : gs[i] = g)
    (hB : Blk k w (310 + 4 * i) g 40 (vl :: vv :: stCells P.pens[i].last)) (hL : Rows k w (311 + 4 * i) 3 1 vl (P.pens[i].lsns.map intRow)) (hV : Rows k w (312 + 4 * i) 3 1 vv (P.pens[i].values.map intRow)) (x : WSt) (hx : x = p.stands) :
    ∀ W, W = ((((w.setCell ⟨g, 2, none⟩ (.int .i64 x.phase)).setCell ⟨g, 3, none⟩ (.int .i64 x.base)).setCell ⟨g, 4, none⟩ (.int .i64 x.next)).setCell ⟨g, 5, none⟩ (.int .i64 x.dur)) →
    Evo k k (fun c => c = 310 + 4 * i) w W ∧ Blk k W (310 + 4 * i) g 40 (vl :: vv :: stCells x) ∧ Rows k W (311 + 4 * i) 3 1 vl (P.pens[i].lsns.map intRow) ∧ Rows k W (312 + 4 * i) 3 1 vv (P.pens[i].values.map intRow) ∧ Pl k W b px (P.told i x) := by
  intro W hW
  have h9 := h.2.p9
  have hB' := (((hB.set 2 (.int .i64 x.phase)).set 3 (.int .i64 x.base)).set 4 (.int .i64 x.next)).set 5 (.int .i64 x.dur)
  simp only [stCells, List.set_cons_zero, List.set_cons_succ] at hB'
  rw [← hW] at hB'
  have ev : Evo k k (fun c => c = 310 + 4 * i) w W := by
    rw [hW]
    exact ((((Evo.refl k _ w).setCell _ _ (fun _ => hB.2)).setCell _ _ (fun _ => hB.2)).setCell _ _ (fun _ => hB.2)).setCell _ _ (fun _ => hB.2)
  have hL' := hL.evo ev (by omega)
  have hV' := hV.evo ev (by omega)
  refine ⟨ev, hB', hL', hV', ⟨h.1.1.evo ev (by unfold IM; omega) (fun c a b => by omega), vP, gs, ho.blk.evo ev (by omega), ho.arr.evo ev (by omega), by rw [told_eq hi, List.length_set]; exact ho.len, fun j a c => ?_⟩, by rw [hx]; exact h.2.told hi hp⟩
  by_cases e : i = j
  · subst e
    have : (P.told i x).pens[i] = { P.pens[i] with last := x } := by simp only [told_eq hi]; simp
    rw [this, hg]
    exact ⟨_, _, hB', hL', hV'⟩
  · have c' : j < P.pens.length := by rw [told_eq hi, List.length_set] at c; exact c
    have : (P.told i x).pens[j] = P.pens[j] := by simp only [told_eq hi]; rw [List.getElem_set_ne e]
    rw [this]
    obtain ⟨ul, uv, q1, q2, q3⟩ := ho.pen j a c'
    exact ⟨ul, uv, q1.evo ev (by omega), q2.evo ev (by omega), q3.evo ev (by omega)⟩

set_option maxRecDepth 3000 in
set_option maxHeartbeats 16000000 in
theorem pl_asks {k : Nat → Nat} {w : World} {b px : Nat} {P : PSt} (h : Pl k w b px P) (i : Nat) (hi : i < P.pens.length) (p : RPen) (hp : P.r.pens[i]? = some p) :
    Calls Try.prog 34 #[.pointer (some ⟨b, 0, none⟩), .int .i64 ((i : Int) + 1)] w fun e w' => e = .returned (.bool true) ∧ ∃ k' P', Evo k k' cPS w w' ∧ Pl k' w' b px P' ∧ P'.r = P.r ∧ P'.pens = (P.told i p.stands).pens ∧ P'.most = P.most := by
  have HV := hide (pl_writer h i p hp)
  obtain ⟨hok, hnx, hbs⟩ := stands_ok h.2.inv h.2.saf hp
  obtain ⟨a1, a2, a3⟩ := h.2.pen i _ p (List.getElem?_eq_getElem hi) hp
  have hwi := h.2.inv.wi
  have h9 := h.2.p9
  have hlens := h.2.lens i hi
  obtain ⟨z0, hbl⟩ := h.ptr
  have HO : Hid (∀ W, Pl k W b px P → Calls Try.prog 67 #[.pointer (some ⟨b, 0, none⟩), wstV P.pens[i].last, wstV p.stands] W fun e w' => e = .returned (.bool true) ∧ Below W.heap.size W w') := hide (fun W hW => by
    obtain ⟨vP, gs, ho⟩ := hW.1.2
    exact onwards_any W b P.r.wi (ho.blk.cell 1) hwi ho.blk.lt _ _ a3 hok)
  have HB : Hid (∀ j (hj : j < P.pens[i].lsns.length), P.pens[i].lsns[j] = p.stands.base + 1 + (j : Int)) := hide (fun j hj => by
    have hv : p.values ≠ [] := by
      intro hv
      rw [a2] at hj
      simp [lsnsOf, hv] at hj
    rw [hbs hv]
    simp only [a2]
    simp [lsnsOf])
  have HV2 : Hid (∀ j (hj : j < P.pens[i].lsns.length) (hv : j < P.pens[i].values.length), P.pens[i].lsns[j] ≤ p.stands.dur → ∃ n : Nat, P.pens[i].lsns[j] = (n : Int) ∧ Once P.r n P.pens[i].values[j]) := hide (fun j hj hv hle => by
    have hjp : j < p.values.length := by rw [a1] at hv; exact hv
    have e : P.pens[i].lsns[j] = ((baseOf p.fenced + 1 + j : Nat) : Int) := by
      simp only [a2]
      simp [lsnsOf]
    rw [e] at hle
    refine ⟨baseOf p.fenced + 1 + j, e, by omega, i, p, hp, hle, ?_⟩
    have := own_val h.2.inv hp hjp
    simp only [a1]
    exact this)
  have hb := hok.b0
  have hb0 := hok.b0
  unfold wstV at HV HO
  have hwn : IntKind.i64.wrap (p.stands.base + ((P.pens[i].lsns.length : Nat) : Int)) = p.stands.next := by rw [IntKind.wrap_i64] <;> rw [a1] at hlens <;> omega
  have hm : ∃ m, m = P.pens[i].lsns.length := ⟨_, rfl⟩
  obtain ⟨m, hm⟩ := hm
  have hvm : P.pens[i].values.length = m := by omega
  have hm40 : m ≤ 40 := by omega
  rw [← hm] at hwn
  have hw1 : IntKind.i64.wrap ((i : Int) + 1 - 1) = i := by rw [IntKind.wrap_i64] <;> omega
  have HH := hide h
  have HP := hide (And.intro hp (And.intro hm hvm))
  clear h hp hok hnx hbs a1 a2 a3 hwi hlens hm hvm
  go_enter Try.func34, Try.ntmps34
  go_wp2_with fail
  refine HV.out.mono ?_
  rintro e1 w1 ⟨rfl, hb1⟩
  clear z0 hbl HV
  have hs1 := hb1.size
  have h1w := HH.out.below hb1
  obtain ⟨vP, gs, ho⟩ := h1w.1.2
  have hgl := ho.len
  have hig : i < gs.length := by omega
  obtain ⟨pa, pcap, hvp, hpl, hpc⟩ := ptrs_at ho.arr i hig
  subst hvp
  have y3 : w1.cell? ⟨b, 3, none⟩ = some (.slice (some ⟨pa, 0, none⟩) gs.length pcap) := ho.blk.cell 3
  have hbl := ho.blk.lt
  have hgd : decide ((i : Int) < (gs.length : Int)) = true := by simp; omega
  have HG := hide hgl
  have HPo := hide (ho.pen i hig hi)
  clear hgl
  generalize hg0 : gs[i] = g at *
  have gl := HPo.out
  obtain ⟨vl, vv, hBg, hL, hVv⟩ := HPo.out
  have gl := hBg.lt
  go_wp2_with fail
  obtain ⟨W2, hW2⟩ : ∃ W2, W2 = w1.alloc (Obj.cells #[.int .i64 p.stands.phase, .int .i64 p.stands.base, .int .i64 p.stands.next, .int .i64 p.stands.dur] 37) := ⟨_, rfl⟩
  rw [← hW2]
  have hbA : Below w.heap.size w W2 := by rw [hW2]; exact hb1.alloc hs1 _
  have hb12 : Below w1.heap.size w1 W2 := by rw [hW2]; exact (Below.refl _ _).alloc (Nat.le_refl _) _
  have ev2 : Evo k (fun x => if x < w1.heap.size then k x else 0) noC w W2 := (Evo.of_below hbA).recolour _ (fun x hx => if_pos (by omega))
  have ev12 : Evo k (fun x => if x < w1.heap.size then k x else 0) noC w1 W2 := (Evo.of_below hb12).recolour _ (fun x hx => if_pos hx)
  have hA : Blk (fun x => if x < w1.heap.size then k x else 0) W2 0 w1.heap.size 37 [.int .i64 p.stands.phase, .int .i64 p.stands.base, .int .i64 p.stands.next, .int .i64 p.stands.dur] := ⟨by rw [hW2]; exact heap_alloc_new w1 _, if_neg (by omega)⟩
  have h2 := HH.out.evo ev2 (fun c _ _ => noC_not c) (noC_not _)
  have h2k := HH.out.below hbA
  have ho2 := ho.evo ev12 (fun c _ _ => noC_not c) h9
  have hBg2 := hBg.evo ev12 (noC_not _)
  have hL2 := hL.evo ev12 (noC_not _)
  have hV2 := hVv.evo ev12 (noC_not _)
  generalize (fun x => if x < w1.heap.size then k x else 0) = k2 at *
  obtain ⟨la, lcap, rfl, hLs⟩ := ints_at hL2
  obtain ⟨va, vcap, rfl, hVs⟩ := ints_at hV2
  have hmm := HP.out.2
  rw [← hmm.1] at hBg2 hL2
  rw [hmm.2] at hBg2 hV2
  clear hmm hLs hVs
  have g0 : W2.cell? ⟨g, 0, none⟩ = some (.slice la m lcap) := hBg2.cell 0
  have g2 : W2.cell? ⟨g, 2, none⟩ = some (.int .i64 P.pens[i].last.phase) := hBg2.cell 2
  have g3 : W2.cell? ⟨g, 3, none⟩ = some (.int .i64 P.pens[i].last.base) := hBg2.cell 3
  have g4 : W2.cell? ⟨g, 4, none⟩ = some (.int .i64 P.pens[i].last.next) := hBg2.cell 4
  have g5 : W2.cell? ⟨g, 5, none⟩ = some (.int .i64 P.pens[i].last.dur) := hBg2.cell 5
  have A0 : W2.cell? ⟨w1.heap.size, 0, none⟩ = some (.int .i64 p.stands.phase) := hA.cell 0
  have A1 : W2.cell? ⟨w1.heap.size, 1, none⟩ = some (.int .i64 p.stands.base) := hA.cell 1
  have A2 : W2.cell? ⟨w1.heap.size, 2, none⟩ = some (.int .i64 p.stands.next) := hA.cell 2
  have A3 : W2.cell? ⟨w1.heap.size, 3, none⟩ = some (.int .i64 p.stands.dur) := hA.cell 3
  have HO2 := hide (HO.out _ (h2k.below (Below.drew (Below.refl _ _))))
  have HS2 := hide (And.intro h2 (And.intro ho2 (And.intro hBg2 (And.intro hL2 (And.intro hV2 (And.intro hA ev2))))))
  have gl2 : g < W2.heap.size := hBg2.lt
  have Al2 : w1.heap.size < W2.heap.size := hA.lt
  obtain ⟨A, hAe⟩ : ∃ A, A = w1.heap.size := ⟨_, rfl⟩
  rw [← hAe] at A0 A1 A2 A3 Al2 HS2 ⊢
  clear h2 ho2 hBg2 hL2 hV2 hA ev2 hW2 y3 hpc hpl hbA hb12 ev12 h2k ho hBg hL hVv hb1 h1w gl hbl hs1 HPo hAe
  go_region_held3 (fun W => W.cell? ⟨g, 2, none⟩ = some (.int .i64 P.pens[i].last.phase) ∧ W.cell? ⟨g, 3, none⟩ = some (.int .i64 P.pens[i].last.base) ∧ W.cell? ⟨g, 4, none⟩ = some (.int .i64 P.pens[i].last.next) ∧ W.cell? ⟨g, 5, none⟩ = some (.int .i64 P.pens[i].last.dur) ∧ W.cell? ⟨A, 0, none⟩ = some (.int .i64 p.stands.phase) ∧ W.cell? ⟨A, 1, none⟩ = some (.int .i64 p.stands.base) ∧ W.cell? ⟨A, 2, none⟩ = some (.int .i64 p.stands.next) ∧ W.cell? ⟨A, 3, none⟩ = some (.int .i64 p.stands.dur)) (first | exact ⟨g2, g3, g4, g5, A0, A1, A2, A3⟩ | exact HSx)
    (first | (go_at_call 67; refine HO2.out.mono ?_; rintro e3 w3 ⟨rfl, hb3⟩; have HSx := And.intro ((hb3.cell (p := ⟨g, 2, none⟩) gl2).trans g2) (And.intro ((hb3.cell (p := ⟨g, 3, none⟩) gl2).trans g3) (And.intro ((hb3.cell (p := ⟨g, 4, none⟩) gl2).trans g4) (And.intro ((hb3.cell (p := ⟨g, 5, none⟩) gl2).trans g5) (And.intro ((hb3.cell (p := ⟨A, 0, none⟩) Al2).trans A0) (And.intro ((hb3.cell (p := ⟨A, 1, none⟩) Al2).trans A1) (And.intro ((hb3.cell (p := ⟨A, 2, none⟩) Al2).trans A2) ((hb3.cell (p := ⟨A, 3, none⟩) Al2).trans A3))))))); have Hb3 := hide hb3; clear hb3))
  clear HSx g0 g2 g3 g4 g5 A0 A1 A2 A3 gl2 Al2 HO2 HO
  obtain ⟨h2, ho2, hBg2, hL2, hV2, hA, ev2⟩ := HS2.out
  have ev3 : Evo k2 k2 noC W2 w3 := (Evo.refl k2 noC W2).drew.trans (Evo.of_below Hb3.out)
  have h3 := h2.evo ev3 (fun c _ _ => noC_not c) (noC_not _)
  have ho3 := ho2.evo ev3 (fun c _ _ => noC_not c) h9
  have hB3 := hBg2.evo ev3 (noC_not _)
  have hL3 := hL2.evo ev3 (noC_not _)
  have hV3 := hV2.evo ev3 (noC_not _)
  have hA3 := hA.evo ev3 (noC_not _)
  have hE3 := ev2.trans ev3
  have g0 : w3.cell? ⟨g, 0, none⟩ = some (.slice la m lcap) := hB3.cell 0
  have g2 : w3.cell? ⟨g, 2, none⟩ = some (.int .i64 P.pens[i].last.phase) := hB3.cell 2
  have g3 : w3.cell? ⟨g, 3, none⟩ = some (.int .i64 P.pens[i].last.base) := hB3.cell 3
  have g4 : w3.cell? ⟨g, 4, none⟩ = some (.int .i64 P.pens[i].last.next) := hB3.cell 4
  have g5 : w3.cell? ⟨g, 5, none⟩ = some (.int .i64 P.pens[i].last.dur) := hB3.cell 5
  have f2 := hB3.free 2
  have f3 := hB3.free 3
  have f4 := hB3.free 4
  have f5 := hB3.free 5
  have A0 : w3.cell? ⟨A, 0, none⟩ = some (.int .i64 p.stands.phase) := hA3.cell 0
  have A1 : w3.cell? ⟨A, 1, none⟩ = some (.int .i64 p.stands.base) := hA3.cell 1
  have A2 : w3.cell? ⟨A, 2, none⟩ = some (.int .i64 p.stands.next) := hA3.cell 2
  have A3 : w3.cell? ⟨A, 3, none⟩ = some (.int .i64 p.stands.dur) := hA3.cell 3
  have gl3 := hB3.lt
  have Al3 := hA3.lt
  have hAg : ¬ A = g := fun e => hA3.ne hB3 (by omega) e
  have hgA : ¬ g = A := fun e => hAg e.symm
  have HS3 := hide (And.intro h3 (And.intro ho3 (And.intro hB3 (And.intro hL3 (And.intro hV3 (And.intro hA3 hE3))))))
  clear h2 ho2 hBg2 hL2 hV2 hA ev2 ev3 h3 ho3 hB3 hL3 hV3 hA3 hE3 HS2 Hb3
  go_wp2_with fail
  go_region
  go_wp2_with fail
  obtain ⟨W4, hW4⟩ : ∃ W4, W4 = ((((w3.setCell ⟨g, 2, none⟩ (.int .i64 p.stands.phase)).setCell ⟨g, 3, none⟩ (.int .i64 p.stands.base)).setCell ⟨g, 4, none⟩ (.int .i64 p.stands.next)).setCell ⟨g, 5, none⟩ (.int .i64 p.stands.dur)) := ⟨_, rfl⟩
  rw [← hW4]
  obtain ⟨W5, hW5⟩ : ∃ W5, W5 = W4.drew := ⟨_, rfl⟩
  rw [← hW5]
  have HS5 : Hid (Pl k2 W5 b px (P.told i p.stands) ∧ Blk k2 W5 (310 + 4 * i) g 40 (.slice la m lcap :: .slice va m vcap :: stCells p.stands) ∧ Rows k2 W5 (311 + 4 * i) 3 1 (.slice la m lcap) (P.pens[i].lsns.map intRow) ∧ Rows k2 W5 (312 + 4 * i) 3 1 (.slice va m vcap) (P.pens[i].values.map intRow) ∧ Blk k2 W5 0 A 37 [.int .i64 p.stands.phase, .int .i64 p.stands.base, .int .i64 p.stands.next, .int .i64 p.stands.dur] ∧ Evo k k2 cPS w W5) := hide (by
    obtain ⟨h3, ho3, hB3, hL3, hV3, hA3, hE3⟩ := HS3.out
    obtain ⟨e4, b4, l4, v4, p4⟩ := h3.told hi HP.out.1 ho3 hig hg0 hB3 hL3 hV3 p.stands rfl W4 hW4
    have e5 : Evo k2 k2 noC W4 W5 := by rw [hW5]; exact (Evo.refl k2 noC W4).drew
    refine ⟨p4.evo e5 (fun c _ _ => noC_not c) (noC_not _), b4.evo e5 (noC_not _), l4.evo e5 (noC_not _), v4.evo e5 (noC_not _), (hA3.evo e4 (by omega)).evo e5 (noC_not _), ?_⟩
    exact (hE3.mono (fun _ h => h.elim)).trans ((e4.mono (fun c h => by unfold cPS; omega)).trans (e5.mono (fun _ h => h.elim))))
  clear HS3 hW4 hW5 g0 g2 g3 g4 g5 f2 f3 f4 f5 A0 A1 A2 A3 gl3 Al3 hwn hw1 hgd hb HH HG hg0 hig
  have hb := hb0
  go_loopw [9] (fun v wr => ∃ j : Nat, j ≤ m ∧ v = .int .i64 j ∧ Hid (∃ P', Evo k2 k2 (fun c => c = 300) W5 wr ∧ Pl k2 wr b px P' ∧ P'.r = P.r ∧ P'.pens = (P.told i p.stands).pens ∧ P'.most = P.most)) (fun v _ => m - (intOf v).toNat)
  case atStart => exact ⟨0, Nat.zero_le _, rfl, hide ⟨_, Evo.refl _ _ _, HS5.out.1, rfl, rfl, rfl⟩⟩
  case round =>
    obtain ⟨j, hj, rfl, hst⟩ := hrel
    have HSt := hst
    obtain ⟨P', ev, hpl, hr', hpe', hmo'⟩ := hst.out
    obtain ⟨-, hB5, hL5, hV5, hA5, hE5⟩ := HS5.out
    have hBr := hB5.evo ev (by omega)
    have hLr := hL5.evo ev (by omega)
    have hVr := hV5.evo ev (by omega)
    have hAr := hA5.evo ev (by omega)
    have g0 : wr.cell? ⟨g, 0, none⟩ = some (.slice la m lcap) := hBr.cell 0
    have g1 : wr.cell? ⟨g, 1, none⟩ = some (.slice va m vcap) := hBr.cell 1
    have A1 : wr.cell? ⟨A, 1, none⟩ = some (.int .i64 p.stands.base) := hAr.cell 1
    have A3 : wr.cell? ⟨A, 3, none⟩ = some (.int .i64 p.stands.dur) := hAr.cell 3
    have gl := hBr.lt
    have Al := hAr.lt
    by_cases hlt : j < m
    · have hd : decide ((j : Int) < (m : Int)) = true := by simp; omega
      have hjl : j < P.pens[i].lsns.length := by rw [← HP.out.2.1]; exact hlt
      have hjv : j < P.pens[i].values.length := by rw [HP.out.2.2]; exact hlt
      obtain ⟨lg, rfl, hlg, hlc⟩ := ints_last hLr j hjl
      obtain ⟨vg, rfl, hvg, hvc⟩ := ints_last hVr j hjv
      have klg : k2 lg ≠ 300 := by rw [hLr.col lg rfl]; omega
      have kvg : k2 vg ≠ 300 := by rw [hVr.col vg rfl]; omega
      have kg : k2 g ≠ 300 := by rw [hBr.2]; omega
      have hlj := HB.out j hjl
      have HO1 := hide (HV2.out j hjl hjv)
      rw [hlj] at hlc HO1
      generalize P.pens[i].values[j] = vj at *
      have hw2 : IntKind.i64.wrap (p.stands.base + 1) = p.stands.base + 1 := by rw [IntKind.wrap_i64] <;> omega
      have hw3 : IntKind.i64.wrap (p.stands.base + 1 + (j : Int)) = p.stands.base + 1 + (j : Int) := by rw [IntKind.wrap_i64] <;> omega
      have HX := hide (And.intro ev (And.intro hpl (And.intro hr' (And.intro hpe' (And.intro hmo' (And.intro hBr (And.intro hLr (And.intro hVr hAr))))))))
      clear hst ev hpl hr' hpe' hmo' hB5 hL5 hV5 hA5 hE5 hBr hLr hVr hAr hlj hjl hjv
      by_cases hle : p.stands.base + 1 + (j : Int) ≤ p.stands.dur
      · have d2 : decide (p.stands.base + 1 + (j : Int) ≤ p.stands.dur) = true := by simpa using hle
        obtain ⟨n, hn, hon⟩ := HO1.out hle
        have HSw : Hid (Calls Try.prog 37 #[.pointer (some ⟨b, 0, none⟩), .int .i64 (p.stands.base + 1 + (j : Int)), .int .i64 vj] wr.drew.drew.drew fun e w' => e = .returned (.bool true) ∧ Evo k2 k2 (fun c => c = 300) wr w' ∧ Pl k2 w' b px (P'.swear n vj)) := hide (by
          obtain ⟨ev, hpl, hr', -⟩ := HX.out
          have hpl3 : Pl k2 wr.drew.drew.drew b px P' := hpl.evo (((Evo.refl k2 noC wr).drew).drew).drew (fun c _ _ => noC_not c) (noC_not _)
          have hon' : Once P'.r n vj := by rw [hr']; exact hon
          have h40 := once40 hpl.2.inv hon'
          rw [hn]
          refine (swear_any hpl3.1 hpl.2.sl hpl.2.vl hpl.2.p9 n h40.1 h40.2 vj (hpl.2.one hon')).mono ?_
          rintro e w' ⟨rfl, e1, e2⟩
          exact ⟨rfl, ((((Evo.refl k2 _ wr).drew).drew).drew).trans e1, e2, hpl.2.swear hon' h40.2⟩)
        clear hn hon HO1
        go_wp2_with fail
        go_region
        go_wp2_with fail
        go_region
        go_wp2_with fail
        go_region_held3 (fun W => W.cell? ⟨g, 0, none⟩ = some (.slice (some ⟨lg, 0, none⟩) m lcap) ∧ W.cell? ⟨lg, j, none⟩ = some (.int .i64 (p.stands.base + 1 + (j : Int))) ∧ W.cell? ⟨g, 1, none⟩ = some (.slice (some ⟨vg, 0, none⟩) m vcap) ∧ W.cell? ⟨vg, j, none⟩ = some (.int .i64 vj)) (first | exact ⟨g0, hlc, g1, hvc⟩ | exact HSx)
          (first | (go_at_call 37; refine HSw.out.mono ?_; rintro e6 w6 ⟨rfl, ev6, hp6⟩; have HSx := And.intro ((evo_cell ev6 gl kg 0).trans g0) (And.intro ((evo_cell ev6 hlg klg j).trans hlc) (And.intro ((evo_cell ev6 gl kg 1).trans g1) ((evo_cell ev6 hvg kvg j).trans hvc))); have H6 := hide (And.intro ev6 hp6); clear ev6 hp6))
        clear HSx
        go_wp2_with fail
        go_roundw
        case rel => exact ⟨j + 1, by omega, by go_num, hide (by
          obtain ⟨ev, hpl, hr', hpe', hmo', -⟩ := HX.out
          exact ⟨_, ev.trans H6.out.1, H6.out.2, hr', hpe', hmo'⟩)⟩
        case measure => simp [intOf]; omega
      · have d2 : decide (p.stands.base + 1 + (j : Int) ≤ p.stands.dur) = false := by simpa using hle
        clear HO1
        go_wp2_with fail
        go_region
        go_wp2_with fail
        go_region
        go_wp2_with fail
        go_roundw
        case rel => exact ⟨j + 1, by omega, by go_num, hide (by
          obtain ⟨ev, hpl, hr', hpe', hmo', -⟩ := HX.out
          exact ⟨P', ev.drew.drew, hpl.evo ((Evo.refl k2 noC wr).drew).drew (fun c _ _ => noC_not c) (noC_not _), hr', hpe', hmo'⟩)⟩
        case measure => simp [intOf]; omega
    · have hd : decide ((j : Int) < (m : Int)) = false := by simp; omega
      have HX := hide (And.intro ev (And.intro hpl (And.intro hr' (And.intro hpe' (And.intro hmo' hE5)))))
      clear hst ev hpl hr' hpe' hmo' hB5 hL5 hV5 hA5 hE5 hBr hLr hVr hAr
      go_wp2_with fail
      go_ret
      obtain ⟨ev, hpl, hr', hpe', hmo', hE5⟩ := HX.out
      exact ⟨rfl, k2, P', hE5.trans (ev.mono (fun c h => by unfold cPS; omega)), hpl, hr', hpe', hmo'⟩
end Go.Proofs.Ytfpbkghcjaonlaa.Sim
