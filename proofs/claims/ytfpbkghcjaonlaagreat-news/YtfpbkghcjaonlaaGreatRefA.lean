/-
  sixfoldref: Flight, place, send.
-/
import Derived.Test.YtfpbkghcjaonlaaGreatBase
import Derived.Deep.RegionLaw
namespace Go.Proofs.YtfpbkghcjaonlaaGreat
open Go.RowKit

/-- A cut. -/
def cutRow (c : Int × Int) : List Value := [.int .i64 c.1, .int .i64 c.2]
def intRow (n : Int) : List Value := [.int .i64 n]

/-- The colour of what is never written again; of what is not ours: 0. -/
def IM : Nat := 1

structure Msg where
  kind : Int
  frm : Int
  to_ : Int
  epoch : Int
  lsn : Int
  value : Int
  scl : Int
  cuts : List (Int × Int)
  marks : List Int

/-- A list of cuts, of ints, that nobody writes any more. -/
def CutsIm (k : Nat → Nat) (w : World) (v : Value) (l : List (Int × Int)) : Prop := Rows k w IM 53 2 v (l.map cutRow)
def IntsIm (k : Nat → Nat) (w : World) (v : Value) (l : List Int) : Prop := Rows k w IM 3 1 v (l.map intRow)

/-- The nine cells of a message. -/
def MsgIs (k : Nat → Nat) (w : World) (m : Msg) (r : List Value) : Prop :=
  ∃ vc vm, r = [.int .i64 m.kind, .int .i64 m.frm, .int .i64 m.to_, .int .i64 m.epoch, .int .i64 m.lsn, .int .i64 m.value, .int .i64 m.scl, vc, vm] ∧ CutsIm k w vc m.cuts ∧ IntsIm k w vm m.marks

def PostIs (k : Nat → Nat) (w : World) (p : Msg × Bool) (r : List Value) : Prop := ∃ r0, MsgIs k w p.1 r0 ∧ r = r0 ++ [.bool p.2]

def All2 {A B : Type} (R : A → B → Prop) (xs : List A) (ys : List B) : Prop := xs.length = ys.length ∧ ∀ i (h : i < xs.length) (h2 : i < ys.length), R xs[i] ys[i]

/-- Colours of the document's volume. -/
def cY : Nat := 10
def cNet : Nat := 11

structure NetIs (k : Nat → Nat) (w : World) (v : Value) (net : List (Msg × Bool)) (rows : List (List Value)) : Prop where
  own : Rows k w cNet 111 10 v rows
  all : All2 (PostIs k w) net rows

def flightOf (net : List (Msg × Bool)) : Nat := (net.filter (fun p => !p.2)).length

theorem flightOf_le (net : List (Msg × Bool)) : flightOf net ≤ net.length := List.length_filter_le _ _
theorem flightOf_snoc (net : List (Msg × Bool)) (n : Nat) (h : n < net.length) : flightOf (net.take (n + 1)) = flightOf (net.take n) + if net[n].2 then 0 else 1 := by
  unfold flightOf
  rw [List.take_succ_eq_append_getElem h, List.filter_append, List.length_append]
  cases hg : net[n].2 <;> simp [hg]

theorem net_gone {k : Nat → Nat} {w : World} {v : Value} {net : List (Msg × Bool)} {rows : List (List Value)} (h : NetIs k w v net rows) :
    ∃ a cap, v = .slice a net.length cap ∧ ∀ i, (hi : i < net.length) → ∃ b, a = some ⟨b, 0, none⟩ ∧ w.cell? ⟨b, i * 10 + 9, none⟩ = some (.bool net[i].2) := by
  have hlen := h.all.1
  obtain ⟨a, cap, rfl, _⟩ := h.own.form
  refine ⟨a, cap, by rw [hlen], fun i hi => ?_⟩
  obtain ⟨b, cap', hv, _, _, _, hc, _⟩ := h.own.at (by omega)
  simp at hv
  refine ⟨b, hv.1, ?_⟩
  rw [hc i 9 (by omega) (by omega)]
  obtain ⟨r0, ⟨vc, vm, hr, _⟩, hr2⟩ := h.all.2 i hi (by omega)
  rw [hr2, hr]
  rfl

set_option maxHeartbeats 400000 in
theorem flight_core (w : World) (q : Nat) (a : Option Addr) (net : List (Msg × Bool)) (cap : Nat) (hlen : net.length ≤ 4000000000)
    (hnet : w.cell? ⟨q, 2, none⟩ = some (.slice a net.length cap))
    (hg : ∀ i, (hi : i < net.length) → ∃ b, a = some ⟨b, 0, none⟩ ∧ w.cell? ⟨b, i * 10 + 9, none⟩ = some (.bool net[i].2)) :
    Calls Tryz.prog 23 #[.pointer (some ⟨q, 0, none⟩)] w fun e w' => e = .returned (.int .i64 (flightOf net)) ∧ w' = w := by
  go_enter Tryz.func23, Tryz.ntmps23
  go_wp2
  go_loop [3, 4] (fun n i => ∃ k : Nat, k ≤ net.length ∧ i = .int .i64 k ∧ n = .int .i64 (flightOf (net.take k))) (fun _ i => net.length - (intOf i).toNat)
  case atStart => exact ⟨0, Nat.zero_le _, rfl, rfl⟩
  case round =>
    obtain ⟨j, hk, rfl, rfl⟩ := hrel
    have hle : flightOf (net.take j) ≤ j := Nat.le_trans (flightOf_le _) (by simp; omega)
    by_cases hlt : j < net.length
    · obtain ⟨b, rfl, hgone⟩ := hg j hlt
      have hs := flightOf_snoc net j hlt
      cases hb : net[j].2
      · rw [hb] at hgone hs
        have HS : Hid (flightOf (net.take (j + 1)) = flightOf (net.take j) + 1) := hs
        clear hs hb
        go_wp2
        go_round
        case rel => exact ⟨j + 1, by omega, by go_num, by rw [HS.out]; go_num⟩
        case measure => simp [intOf]; omega
      · rw [hb] at hgone hs
        have HS : Hid (flightOf (net.take (j + 1)) = flightOf (net.take j)) := hs
        clear hs hb
        go_wp2
        go_round
        case rel => exact ⟨j + 1, by omega, by go_num, by rw [HS.out]⟩
        case measure => simp [intOf]; omega
    · go_wp2
      go_ret
      exact ⟨by rw [List.take_of_length_le (by omega)]; rfl, rfl⟩

theorem Tryz.infoPost : (Tryz.prog.info? 111).map (fun i => (i.zero, i.size, i.bytes)) = some (some (.agg #[.int .i64 0, .int .i64 0, .int .i64 0, .int .i64 0, .int .i64 0, .int .i64 0, .int .i64 0, .slice none 0 0, .slice none 0 0, .bool false]), 10, 112) := by kernel_rfl

theorem CutsIm.evo {k k' : Nat → Nat} {w w' : World} {v : Value} {l : List (Int × Int)} {C : Nat → Prop} (h : CutsIm k w v l) (g : Evo k k' C w w') (hc : ¬ C IM) : CutsIm k' w' v l := Rows.evo h g hc
theorem IntsIm.evo {k k' : Nat → Nat} {w w' : World} {v : Value} {l : List Int} {C : Nat → Prop} (h : IntsIm k w v l) (g : Evo k k' C w w') (hc : ¬ C IM) : IntsIm k' w' v l := Rows.evo h g hc
theorem MsgIs.evo {k k' : Nat → Nat} {w w' : World} {m : Msg} {r : List Value} {C : Nat → Prop} (h : MsgIs k w m r) (g : Evo k k' C w w') (hc : ¬ C IM) : MsgIs k' w' m r := by
  obtain ⟨vc, vm, hr, h1, h2⟩ := h
  exact ⟨vc, vm, hr, h1.evo g hc, h2.evo g hc⟩
theorem PostIs.evo {k k' : Nat → Nat} {w w' : World} {m : Msg × Bool} {r : List Value} {C : Nat → Prop} (h : PostIs k w m r) (g : Evo k k' C w w') (hc : ¬ C IM) : PostIs k' w' m r := by
  obtain ⟨r0, h0, hr⟩ := h
  exact ⟨r0, h0.evo g hc, hr⟩
theorem All2.imp {A B : Type} {R S : A → B → Prop} {xs : List A} {ys : List B} (h : All2 R xs ys) (hs : ∀ x y, R x y → S x y) : All2 S xs ys := ⟨h.1, fun i a b => hs _ _ (h.2 i a b)⟩
theorem All2.snoc {A B : Type} {R : A → B → Prop} {xs : List A} {ys : List B} (h : All2 R xs ys) {x : A} {y : B} (hx : R x y) : All2 R (xs ++ [x]) (ys ++ [y]) := by
  refine ⟨by simp [h.1], fun i a b => ?_⟩
  by_cases hi : i < xs.length
  · rw [List.getElem_append_left hi, List.getElem_append_left (by rw [← h.1]; exact hi)]; exact h.2 i hi _
  · have e : i = xs.length := by simp at a; omega
    subst e
    have e2 : xs.length = ys.length := h.1
    simp only [List.getElem_append_right (Nat.le_refl _), List.getElem_append_right (Nat.le_of_eq e2.symm)]
    simpa using hx
theorem All2.set {A B : Type} {R : A → B → Prop} {xs : List A} {ys : List B} (h : All2 R xs ys) (i : Nat) {x : A} {y : B} (hx : R x y) : All2 R (xs.set i x) (ys.set i y) := by
  refine ⟨by simp [h.1], fun j a b => ?_⟩
  by_cases hj : i = j
  · subst hj; simpa using hx
  · simp only [List.getElem_set_ne hj]; exact h.2 j (by simpa using a) (by simpa using b)
theorem NetIs.evo {k k' : Nat → Nat} {w w' : World} {v : Value} {net : List (Msg × Bool)} {rows : List (List Value)} {C : Nat → Prop} (h : NetIs k w v net rows) (g : Evo k k' C w w') (hc : ¬ C IM) (hn : ¬ C cNet) : NetIs k' w' v net rows :=
  ⟨h.own.evo g hn, h.all.imp fun _ _ x => x.evo g hc⟩

theorem flight_any {k : Nat → Nat} {w : World} {q : Nat} {wi fl vNet vSegs vPens : Value} {net : List (Msg × Bool)} {rows : List (List Value)}
    (hY : Blk k w cY q 84 [wi, fl, vNet, vSegs, vPens]) (hN : NetIs k w vNet net rows) (hlen : net.length ≤ 4000000000) :
    Calls Tryz.prog 23 #[.pointer (some ⟨q, 0, none⟩)] w fun e w' => e = .returned (.int .i64 (flightOf net)) ∧ w' = w := by
  obtain ⟨a, cap, hv, hg⟩ := net_gone hN
  exact flight_core w q a net cap hlen (by rw [hY.cell, hv]; rfl) hg


/-- The cells of a message whose two lists are the values vc, vm. -/
def msgCells (m : Msg) (vc vm : Value) : List Value := [.int .i64 m.kind, .int .i64 m.frm, .int .i64 m.to_, .int .i64 m.epoch, .int .i64 m.lsn, .int .i64 m.value, .int .i64 m.scl, vc, vm]

theorem Rows.oneCell {k : Nat → Nat} {w : World} {c e size : Nat} {v : Value} {rows : List (List Value)} (h : Rows k w c e size v rows) : v.oneCell' = true := by
  obtain ⟨a, cap, rfl, _⟩ := h.form
  rfl

def sendNet (fl : Int) (net : List (Msg × Bool)) (m : Msg) : List (Msg × Bool) := if (flightOf net : Int) < fl then net ++ [(m, false)] else net

/-- The document's volume: its block, with the network; the other two cells as they are. -/
structure YNet (k : Nat → Nat) (w : World) (q : Nat) (wi fl : Int) (vSegs vPens : Value) (net : List (Msg × Bool)) : Prop where
  ex : ∃ vNet rows, Blk k w cY q 84 [.int .i64 wi, .int .i64 fl, vNet, vSegs, vPens] ∧ NetIs k w vNet net rows

theorem YNet.evo {k k' : Nat → Nat} {w w' : World} {q : Nat} {wi fl : Int} {vSegs vPens : Value} {net : List (Msg × Bool)} {C : Nat → Prop} (h : YNet k w q wi fl vSegs vPens net) (g : Evo k k' C w w') (h1 : ¬ C IM) (h2 : ¬ C cNet) (h3 : ¬ C cY) : YNet k' w' q wi fl vSegs vPens net := by
  obtain ⟨vNet, rows, hY, hN⟩ := h.ex
  exact ⟨vNet, rows, hY.evo g h3, hN.evo g h1 h2⟩

theorem net_push {k k1 : Nat → Nat} {w W w1 : World} {q : Nat} {wi fl : Int} {vNet vSegs vPens v1 : Value} {net : List (Msg × Bool)} {rows : List (List Value)} {m : Msg} {vc vm : Value}
    (e0 : Evo k k noC w W) (hY1 : Blk k W cY q 84 [.int .i64 wi, .int .i64 fl, vNet, vSegs, vPens]) (hN : NetIs k w vNet net rows) (hc : CutsIm k w vc m.cuts) (hm : IntsIm k w vm m.marks)
    (hR1 : Rows k1 w1 cNet 111 10 v1 (rows ++ [msgCells m vc vm ++ [.bool false]])) (hE1 : Evo k k1 (fun x => x = cNet) W w1) :
    ∃ k', Evo k k' (fun c => c = cY ∨ c = cNet) w (w1.setCell ⟨q, 2, none⟩ v1) ∧ YNet k' (w1.setCell ⟨q, 2, none⟩ v1) q wi fl vSegs vPens (net ++ [(m, false)]) := by
  have eA : Evo k k1 (fun c => c = cY ∨ c = cNet) w w1 := (e0.mono (fun _ h => h.elim)).trans (hE1.mono (fun _ h => .inr h))
  have hY2 : Blk k1 w1 cY q _ _ := hY1.evo hE1 (by decide)
  have eB := eA.setCell ⟨q, 2, none⟩ v1 (fun _ => .inl hY2.2)
  refine ⟨k1, eB, ⟨v1, rows ++ [msgCells m vc vm ++ [.bool false]], hY2.set 2 v1, ?_, ?_⟩⟩
  · exact hR1.other _ _ (by show k1 q ≠ cNet; rw [hY2.2]; decide)
  · have eC : Evo k k1 (fun c => c = cY ∨ c = cNet) w (w1.setCell ⟨q, 2, none⟩ v1) := eB
    refine All2.snoc (hN.all.imp fun _ _ x => x.evo eC (by decide)) ⟨_, ⟨vc, vm, rfl, hc.evo eC (by decide), hm.evo eC (by decide)⟩, rfl⟩

set_option maxHeartbeats 400000 in
theorem send_yes (k : Nat → Nat) (w : World) (q : Nat) (wi fl : Int) (vSegs vPens vNet : Value) (net : List (Msg × Bool)) (rows : List (List Value)) (m : Msg) (vc vm : Value)
    (hY : Blk k w cY q 84 [.int .i64 wi, .int .i64 fl, vNet, vSegs, vPens]) (hN : NetIs k w vNet net rows) (hlen : net.length ≤ 4000000000)
    (hc : CutsIm k w vc m.cuts) (hm : IntsIm k w vm m.marks) (hfl : (flightOf net : Int) < fl) :
    Calls Tryz.prog 67 #[.pointer (some ⟨q, 0, none⟩), .agg #[.int .i64 m.kind, .int .i64 m.frm, .int .i64 m.to_, .int .i64 m.epoch, .int .i64 m.lsn, .int .i64 m.value, .int .i64 m.scl, vc, vm]] w fun e w' => e = .returned (.tuple #[]) ∧
      ∃ k', Evo k k' (fun c => c = cY ∨ c = cNet) w w' ∧ YNet k' w' q wi fl vSegs vPens (net ++ [(m, false)]) := by
  have y2 : w.cell? ⟨q, 2, none⟩ = some vNet := by rw [hY.cell]; rfl
  have y1 : w.cell? ⟨q, 1, none⟩ = some (.int .i64 fl) := by rw [hY.cell]; rfl
  have hq := hY.lt
  have hnl : net.length = rows.length := hN.all.1
  have hnl : net.length = rows.length := hN.all.1
  have e1 : Evo k k noC w (w.alloc (Obj.cells #[.int .i64 m.kind, .int .i64 m.frm, .int .i64 m.to_, .int .i64 m.epoch, .int .i64 m.lsn, .int .i64 m.value, .int .i64 m.scl, vc, vm] 109)) := (Evo.refl k noC w).alloc _
  have e2 : Evo k k noC w ((w.alloc (Obj.cells #[.int .i64 m.kind, .int .i64 m.frm, .int .i64 m.to_, .int .i64 m.epoch, .int .i64 m.lsn, .int .i64 m.value, .int .i64 m.scl, vc, vm] 109)).alloc (Obj.cells #[.int .i64 m.kind, .int .i64 m.frm, .int .i64 m.to_, .int .i64 m.epoch, .int .i64 m.lsn, .int .i64 m.value, .int .i64 m.scl, vc, vm, .bool false] 111)).drew := (e1.alloc _).drew
  have hR : Rows k ((w.alloc (Obj.cells #[.int .i64 m.kind, .int .i64 m.frm, .int .i64 m.to_, .int .i64 m.epoch, .int .i64 m.lsn, .int .i64 m.value, .int .i64 m.scl, vc, vm] 109)).alloc (Obj.cells #[.int .i64 m.kind, .int .i64 m.frm, .int .i64 m.to_, .int .i64 m.epoch, .int .i64 m.lsn, .int .i64 m.value, .int .i64 m.scl, vc, vm, .bool false] 111)).drew cNet 111 10 vNet rows := hN.own.evo e2 (noC_not _)
  have hY1 := hY.evo e2 (noC_not _)
  have oc := hc.oneCell
  have om := hm.oneCell
  have HL := hide hnl
  clear hnl
  have hnews : ∀ j u, ([msgCells m vc vm ++ [.bool false]] : List (List Value)).flatten[j]? = some u → ((w.alloc (Obj.cells #[.int .i64 m.kind, .int .i64 m.frm, .int .i64 m.to_, .int .i64 m.epoch, .int .i64 m.lsn, .int .i64 m.value, .int .i64 m.scl, vc, vm] 109)).alloc (Obj.cells #[.int .i64 m.kind, .int .i64 m.frm, .int .i64 m.to_, .int .i64 m.epoch, .int .i64 m.lsn, .int .i64 m.value, .int .i64 m.scl, vc, vm, .bool false] 111)).drew.cell? ((⟨w.heap.size + 1, 0, none⟩ : Addr).add j) = some u := by
    intro j u hj
    rw [Addr.add_lit]
    show World.cell? ((w.alloc _).alloc _) _ = _
    rw [cell_of_row _ (w.heap.size + 1) _ _ _ _ (heap_alloc2_new w _ _)]
    simpa [msgCells] using hj
  have honec : ∀ u ∈ ([msgCells m vc vm ++ [.bool false]] : List (List Value)).flatten, u.oneCell' = true := by
    intro u hu
    simp [msgCells] at hu
    rcases hu with rfl | rfl | rfl | rfl | rfl | rfl | rfl | rfl | rfl | rfl <;> first | rfl | assumption
  have F1 := flight_any (hY.evo e1 (noC_not _)) (hN.evo e1 (noC_not _) (noC_not _)) hlen
  have HF := hide F1
  clear F1 oc om
  go_enter Tryz.func67, Tryz.ntmps67
  go_wp2_with fail
  refine HF.out.mono ?_
  rintro e w1 ⟨rfl, rfl⟩
  go_wp2_with fail
  go_region_law
    (refine step_append_rows k cNet (.tmp 18) (.tmp 21) 80 111 _ 10 112 vNet rows [msgCells m vc vm ++ [.bool false]] rows.length ⟨w.heap.size + 1, 0, none⟩ 1 1 rfl rfl rfl Tryz.underlying80 Tryz.infoPost rfl (by decide) rfl rfl hR rfl (by simp [msgCells]) hnews honec (by have := HL.out; simp only [maxLen]; omega) (by have := HL.out; omega) ?_; intro ao1 cap1 w1 k1 hR1 hE1; have y2' : w1.cell? ⟨q, 2, none⟩ = some vNet := (hY1.evo hE1 (by decide)).cell 2; have yf' : w1.frozen? ⟨q, 2, none⟩ = false := (hY1.evo hE1 (by decide)).free 2)
  all_goals go_end0
  all_goals exact ⟨rfl, net_push e2 hY1 hN hc hm hR1 hE1⟩
end Go.Proofs.YtfpbkghcjaonlaaGreat
