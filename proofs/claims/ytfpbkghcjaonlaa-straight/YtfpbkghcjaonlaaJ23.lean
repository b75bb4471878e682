import Derived.Test.YtfpbkghcjaonlaaJ14
import Derived.Test.YtfpbkghcjaonlaaJ22
import Derived.Test.YtfpbkghcjaonlaaJ09
/-
  sixfoldlaw's player: what is in memory; swear.
-/
namespace Go.Proofs.Ytfpbkghcjaonlaa.Sim
open Go.RowKit

/-- What the player knows of a writer. -/
structure PPen where
  lsns : List Int
  values : List Int
  last : WSt
structure PSt where
  r : RVol
  pens : List PPen
  most : Int
  sworn : List Bool
  value : List Int

def plCells (px : Nat) (wi fl : Int) (vP : Value) (most : Int) (sworn : List Bool) (value : List Int) : List Value :=
  [.pointer (some ⟨px, 0, none⟩), .int .i64 wi, .int .i64 fl, vP, .int .i64 most] ++ (sworn.map Value.bool ++ value.map (Value.int .i64))
def stCells (x : WSt) : List Value := [.int .i64 x.phase, .int .i64 x.base, .int .i64 x.next, .int .i64 x.dur]
def cPl : Nat → Prop := fun c => 300 ≤ c ∧ c < 400
def cPS : Nat → Prop := fun c => 100 ≤ c ∧ c < 400

def PlPen (k : Nat → Nat) (w : World) (i g : Nat) (q : PPen) : Prop :=
  ∃ vl vv, Blk k w (310 + 4 * i) g 40 (vl :: vv :: stCells q.last) ∧ Rows k w (311 + 4 * i) 3 1 vl (q.lsns.map intRow) ∧ Rows k w (312 + 4 * i) 3 1 vv (q.values.map intRow)
def ptrRow (g : Nat) : List Value := [.pointer (some ⟨g, 0, none⟩)]
structure PlOwn (k : Nat → Nat) (w : World) (b px : Nat) (vP : Value) (gs : List Nat) (P : PSt) : Prop where
  blk : Blk k w 300 b 47 (plCells px P.r.wi P.r.fl vP P.most P.sworn P.value)
  arr : Rows k w 301 41 1 vP (gs.map ptrRow)
  len : gs.length = P.pens.length
  pen : ∀ i (h : i < gs.length) (h2 : i < P.pens.length), PlPen k w i gs[i] P.pens[i]
def PlIs (k : Nat → Nat) (w : World) (b px : Nat) (P : PSt) : Prop := XVolIs k w px (xvol P.r) ∧ ∃ vP gs, PlOwn k w b px vP gs P

theorem PlPen.evo {k k' : Nat → Nat} {w w' : World} {i g : Nat} {q : PPen} {C : Nat → Prop} (h : PlPen k w i g q) (ev : Evo k k' C w w') (hC : ∀ c, 310 ≤ c → c < 390 → ¬ C c) (hi : i < 20) : PlPen k' w' i g q := by
  obtain ⟨vl, vv, h1, h2, h3⟩ := h
  exact ⟨vl, vv, h1.evo ev (hC _ (by omega) (by omega)), h2.evo ev (hC _ (by omega) (by omega)), h3.evo ev (hC _ (by omega) (by omega))⟩
theorem PlOwn.evo {k k' : Nat → Nat} {w w' : World} {b px : Nat} {vP : Value} {gs : List Nat} {P : PSt} {C : Nat → Prop} (h : PlOwn k w b px vP gs P) (ev : Evo k k' C w w') (hC : ∀ c, 300 ≤ c → c < 390 → ¬ C c) (h9 : P.pens.length ≤ 9) : PlOwn k' w' b px vP gs P :=
  ⟨h.blk.evo ev (hC _ (by omega) (by omega)), h.arr.evo ev (hC _ (by omega) (by omega)), h.len, fun i a b => (h.pen i a b).evo ev (fun c x y => hC c (by omega) y) (by omega)⟩
theorem PlIs.evo {k k' : Nat → Nat} {w w' : World} {b px : Nat} {P : PSt} {C : Nat → Prop} (h : PlIs k w b px P) (ev : Evo k k' C w w') (hC : ∀ c, 100 ≤ c → c < 390 → ¬ C c) (hI : ¬ C IM) (h9 : P.pens.length ≤ 9) : PlIs k' w' b px P := by
  obtain ⟨hx, vP, gs, ho⟩ := h
  exact ⟨hx.evo ev hI (fun c a b => hC c a (by omega)), vP, gs, ho.evo ev (fun c a b => hC c (by omega) b) h9⟩

theorem pl_sworn (px : Nat) (wi fl : Int) (vP : Value) (most : Int) (sworn : List Bool) (value : List Int) (n : Nat) (h : n < sworn.length) : (plCells px wi fl vP most sworn value)[5 + n]? = some (.bool sworn[n]) := by
  unfold plCells
  rw [List.getElem?_append_right (by simp)]
  simp only [List.length_cons, List.length_nil]
  rw [show 5 + n - (0 + 1 + 1 + 1 + 1 + 1) = n from by omega, List.getElem?_append_left (by simpa using h), List.getElem?_map, List.getElem?_eq_getElem h]; rfl
theorem pl_value (px : Nat) (wi fl : Int) (vP : Value) (most : Int) (sworn : List Bool) (value : List Int) (n : Nat) (hs : sworn.length = 41) (h : n < value.length) : (plCells px wi fl vP most sworn value)[46 + n]? = some (.int .i64 value[n]) := by
  unfold plCells
  rw [List.getElem?_append_right (by simp; omega)]
  simp only [List.length_cons, List.length_nil]
  rw [List.getElem?_append_right (by simp; omega), List.length_map, hs, show 46 + n - (0 + 1 + 1 + 1 + 1 + 1) - 41 = n from by omega, List.getElem?_map, List.getElem?_eq_getElem h]; rfl
theorem map_set' {A B : Type} (f : A → B) (l : List A) (i : Nat) (x : A) : (l.map f).set i (f x) = (l.set i x).map f := by rw [List.map_set]
theorem pl_set_sworn (px : Nat) (wi fl : Int) (vP : Value) (most : Int) (sworn : List Bool) (value : List Int) (n : Nat) (h : n < sworn.length) (x : Bool) : (plCells px wi fl vP most sworn value).set (5 + n) (.bool x) = plCells px wi fl vP most (sworn.set n x) value := by
  unfold plCells
  rw [List.set_append_right _ _ (by simp)]
  simp only [List.length_cons, List.length_nil]
  rw [show 5 + n - (0 + 1 + 1 + 1 + 1 + 1) = n from by omega, List.set_append_left _ _ (by simpa using h), List.map_set]
theorem pl_set_value (px : Nat) (wi fl : Int) (vP : Value) (most : Int) (sworn : List Bool) (value : List Int) (n : Nat) (hs : sworn.length = 41) (x : Int) : (plCells px wi fl vP most sworn value).set (46 + n) (.int .i64 x) = plCells px wi fl vP most sworn (value.set n x) := by
  unfold plCells
  rw [List.set_append_right _ _ (by simp; omega)]
  simp only [List.length_cons, List.length_nil]
  rw [List.set_append_right _ _ (by simp; omega), List.length_map, hs, show 46 + n - (0 + 1 + 1 + 1 + 1 + 1) - 41 = n from by omega, List.map_set]

def PSt.swear (P : PSt) (n : Nat) (v : Int) : PSt := { P with sworn := P.sworn.set n true, value := P.value.set n v }
theorem PlIs.swore {k : Nat → Nat} {w : World} {b px : Nat} {P : PSt} (h : PlIs k w b px P) (hs : P.sworn.length = 41) (h9 : P.pens.length ≤ 9) (n : Nat) (hn : n < 41) (v : Int) :
    Evo k k (fun c => c = 300) w ((w.setCell ⟨b, 5 + n, none⟩ (.bool true)).setCell ⟨b, 46 + n, none⟩ (.int .i64 v)) ∧ PlIs k ((w.setCell ⟨b, 5 + n, none⟩ (.bool true)).setCell ⟨b, 46 + n, none⟩ (.int .i64 v)) b px (P.swear n v) := by
  obtain ⟨hx, vP, gs, ho⟩ := h
  have hb := ho.blk
  have hk : k b = 300 := hb.2
  have ev : ∀ C : Nat → Prop, C 300 → Evo k k C w ((w.setCell ⟨b, 5 + n, none⟩ (.bool true)).setCell ⟨b, 46 + n, none⟩ (.int .i64 v)) := fun C hC => ((Evo.refl k C w).setCell _ _ (fun _ => by show C (k b); rw [hk]; exact hC)).setCell _ _ (fun _ => by show C (k b); rw [hk]; exact hC)
  refine ⟨ev (fun c => c = 300) rfl, hx.evo (ev (fun c => c = 300) rfl) (by unfold IM; decide) (fun c a b => by omega), vP, gs, ?_, ho.arr.evo (ev (fun c => c = 300) rfl) (by decide), ho.len, fun i a b => (ho.pen i a b).evo (ev (fun c => c = 300) rfl) (fun c x y => by omega) (by have := ho.len; omega)⟩
  have h2 := (hb.set (5 + n) (.bool true)).set (46 + n) (.int .i64 v)
  rw [pl_set_sworn _ _ _ _ _ _ _ _ (by omega), pl_set_value _ _ _ _ _ _ _ _ (by simp; omega)] at h2
  exact h2
theorem PSt.swear_same {P : PSt} {n : Nat} {v : Int} (h1 : P.sworn[n]? = some true) (h2 : P.value[n]? = some v) : P.swear n v = P := by
  unfold PSt.swear
  obtain ⟨a, e1⟩ := List.getElem?_eq_some_iff.1 h1
  obtain ⟨b, e2⟩ := List.getElem?_eq_some_iff.1 h2
  have s1 : P.sworn.set n true = P.sworn := by rw [← e1]; exact List.set_getElem_self a
  have s2 : P.value.set n v = P.value := by rw [← e2]; exact List.set_getElem_self b
  rw [s1, s2]

set_option maxHeartbeats 2000000 in
theorem swear_any {k : Nat → Nat} {w : World} {b px : Nat} {P : PSt} (h : PlIs k w b px P) (hs : P.sworn.length = 41) (hv : P.value.length = 41) (h9 : P.pens.length ≤ 9) (n : Nat) (h1 : 1 ≤ n) (h40 : n ≤ 40) (v : Int) (hone : P.sworn[n]? = some true → P.value[n]? = some v) :
    Calls Try.prog 37 #[.pointer (some ⟨b, 0, none⟩), .int .i64 n, .int .i64 v] w fun e w' => e = .returned (.bool true) ∧ Evo k k (fun c => c = 300) w w' ∧ PlIs k w' b px (P.swear n v) := by
  obtain ⟨hx, vP, gs, ho⟩ := id h
  have hB := ho.blk
  have c1 := (hB.cell (5 + n)).trans (pl_sworn _ _ _ _ _ _ _ n (by omega))
  have c2 := (hB.cell (46 + n)).trans (pl_value _ _ _ _ _ _ _ n hs (by omega))
  have f1 := hB.free (5 + n)
  have f2 := hB.free (46 + n)
  have hbl := hB.lt
  have H := hide (h.swore hs h9 n (by omega) v)
  have HP := hide h
  have d1 : decide ((n : Int) < 1) = false := by simp; omega
  have d2 : decide ((n : Int) > 40) = false := by simp; omega
  have d3 : decide ((40 : Int) < (n : Int)) = false := by simp; omega
  cases hw : P.sworn[n]'(by omega) with
  | true =>
    have hval := hone (by rw [List.getElem?_eq_getElem (by omega), hw])
    rw [List.getElem?_eq_getElem (by omega)] at hval
    have hval := Option.some.inj hval
    have HS := hide (PSt.swear_same (P := P) (n := n) (v := v) (by rw [List.getElem?_eq_getElem (by omega), hw]) (by rw [List.getElem?_eq_getElem (by omega), hval]))
    rw [hw] at c1
    rw [hval] at c2
    clear hB ho hx h hone hval hw
    go_enter Try.func37, Try.ntmps37
    go_wp2_with fail
    go_ret
    refine ⟨by simp, Evo.refl _ _ _, ?_⟩
    rw [HS.out]; exact HP.out
  | false =>
    rw [hw] at c1
    clear hB ho hx h hone hw
    go_enter Try.func37, Try.ntmps37
    go_wp2_with fail
    go_ret
    exact ⟨rfl, H.out⟩
end Go.Proofs.Ytfpbkghcjaonlaa.Sim

/-
  sixfoldlaw's player: onwards.
-/
namespace Go.Proofs.Ytfpbkghcjaonlaa.Sim
open Go.RowKit

/-- What a writer can be at. -/
structure WOk (wi : Int) (b : WSt) : Prop where
  ph : 1 ≤ b.phase ∧ b.phase ≤ 4
  p1 : b.phase = 1 → b.base = 0 ∧ b.next = 0 ∧ b.dur = 0
  p2 : b.phase = 2 → b.next = b.base ∧ b.dur = 0
  p3 : b.phase = 3 → b.base ≤ b.dur ∧ b.dur ≤ b.next ∧ b.next ≤ b.dur + wi ∧ b.next ≤ 40
  p4 : b.phase = 4 → b.base ≤ b.next ∧ b.dur ≤ b.next
  b0 : 0 ≤ b.base ∧ b.base ≤ 40 ∧ 0 ≤ b.dur ∧ b.dur ≤ 40 ∧ 0 ≤ b.next ∧ b.next ≤ 40
def wstV (x : WSt) : Value := .agg #[.int .i64 x.phase, .int .i64 x.base, .int .i64 x.next, .int .i64 x.dur]

set_option maxRecDepth 3000 in
set_option maxHeartbeats 8000000 in
theorem onwards_any (w : World) (p : Nat) (wi : Int) (hcell : w.cell? ⟨p, 1, none⟩ = some (.int .i64 wi)) (hwi : 1 ≤ wi ∧ wi ≤ 8) (hp : p < w.heap.size) (a b : WSt) (hg : WGo a b) (hb : WOk wi b) :
    Calls Try.prog 67 #[.pointer (some ⟨p, 0, none⟩), wstV a, wstV b] w fun e w' => e = .returned (.bool true) ∧ Below w.heap.size w w' := by
  obtain ⟨g1, g2, g3, g4, g5⟩ := hg
  obtain ⟨ph, p1, p2, p3, p4, b0⟩ := hb
  obtain ⟨aP, aB, aN, aD⟩ := a
  obtain ⟨bP, bB, bN, bD⟩ := b
  unfold wstV
  simp only at *
  have HB := hide (((Below.refl w.heap.size w).alloc (Nat.le_refl _) (Obj.cells #[.int .i64 aP, .int .i64 aB, .int .i64 aN, .int .i64 aD] 37)).alloc (by simp) (Obj.cells #[.int .i64 bP, .int .i64 bB, .int .i64 bN, .int .i64 bD] 37))
  have d1 : decide (bP < 1) = false := by simp; omega
  have d2 : decide (4 < bP) = false := by simp; omega
  have d3 : decide (bP < aP) = false := by simp; omega
  have d4 : decide (bB < aB) = false := by simp; omega
  have d5 : decide (bN < aN) = false := by simp; omega
  have d6 : decide (bD < aD) = false := by simp; omega
  have hw : IntKind.i64.wrap (bD + wi) = bD + wi := by rw [IntKind.wrap_i64] <;> omega
  have e7 : decide (2 ≤ aP) = false ∨ (decide (2 ≤ aP) = true ∧ bB = aB) := by
    by_cases h2 : 2 ≤ aP
    · exact .inr ⟨by simpa using h2, g5 h2⟩
    · exact .inl (by simpa using h2)
  have hph : bP = 1 ∨ bP = 2 ∨ bP = 3 ∨ bP = 4 := by omega
  rcases hph with rfl | rfl | rfl | rfl
  · obtain ⟨rfl, rfl, rfl⟩ := p1 rfl
    clear p1 p2 p3 p4 ph b0 g1 g2 g3 g4 g5
    rcases e7 with e7 | ⟨e7, rfl⟩
    · go_enter Try.func67, Try.ntmps67
      go_wp2_with fail
      go_ret
      exact ⟨rfl, HB.out⟩
    · go_enter Try.func67, Try.ntmps67
      go_wp2_with fail
      go_ret
      exact ⟨rfl, HB.out⟩
  · obtain ⟨rfl, rfl⟩ := p2 rfl
    clear p1 p2 p3 p4 ph b0 g1 g2 g3 g4 g5
    rcases e7 with e7 | ⟨e7, rfl⟩
    · go_enter Try.func67, Try.ntmps67
      go_wp2_with fail
      go_ret
      exact ⟨rfl, HB.out⟩
    · go_enter Try.func67, Try.ntmps67
      go_wp2_with fail
      go_ret
      exact ⟨rfl, HB.out⟩
  · obtain ⟨q1, q2, q3, q4⟩ := p3 rfl
    have t1 : decide (bB ≤ bD) = true := by simpa using q1
    have t2 : decide (bD ≤ bN) = true := by simpa using q2
    have t3 : decide (bN ≤ bD + wi) = true := by simpa using q3
    have t4 : decide (bN ≤ 40) = true := by simpa using q4
    have hpa : ¬ p = w.heap.size := by omega
    have hpb : ¬ p = w.heap.size + 1 := by omega
    clear p1 p2 p3 p4 ph b0 g1 g2 g3 g4 g5 q1 q2 q3 q4
    rcases e7 with e7 | ⟨e7, rfl⟩
    · go_enter Try.func67, Try.ntmps67
      go_wp2_with fail
      go_region
      go_wp2_with fail
      go_ret
      exact ⟨rfl, HB.out.drew⟩
    · go_enter Try.func67, Try.ntmps67
      go_wp2_with fail
      go_region
      go_wp2_with fail
      go_ret
      exact ⟨rfl, HB.out.drew⟩
  · obtain ⟨q1, q2⟩ := p4 rfl
    have t1 : decide (bB ≤ bN) = true := by simpa using q1
    have t2 : decide (bD ≤ bN) = true := by simpa using q2
    clear p1 p2 p3 p4 ph b0 g1 g2 g3 g4 g5 q1 q2
    rcases e7 with e7 | ⟨e7, rfl⟩
    · go_enter Try.func67, Try.ntmps67
      go_wp2_with fail
      go_ret
      exact ⟨rfl, HB.out⟩
    · go_enter Try.func67, Try.ntmps67
      go_wp2_with fail
      go_ret
      exact ⟨rfl, HB.out⟩
end Go.Proofs.Ytfpbkghcjaonlaa.Sim

/-
  sixfoldlaw's player: what holds of it; the volume's calls.
-/
namespace Go.Proofs.Ytfpbkghcjaonlaa.Sim
open Go.RowKit

def lsnsOf (p : RPen) : List Int := (List.range p.values.length).map fun (j : Nat) => (baseOf p.fenced : Int) + 1 + (j : Int)
structure PlInv (P : PSt) : Prop where
  inv : Inv P.r
  saf : Saf P.r
  len : P.pens.length = P.r.pens.length
  pen : ∀ (i : Nat) (q : PPen) (p : RPen), P.pens[i]? = some q → P.r.pens[i]? = some p → q.values = p.values ∧ q.lsns = lsnsOf p ∧ WGo q.last p.stands
  sl : P.sworn.length = 41
  vl : P.value.length = 41
  sw : ∀ n : Nat, P.sworn[n]? = some true → ∃ v, P.value[n]? = some v ∧ Once P.r n v
def Pl (k : Nat → Nat) (w : World) (b px : Nat) (P : PSt) : Prop := PlIs k w b px P ∧ PlInv P
def PSt.vol (P : PSt) (r : RVol) : PSt := { P with r := r }

theorem PlInv.p9 {P : PSt} (h : PlInv P) : P.pens.length ≤ 9 := by rw [h.len]; exact h.inv.p9
theorem PlIs.vol {k k' : Nat → Nat} {w w' : World} {b px : Nat} {P : PSt} {r : RVol} (h : PlIs k w b px P) (h9 : P.pens.length ≤ 9) (hw : r.wi = P.r.wi ∧ r.fl = P.r.fl) (ev : Evo k k' cXS w w') (hx : XVolIs k' w' px (xvol r)) : PlIs k' w' b px (P.vol r) := by
  obtain ⟨_, vP, gs, ho⟩ := h
  have h2 := ho.evo ev (fun c a b => by unfold cXS; omega) h9
  refine ⟨hx, vP, gs, ?_, h2.arr, h2.len, h2.pen⟩
  have := h2.blk
  rw [← hw.1, ← hw.2] at this
  exact this
theorem PlInv.vol {P : PSt} (h : PlInv P) {r : RVol} (hi : Inv r) (g : Goes P.r r) (hl : r.pens.length = P.r.pens.length) : PlInv (P.vol r) := by
  refine ⟨hi, g.saf, h.len.trans hl.symm, fun i q p' hq hp' => ?_, h.sl, h.vl, fun n hn => ?_⟩
  · have hil : i < P.r.pens.length := by rw [← hl]; exact (List.getElem?_eq_some_iff.1 hp').1
    have hp : P.r.pens[i]? = some P.r.pens[i] := List.getElem?_eq_getElem hil
    generalize P.r.pens[i] = p at *
    obtain ⟨e1, e2, e3⟩ := h.pen i q p hq hp
    obtain ⟨p2, hp2, hw⟩ := g.pens i p hp
    have hp' : r.pens[i]? = some p' := hp'
    have : p2 = p' := by rw [hp2] at hp'; exact Option.some.inj hp'
    subst this
    have hv := g.vals i p p2 hp hp2
    refine ⟨e1.trans hv.symm, ?_, e3.trans hw⟩
    rw [e2]
    unfold lsnsOf
    rw [hv]
    by_cases h4 : 4 ≤ p.fenced.length
    · obtain ⟨p3, h3, hf, _⟩ := g.ple.2 i p hp h4
      rw [hp2] at h3
      rw [Option.some.inj h3, hf]
    · have := ((h.inv.pens i p hp).few (by omega)).2
      rw [this]; rfl
  · obtain ⟨v, h1, h2⟩ := h.sw n hn
    exact ⟨v, h1, h2.goes g.toGoes0⟩

theorem gone_pens (r : RVol) (i : Nat) : (r.goneV i).pens = r.pens := rfl
theorem sendUp_pens (r : RVol) (f : Nat → Msg) (n : Nat) : (r.sendUp f n).pens = r.pens := by rw [sendUp_eq, RVol.sendsUp_pens]
theorem setPen_len (r : RVol) (i : Nat) (p : RPen) : (r.setPen i p).pens.length = r.pens.length := by simp [RVol.setPen]
theorem sHears_pens (r : RVol) (m : Msg) : (r.sHears m).pens = r.pens := by
  unfold RVol.sHears
  split
  · rfl
  · split
    · split <;> rfl
    · split
      · split <;> rfl
      · split
        · rfl
        · split
          · rfl
          · split
            · rfl
            · split
              · split <;> rfl
              · rfl
theorem wHears_len (r : RVol) (m : Msg) : (r.wHears m).pens.length = r.pens.length := by
  unfold RVol.wHears
  split
  · rfl
  · split
    · exact setPen_len _ _ _
    · split
      · exact setPen_len _ _ _
      · split
        · unfold RVol.heard
          split
          · rfl
          · split
            · rw [sendUp_pens]; exact setPen_len _ _ _
            · exact setPen_len _ _ _
        · rfl
theorem deliver_len (r : RVol) (n : Int) : (r.deliver n).1.pens.length = r.pens.length := by
  unfold RVol.deliver
  split
  · rfl
  · split
    · rfl
    · simp only
      unfold RVol.arrives
      split
      · rw [wHears_len]; rfl
      · split
        · split
          · rw [sHears_pens]; rfl
          · rfl
        · rfl
theorem read_len (r : RVol) (n lsn : Int) : (r.read n lsn).1.pens.length = r.pens.length := by
  unfold RVol.read
  split
  · rfl
  · split
    · rfl
    · split
      · rfl
      · split
        · rfl
        · unfold RVol.readOf
          split
          · rfl
          · split
            · unfold RVol.ends
              split
              · exact setPen_len _ _ _
              · rfl
            · rfl
theorem sync_pens (r : RVol) (n : Int) : (r.sync n).1.pens = r.pens := by
  unfold RVol.sync
  split
  · rfl
  · split
    · rfl
    · split
      · have : ∀ (q : RVol) (s : Nat), (q.after s).pens = q.pens := fun q s => by
          unfold RVol.after
          split
          · split <;> rfl
          · rfl
        simp only
        rw [this]
        unfold RVol.synced
        split <;> rfl
      · rfl
theorem gossip_pens (r : RVol) (a b : Int) : (r.gossip a b).1.pens = r.pens := by
  unfold RVol.gossip
  split
  · rfl
  · split
    · rfl
    · split <;> rfl
theorem crash_pens (r : RVol) (a : Int) : (r.crash a).1.pens = r.pens := by
  unfold RVol.crash
  split
  · rfl
  · split
    · rfl
    · split <;> rfl
theorem restart_pens (r : RVol) (a : Int) : (r.restart a).1.pens = r.pens := by
  unfold RVol.restart
  split
  · rfl
  · split
    · rfl
    · split <;> rfl
theorem resend_pens (r : RVol) (a : Int) : (r.resend a).1.pens = r.pens := by
  unfold RVol.resend
  split
  · rfl
  · split
    · rfl
    · exact RVol.sendsUp_pens _ _ _
theorem drop_pens (r : RVol) (a : Int) : (r.drop a).pens = r.pens := by unfold RVol.drop; split <;> rfl
theorem copy_pens (r : RVol) (a : Int) : (r.copy a).pens = r.pens := by unfold RVol.copy; split <;> rfl

/-- A call of the volume, by the player. -/
theorem pl_call {k : Nat → Nat} {w : World} {b px : Nat} {P : PSt} (h : Pl k w b px P) {F : Nat} {args : Array Value} {ret : Value} {r : RVol} (hi : Inv r) (g : Goes P.r r) (hl : r.pens.length = P.r.pens.length)
    (hc : Calls Try.prog F args w fun e w' => e = .returned ret ∧ ∃ k', Evo k k' cXS w w' ∧ XVolIs k' w' px (xvol r)) :
    Calls Try.prog F args w fun e w' => e = .returned ret ∧ ∃ k', Evo k k' cXS w w' ∧ Pl k' w' b px (P.vol r) := by
  refine hc.mono ?_
  rintro e w' ⟨rfl, k', ev, hx⟩
  exact ⟨rfl, k', ev, h.1.vol h.2.p9 g.wi ev hx, h.2.vol hi g hl⟩

section
variable {k : Nat → Nat} {w : World} {b px : Nat} {P : PSt}
theorem pl_deliver (h : Pl k w b px P) (n : Int) : Calls Try.prog 56 #[.pointer (some ⟨px, 0, none⟩), .int .i64 n] w fun e w' => e = .returned (.int .i64 (P.r.deliver n).2) ∧ ∃ k', Evo k k' cXS w w' ∧ Pl k' w' b px (P.vol (P.r.deliver n).1) := by
  have hs := sim_deliver h.2.inv n
  refine pl_call h hs.2 (goes_deliver h.2.inv h.2.saf n) (deliver_len _ _) ?_
  have hc := xdeliver_any h.2.inv h.1.1 n
  rw [← hs.1] at hc
  exact hc
theorem pl_drop (h : Pl k w b px P) (n : Int) : Calls Try.prog 57 #[.pointer (some ⟨px, 0, none⟩), .int .i64 n] w fun e w' => e = .returned (.int .i64 (P.r.err12 n)) ∧ ∃ k', Evo k k' cXS w w' ∧ Pl k' w' b px (P.vol (P.r.drop n)) := by
  have hs := sim_drop h.2.inv n
  refine pl_call h hs.2 (goes_drop h.2.saf n) (by rw [drop_pens]) ?_
  have hc := xdrop_any h.1.1 h.2.inv.xok n
  rw [← hs.1] at hc
  refine hc.mono ?_
  rintro e w' ⟨rfl, k', ev, hv⟩
  exact ⟨rfl, k', ev.mono (fun c h => by unfold cXN cX cXM at h; unfold cXS; omega), hv⟩
theorem pl_copy (h : Pl k w b px P) (n : Int) : Calls Try.prog 58 #[.pointer (some ⟨px, 0, none⟩), .int .i64 n] w fun e w' => e = .returned (.int .i64 (P.r.err12 n)) ∧ ∃ k', Evo k k' cXS w w' ∧ Pl k' w' b px (P.vol (P.r.copy n)) := by
  have hs := sim_copy h.2.inv n
  refine pl_call h hs.2 (goes_copy h.2.saf n) (by rw [copy_pens]) ?_
  have hc := xcopy_any h.1.1 h.2.inv.xok n
  rw [← hs.1] at hc
  refine hc.mono ?_
  rintro e w' ⟨rfl, k', ev, hv⟩
  exact ⟨rfl, k', ev.mono (fun c h => by unfold cXN cX cXM at h; unfold cXS; omega), hv⟩
theorem pl_resend (h : Pl k w b px P) (n : Int) : Calls Try.prog 32 #[.pointer (some ⟨px, 0, none⟩), .int .i64 n] w fun e w' => e = .returned (.int .i64 (P.r.resend n).2) ∧ ∃ k', Evo k k' cXS w w' ∧ Pl k' w' b px (P.vol (P.r.resend n).1) := by
  have hs := sim_resend h.2.inv n
  refine pl_call h hs.2 (goes_resend h.2.saf n) (by rw [resend_pens]) ?_
  have hc := xresend_any h.1.1 h.2.inv.xok n
  rw [← hs.1] at hc
  refine hc.mono ?_
  rintro e w' ⟨rfl, k', ev, hv⟩
  exact ⟨rfl, k', ev.mono (fun c h => by unfold cXN cX cXM at h; unfold cXS; omega), hv⟩
theorem pl_sync (h : Pl k w b px P) (n : Int) : Calls Try.prog 28 #[.pointer (some ⟨px, 0, none⟩), .int .i64 n] w fun e w' => e = .returned (.int .i64 (P.r.sync n).2) ∧ ∃ k', Evo k k' cXS w w' ∧ Pl k' w' b px (P.vol (P.r.sync n).1) := by
  have hs := sim_sync h.2.inv n
  refine pl_call h hs.2 (goes_sync h.2.inv h.2.saf n) (by rw [sync_pens]) ?_
  have hc := xsync_any h.1.1 h.2.inv.xok n
  rw [← hs.1] at hc
  exact hc
theorem pl_gossip (h : Pl k w b px P) (n m : Int) : Calls Try.prog 29 #[.pointer (some ⟨px, 0, none⟩), .int .i64 n, .int .i64 m] w fun e w' => e = .returned (.int .i64 (P.r.gossip n m).2) ∧ ∃ k', Evo k k' cXS w w' ∧ Pl k' w' b px (P.vol (P.r.gossip n m).1) := by
  have hs := sim_gossip h.2.inv n m
  refine pl_call h hs.2 (goes_gossip h.2.saf n m) (by rw [gossip_pens]) ?_
  have hc := xgossip_any h.1.1 h.2.inv.xok n m
  rw [← hs.1] at hc
  exact hc
theorem pl_crash (h : Pl k w b px P) (n : Int) : Calls Try.prog 30 #[.pointer (some ⟨px, 0, none⟩), .int .i64 n] w fun e w' => e = .returned (.int .i64 (P.r.crash n).2) ∧ ∃ k', Evo k k' cXS w w' ∧ Pl k' w' b px (P.vol (P.r.crash n).1) := by
  have hs := sim_crash h.2.inv n
  refine pl_call h hs.2 (goes_crash h.2.inv h.2.saf n) (by rw [crash_pens]) ?_
  have hc := xcrash_any h.1.1 n
  rw [← hs.1] at hc
  exact hc
theorem pl_restart (h : Pl k w b px P) (n : Int) : Calls Try.prog 31 #[.pointer (some ⟨px, 0, none⟩), .int .i64 n] w fun e w' => e = .returned (.int .i64 (P.r.restart n).2) ∧ ∃ k', Evo k k' cXS w w' ∧ Pl k' w' b px (P.vol (P.r.restart n).1) := by
  have hs := sim_restart h.2.inv n
  refine pl_call h hs.2 (goes_restart h.2.inv h.2.saf n) (by rw [restart_pens]) ?_
  have hc := xrestart_any h.1.1 n
  rw [← hs.1] at hc
  exact hc
theorem pl_read (h : Pl k w b px P) (n m : Int) : Calls Try.prog 21 #[.pointer (some ⟨px, 0, none⟩), .int .i64 n, .int .i64 m] w fun e w' => e = .returned (.tuple #[.int .i64 (P.r.read n m).2.1, .int .i64 (P.r.read n m).2.2]) ∧ ∃ k', Evo k k' cXS w w' ∧ Pl k' w' b px (P.vol (P.r.read n m).1) := by
  have hs := sim_read h.2.inv n m
  refine pl_call h hs.2 (goes_read h.2.inv h.2.saf n m) (read_len _ _ _) ?_
  have hc := xread_any h.1.1 n m
  rw [← hs.1] at hc
  exact hc
theorem pl_flight (h : Pl k w b px P) : Calls Try.prog 55 #[.pointer (some ⟨px, 0, none⟩)] w fun e w' => e = .returned (.int .i64 (flightOf P.r.net)) ∧ w' = w := by
  obtain ⟨vM, vW, sr, wr, hBk, hM, _, _⟩ := h.1.1.ex
  obtain ⟨a, cap, hv, _⟩ := msgs_cells hM
  subst hv
  have := xflight_any w px a _ cap (hBk.cell 2)
  rw [← liveOf_len]
  exact this
theorem pl_writer (h : Pl k w b px P) (i : Nat) (p : RPen) (hp : P.r.pens[i]? = some p) : Calls Try.prog 66 #[.pointer (some ⟨px, 0, none⟩), .int .i64 ((i : Int) + 1)] w fun e w' => e = .returned (.tuple #[wstV p.stands, .int .i64 0]) ∧ Below w.heap.size w w' := by
  have hil := (List.getElem?_eq_some_iff.1 hp).1
  have hc := xwriter_in h.1.1 i (by simpa [xvol] using hil)
  have hwa : ∀ hl : i < (xvol P.r).wrs.length, (xvol P.r).wrs[i] = xpen ((i : Int) + 1) P.r.pens[i] := fun hl => by simp [xvol]
  rw [hwa] at hc
  have : P.r.pens[i] = p := by rw [List.getElem?_eq_getElem hil] at hp; exact Option.some.inj hp
  rw [this] at hc
  exact hc
theorem Pl.ptr (h : Pl k w b px P) : w.cell? ⟨b, 0, none⟩ = some (.pointer (some ⟨px, 0, none⟩)) ∧ b < w.heap.size := by
  obtain ⟨vP, gs, ho⟩ := h.1.2
  exact ⟨ho.blk.cell 0, ho.blk.lt⟩
theorem Pl.evo (h : Pl k w b px P) {k' : Nat → Nat} {w' : World} {C : Nat → Prop} (ev : Evo k k' C w w') (hC : ∀ c, 100 ≤ c → c < 390 → ¬ C c) (hI : ¬ C IM) : Pl k' w' b px P := ⟨h.1.evo ev hC hI h.2.p9, h.2⟩
theorem Pl.below (h : Pl k w b px P) {w' : World} (hb : Below w.heap.size w w') : Pl k w' b px P := h.evo (Evo.of_below (C := noC) hb) (fun c _ _ => noC_not c) (noC_not _)
end
end Go.Proofs.Ytfpbkghcjaonlaa.Sim

/-
  sixfoldlaw's player: open.
-/
namespace Go.Proofs.Ytfpbkghcjaonlaa.Sim
open Go.RowKit

theorem Try.infoPenPtr2 : (Try.prog.info? 41).map (fun i => (i.zero, i.size, i.bytes)) = some (some (.pointer none), 1, 8) := by kernel_rfl

def ppen0 : PPen := ⟨[], [], ⟨0, 0, 0, 0⟩⟩
def PSt.opened (P : PSt) : PSt := { P with r := P.r.open_.1, pens := P.pens ++ [ppen0] }

theorem open_eq {r : RVol} (h : r.pens.length < 9) : r.open_ = (r.opened.sendUp (fenceMsg ((r.pens.length : Int) + 1)) 6, (r.pens.length : Int) + 1, 0) := by unfold RVol.open_; rw [if_neg (by omega)]
theorem open_pens {r : RVol} (h : r.pens.length < 9) : r.open_.1.pens = r.pens ++ [pen0] := by rw [open_eq h]; simp only; rw [sendUp_pens]; rfl
theorem pen0_stands : pen0.stands = ⟨1, 0, 0, 0⟩ := by unfold RPen.stands pen0; simp

theorem PlInv.opened {P : PSt} (h : PlInv P) (h9 : P.r.pens.length < 9) : PlInv P.opened := by
  have g := goes_open h.inv h.saf
  have hp := open_pens h9
  have hl := h.len
  refine ⟨(sim_open h.inv).2, g.saf, ?_, fun i q p hq hp' => ?_, h.sl, h.vl, fun n hn => ?_⟩
  · show (P.pens ++ [ppen0]).length = P.r.open_.1.pens.length
    rw [hp]; simp [hl]
  · have hq : (P.pens ++ [ppen0])[i]? = some q := hq
    have hp' : P.r.open_.1.pens[i]? = some p := hp'
    rw [hp] at hp'
    by_cases hi : i < P.pens.length
    · rw [List.getElem?_append_left hi] at hq
      rw [List.getElem?_append_left (by omega)] at hp'
      exact h.pen i q p hq hp'
    · rw [List.getElem?_append_right (by omega)] at hq hp'
      have e1 := List.mem_singleton.1 (List.mem_of_getElem? hq)
      have e2 := List.mem_singleton.1 (List.mem_of_getElem? hp')
      subst e1 e2
      refine ⟨rfl, rfl, ?_⟩
      rw [pen0_stands]
      exact ⟨by decide, by decide, by decide, by decide, fun h => by simp [ppen0] at h⟩
  · obtain ⟨v, h1, h2⟩ := h.sw n hn
    exact ⟨v, h1, h2.goes g.toGoes0⟩

theorem pl_vopen {k : Nat → Nat} {w : World} {b px : Nat} {P : PSt} (h : Pl k w b px P) (h9 : P.r.pens.length < 9) : Calls Try.prog 26 #[.pointer (some ⟨px, 0, none⟩)] w fun e w' => e = .returned (.tuple #[.int .i64 ((P.r.pens.length : Int) + 1), .int .i64 0]) ∧ ∃ k', Evo k k' cXS w w' ∧ PlIs k' w' b px (P.vol P.r.open_.1) := by
  have hs := sim_open h.2.inv
  have hc := xopen_any h.1.1 h.2.inv.xok
  rw [← hs.1] at hc
  have he := open_eq h9
  have e2 : P.r.open_.2 = ((P.r.pens.length : Int) + 1, 0) := by rw [he]
  simp only at hc
  rw [e2] at hc
  refine hc.mono ?_
  rintro e w' ⟨rfl, k', ev, hx⟩
  exact ⟨rfl, k', ev, h.1.vol h.2.p9 (goes_open h.2.inv h.2.saf).wi ev hx⟩

def colourPn (n j : Nat) (k : Nat → Nat) (g : Nat) : Nat := if g < n then k g else if g = n then 310 + 4 * j else 0

set_option maxHeartbeats 4000000 in
theorem pl_open {k : Nat → Nat} {w : World} {b px : Nat} {P : PSt} (h : Pl k w b px P) (h9 : P.r.pens.length < 9) :
    Calls Try.prog 11 #[.pointer (some ⟨b, 0, none⟩)] w fun e w' => e = .returned (.bool true) ∧ ∃ k', Evo k k' cPS w w' ∧ Pl k' w' b px P.opened := by
  have HV := hide (pl_vopen h h9)
  have HI := hide (h.2.opened h9)
  have hlen := h.2.len
  obtain ⟨z0, hbl⟩ := h.ptr
  clear h
  go_enter Try.func11, Try.ntmps11
  go_wp2_with fail
  refine HV.out.mono ?_
  rintro e1 w1 ⟨rfl, k1, ev1, hx1, vP, gs, ho⟩
  clear z0 hbl HV
  have hgl : gs.length = P.pens.length := ho.len
  have hB := ho.blk
  obtain ⟨pa, pcap, hpf, _⟩ := ho.arr.form
  simp only [List.length_map] at hpf
  have y3 : w1.cell? ⟨b, 3, none⟩ = some vP := hB.cell 3
  have hbl := hB.lt
  subst hpf
  obtain ⟨W2, hW2⟩ : ∃ W2, W2 = ((w1.alloc (Obj.cells #[.slice none 0 0, .slice none 0 0, .int .i64 0, .int .i64 0, .int .i64 0, .int .i64 0] 40)).alloc (Obj.cells #[.pointer (some ⟨w1.heap.size, 0, none⟩)] 41)) := ⟨_, rfl⟩
  have e2 : Evo k1 (colourPn w1.heap.size P.pens.length k1) noC w1 W2 := by rw [hW2]; exact (((Evo.refl k1 noC w1).alloc _).alloc _).recolour _ (fun i hi => if_pos hi)
  have q0 : W2.heap[w1.heap.size]? = some (.cells #[.slice none 0 0, .slice none 0 0, .int .i64 0, .int .i64 0, .int .i64 0, .int .i64 0] 40 (0, 0)) := by
    rw [hW2, Below.heap_alloc _ _ _ (by simp)]; exact heap_alloc_new w1 _
  have q1 : W2.heap[w1.heap.size + 1]? = some (.cells #[.pointer (some ⟨w1.heap.size, 0, none⟩)] 41 (0, 0)) := by
    rw [hW2]; exact heap_alloc2_new w1 _ _
  have hnews : ∀ x u, ([ptrRow w1.heap.size] : List (List Value)).flatten[x]? = some u → ((w1.alloc (Obj.cells #[.slice none 0 0, .slice none 0 0, .int .i64 0, .int .i64 0, .int .i64 0, .int .i64 0] 40)).alloc (Obj.cells #[.pointer (some ⟨w1.heap.size, 0, none⟩)] 41)).cell? ((⟨w1.heap.size + 1, 0, none⟩ : Addr).add x) = some u := fun x u hx => by
    rw [← hW2, Addr.add_lit, Nat.zero_add]
    rw [cell_of_row _ _ x _ _ _ q1]
    simpa [ptrRow] using hx
  have hP2 : PlPen (colourPn w1.heap.size P.pens.length k1) W2 P.pens.length w1.heap.size ppen0 := by
    refine ⟨_, _, ⟨q0, ?_⟩, Rows.nil _ _ _ _ _, Rows.nil _ _ _ _ _⟩
    unfold colourPn; rw [if_neg (by omega), if_pos rfl]
  have hp9 : P.pens.length ≤ 8 := by omega
  have hoa : PlOwn _ _ _ _ _ _ _ := ho.evo e2 (fun c _ _ => noC_not c) (show P.pens.length ≤ 9 by omega)
  have hxa := hx1.evo e2 (noC_not _) (fun c _ _ => noC_not c)
  have hR2 := hoa.arr
  have hB2 := hoa.blk
  rw [hW2] at hR2 hB2
  have hg8 : gs.length ≤ 8 := by omega
  have hee : ((P.r.pens.length : Int) + 1 == (gs.length : Int) + 1) = true := by simp; omega
  have HW := hide (And.intro hW2 (And.intro hP2 (And.intro hoa (And.intro hxa (And.intro e2 ev1)))))
  have HL := hide (And.intro hgl hlen)
  clear hW2 hP2 hoa hxa ho hB q0 q1 e2 ev1 hx1 hgl hlen
  go_wp2_with (at_builtin; go_must (refine wpList_append_rows (colourPn w1.heap.size P.pens.length k1) 301 (.tmp 17) (.tmp 20) 43 41 _ 1 8 _ (gs.map ptrRow) [ptrRow w1.heap.size] gs.length ⟨w1.heap.size + 1, 0, none⟩ 1 1 (by simp) rfl rfl Try.underlying43 Try.infoPenPtr2 rfl (by decide) rfl rfl hR2 rfl (by simp [ptrRow]) hnews (by simp [ptrRow, Value.oneCell']) (by simp only [maxLen]; omega) (by omega) ?_; intro ao1 cap1 w3 k3 hR3 hE3; have hB3 := hB2.evo hE3 (by decide); have x3 : w3.cell? ⟨b, 3, none⟩ = some (.slice pa gs.length pcap) := hB3.cell 3; have xf := hB3.free 3; have hbl3 := hB3.lt))
  go_ret
  refine ⟨by simp, ?_⟩
  obtain ⟨hgl, hlen⟩ := HL.out
  obtain ⟨hW2, hP2, hoa, hxa, e2, ev1⟩ := HW.out
  rw [← hW2] at hE3 hB2
  obtain ⟨f1, f2, f3⟩ := push_fin (Evo.refl _ noC W2) hB2 (by decide) hR3 hE3 3
  refine ⟨k3, ?_, ⟨hxa.evo f1 (by decide) (fun c a b => by omega), _, gs ++ [w1.heap.size], f2, by rw [List.map_append]; exact f3, by simp [PSt.opened, hgl], fun i a c => ?_⟩, HI.out⟩
  · exact (ev1.mono (fun c h => by unfold cXS at h; unfold cPS; omega)).trans ((e2.mono (fun _ h => h.elim)).trans (f1.mono (fun c h => by unfold cPS; omega)))
  · by_cases hib : i < gs.length
    · have e1 : (gs ++ [w1.heap.size])[i]'a = gs[i] := List.getElem_append_left hib
      have e3 : (P.opened.pens)[i]'c = P.pens[i]'(by omega) := List.getElem_append_left (by omega)
      rw [e1, e3]
      exact (hoa.pen i hib (by show i < P.pens.length; omega)).evo f1 (fun c x y => by omega) (by omega)
    · have hip : i = P.pens.length := by simp at a; omega
      subst hip
      have e1 : (gs ++ [w1.heap.size])[P.pens.length]'a = w1.heap.size := by rw [List.getElem_append_right (by omega)]; simp
      have e3 : (P.opened.pens)[P.pens.length]'c = ppen0 := last_get P.pens ppen0 c
      rw [e1, e3]
      exact hP2.evo f1 (fun c x y => by omega) (by omega)
end Go.Proofs.Ytfpbkghcjaonlaa.Sim

/-
  sixfoldlaw's player: appends.
-/
namespace Go.Proofs.Ytfpbkghcjaonlaa.Sim
open Go.RowKit

theorem append_ne3 {r : RVol} {i : Nat} (hi : i < r.pens.length) (v : Int) : (r.append ((i : Int) + 1) v).2.2 ≠ 3 := by
  have hm : r.may ((i : Int) + 1) = (r.pens[i].stands, if r.pens[i].stands.phase = 4 then 4 else 0) := by
    unfold RVol.may writerAt
    rw [if_neg (by omega), show ((i : Int) + 1).toNat - 1 = i from by omega, List.getElem?_eq_getElem hi]
  unfold RVol.append
  rw [hm]
  simp only
  repeat' split
  all_goals simp
def PSt.appended (P : PSt) (i : Nat) (v : Int) : PSt := { P with r := (P.r.append ((i : Int) + 1) v).1, pens := match P.pens[i]? with | some q => P.pens.set i { q with lsns := q.lsns ++ [(P.r.append ((i : Int) + 1) v).2.1], values := q.values ++ [v] } | none => P.pens }

theorem lsns_snoc (p : RPen) (v : Int) : lsnsOf { p with values := p.values ++ [v] } = lsnsOf p ++ [(baseOf p.fenced : Int) + (p.values.length : Int) + 1] := by
  unfold lsnsOf
  simp only [List.length_append, List.length_singleton, List.range_succ, List.map_append, List.map_cons, List.map_nil]
  congr 2
  omega
theorem PlInv.appended {P : PSt} (h : PlInv P) {i : Nat} (hi : i < P.pens.length) (v : Int) (h0 : (P.r.append ((i : Int) + 1) v).2.2 = 0) : PlInv (P.appended i v) := by
  obtain ⟨_, g, hy⟩ := goes_append h.inv h.saf ((i : Int) + 1) v
  obtain ⟨j, p, hj, hp, hov, hf4, hfo, h40, hn, hps⟩ := hy h0
  have hij : j = i := by omega
  subst hij
  have hq : P.pens[j]? = some P.pens[j] := List.getElem?_eq_getElem hi
  have hil := (List.getElem?_eq_some_iff.1 hp).1
  have hpe : (P.appended j v).pens = P.pens.set j { P.pens[j] with lsns := P.pens[j].lsns ++ [(P.r.append ((j : Int) + 1) v).2.1], values := P.pens[j].values ++ [v] } := by unfold PSt.appended; rw [hq]
  refine ⟨(sim_append h.inv _ v).2, g.saf, ?_, fun a q p' hq' hp' => ?_, h.sl, h.vl, fun n hn => ?_⟩
  · rw [hpe]
    show _ = (P.r.append ((j : Int) + 1) v).1.pens.length
    rw [hps]
    simp [h.len]
  · rw [hpe] at hq'
    have hp' : (P.r.append ((j : Int) + 1) v).1.pens[a]? = some p' := hp'
    rw [hps] at hp'
    by_cases e : j = a
    · subst e
      rw [List.getElem?_set_self hi] at hq'
      rw [List.getElem?_set_self hil] at hp'
      have e1 := Option.some.inj hq'
      have e2 := Option.some.inj hp'
      obtain ⟨a1, a2, a3⟩ := h.pen j _ p hq hp
      obtain ⟨p2, hp2, hw⟩ := g.pens j p hp
      rw [hps, List.getElem?_set_self hil] at hp2
      rw [← Option.some.inj hp2] at hw
      subst e1 e2
      refine ⟨by simp only [a1], ?_, a3.trans hw⟩
      simp only [a2, hn]
      rw [lsns_snoc]
    · rw [List.getElem?_set_ne e] at hq' hp'
      exact h.pen a q p' hq' hp'
  · obtain ⟨x, h1, h2⟩ := h.sw n hn
    exact ⟨x, h1, h2.goes g⟩

theorem pl_vappend {k : Nat → Nat} {w : World} {b px : Nat} {P : PSt} (h : Pl k w b px P) (n v : Int) : Calls Try.prog 38 #[.pointer (some ⟨px, 0, none⟩), .int .i64 n, .int .i64 v] w fun e w' => e = .returned (.tuple #[.int .i64 (P.r.append n v).2.1, .int .i64 (P.r.append n v).2.2]) ∧ ∃ k', Evo k k' cXS w w' ∧ PlIs k' w' b px (P.vol (P.r.append n v).1) := by
  have hs := sim_append h.2.inv n v
  have hc := xappend_any h.2.inv h.1.1 n v
  rw [← hs.1] at hc
  refine hc.mono ?_
  rintro e w' ⟨rfl, k', ev, hx⟩
  exact ⟨rfl, k', ev, h.1.vol h.2.p9 (goes_append h.2.inv h.2.saf n v).2.1.wi ev hx⟩

set_option maxHeartbeats 4000000 in
theorem pl_appends_no {k : Nat → Nat} {w : World} {b px : Nat} {P : PSt} (h : Pl k w b px P) (i : Nat) (hi : i < P.pens.length) (v : Int) (h0 : (P.r.append ((i : Int) + 1) v).2.2 ≠ 0) :
    Calls Try.prog 18 #[.pointer (some ⟨b, 0, none⟩), .int .i64 ((i : Int) + 1), .int .i64 v] w fun e w' => e = .returned (.tuple #[.bool false, .bool true]) ∧ ∃ k', Evo k k' cPS w w' ∧ Pl k' w' b px P := by
  have HV := hide (pl_vappend h ((i : Int) + 1) v)
  have H2 := hide h.2
  have hl := h.2.len
  obtain ⟨z0, hbl⟩ := h.ptr
  have h3 := append_ne3 (r := P.r) (i := i) (by omega) v
  obtain ⟨e1, e2, e3⟩ := (goes_append h.2.inv h.2.saf ((i : Int) + 1) v).1 h0
  rw [e1, e2] at HV
  generalize (P.r.append ((i : Int) + 1) v).2.2 = er at *
  clear h e1 e2 hl
  have e4 : er = 4 ∨ er = 5 ∨ er = 6 ∨ er = 7 := by omega
  clear e3 h0 h3
  rcases e4 with rfl | rfl | rfl | rfl
  all_goals
    go_enter Try.func18, Try.ntmps18
    go_wp2_with fail
    refine HV.out.mono ?_
    rintro e1 w1 ⟨rfl, k1, ev1, hx1⟩
    go_wp2_with fail
    go_ret2
    exact ⟨rfl, k1, ev1.mono (fun c h => by unfold cXS at h; unfold cPS; omega), hx1, H2.out⟩

theorem ints_last {k : Nat → Nat} {w : World} {c : Nat} {a : Option Addr} {n cap : Nat} {l : List Int} (h : Rows k w c 3 1 (.slice a n cap) (l.map intRow)) (j : Nat) (hj : j < l.length) : ∃ g, a = some ⟨g, 0, none⟩ ∧ g < w.heap.size ∧ w.cell? ⟨g, j, none⟩ = some (.int .i64 l[j]) := by
  obtain ⟨g, cap', he, _, hlt, _, hc, _⟩ := h.at (by simp; omega)
  simp only [Value.slice.injEq] at he
  refine ⟨g, he.1, hlt, ?_⟩
  have := hc j 0 (by simpa using hj) (by decide)
  simpa [intRow] using this
theorem ptrs_at {k : Nat → Nat} {w : World} {c t : Nat} {v : Value} {l : List Nat} (h : Rows k w c t 1 v (l.map ptrRow)) (j : Nat) (hj : j < l.length) : ∃ g cap, v = .slice (some ⟨g, 0, none⟩) l.length cap ∧ g < w.heap.size ∧ w.cell? ⟨g, j, none⟩ = some (.pointer (some ⟨l[j], 0, none⟩)) := by
  obtain ⟨g, cap', he, _, hlt, _, hc, _⟩ := h.at (by simp; omega)
  refine ⟨g, cap', by simpa using he, hlt, ?_⟩
  have := hc j 0 (by simpa using hj) (by decide)
  simpa [ptrRow] using this
end Go.Proofs.Ytfpbkghcjaonlaa.Sim
