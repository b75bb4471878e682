import Derived.Test.YtfpbkghcjaonlaaJ26
import Derived.Test.YtfpbkghcjaonlaaRows
import Derived.WalkKit
import Derived.ProofKit
import Derived.OpenShut
import Derived.ChangeOld
import Derived.Below
import Derived.JoinedCond
import Derived.Deep.Slices
import Derived.Lib.SmallJoins
/-
  sixfoldlaw: Solid, walked.
-/
namespace Go.Proofs.Ytfpbkghcjaonlaa.Sim
open Go.RowKit

/-- A script in memory. -/
def ScriptIs (w : World) (sa : Option Addr) (n : Nat) : Prop :=
  ∀ i, i < n → ∃ (g o : Nat) (K A B : Int), sa = some ⟨g, o, none⟩ ∧ g < w.heap.size ∧ w.cell? ⟨g, o + i * 3, none⟩ = some (.int .i64 K) ∧ w.cell? ⟨g, o + i * 3 + 1, none⟩ = some (.int .i64 A) ∧ w.cell? ⟨g, o + i * 3 + 2, none⟩ = some (.int .i64 B) ∧ i64R A ∧ i64R B
theorem ScriptIs.below {w w' : World} {sa : Option Addr} {n : Nat} (h : ScriptIs w sa n) (hb : Below w.heap.size w w') : ScriptIs w' sa n := by
  intro i hi
  obtain ⟨g, o, K, A, B, h1, h2, h3, h4, h5, h6⟩ := h i hi
  have hs := hb.size
  exact ⟨g, o, K, A, B, h1, by omega, (hb.cell (p := ⟨g, o + i * 3, none⟩) h2).trans h3, (hb.cell (p := ⟨g, o + i * 3 + 1, none⟩) h2).trans h4, (hb.cell (p := ⟨g, o + i * 3 + 2, none⟩) h2).trans h5, h6⟩
theorem below_evo {k k' : Nat → Nat} {w w1 wr : World} (hb : Below w.heap.size w w1) (hk : ∀ g, g < w.heap.size → k g = 0) (ev : Evo k k' cPS w1 wr) : Below w.heap.size w wr := by
  have hs := hb.size
  refine ⟨ev.os.trans hb.os, ev.tape.trans hb.tape, ev.output.trans hb.output, Nat.le_trans hs ev.size, fun i hi => ?_⟩
  exact (ev.keep i (by omega) (by rw [hk i hi]; unfold cPS; omega)).trans (hb.block i hi)
/-- Where a law stands. -/
def LawP (w wr : World) (b px : Nat) (P : PSt) : Prop := ∃ k w1 k', Below w.heap.size w w1 ∧ (∀ g, g < w.heap.size → k g = 0) ∧ Evo k k' cPS w1 wr ∧ Pl k' wr b px P
section
variable {w wr : World} {b px : Nat} {P : PSt}
theorem LawP.below (h : LawP w wr b px P) : Below w.heap.size w wr := by
  obtain ⟨k, w1, k', h1, h2, h3, _⟩ := h
  exact below_evo h1 h2 h3
theorem LawP.inv (h : LawP w wr b px P) : PlInv P := by
  obtain ⟨k, w1, k', h1, h2, h3, h4⟩ := h
  exact h4.2
theorem LawP.lt (h : LawP w wr b px P) : b < wr.heap.size := by
  obtain ⟨k, w1, k', h1, h2, h3, h4⟩ := h
  exact h4.ptr.2
theorem LawP.ptr (h : LawP w wr b px P) : wr.cell? ⟨b, 0, none⟩ = some (.pointer (some ⟨px, 0, none⟩)) := by
  obtain ⟨k, w1, k', h1, h2, h3, h4⟩ := h
  exact h4.ptr.1
theorem LawP.on (h : LawP w wr b px P) {w' : World} (hb : Below wr.heap.size wr w') : LawP w w' b px P := by
  obtain ⟨k, w1, k', h1, h2, h3, h4⟩ := h
  exact ⟨k, w1, k', h1, h2, h3.trans (Evo.of_below hb), h4.below hb⟩
theorem LawP.call (h : LawP w wr b px P) {F : Nat} {args : Array Value} {Q : Ending → PSt → Prop} (H : ∀ k' W, Pl k' W b px P → Calls Try.prog F args W fun e w' => ∃ P' k'', Q e P' ∧ Evo k' k'' cPS W w' ∧ Pl k'' w' b px P') :
    Calls Try.prog F args wr fun e w' => ∃ P', Q e P' ∧ LawP w w' b px P' := by
  obtain ⟨k, w1, k', h1, h2, h3, h4⟩ := h
  refine (H k' wr h4).mono ?_
  rintro e w' ⟨P', k'', hq, e2, h5⟩
  exact ⟨P', hq, k, w1, k'', h1, h2, h3.trans e2, h5⟩
theorem LawP.act (h : LawP w wr b px P) (K A B : Int) (hA : i64R A) (hB : i64R B) (hm : P.most ≤ 9) :
    Calls Try.prog 12 #[.pointer (some ⟨b, 0, none⟩), .agg #[.int .i64 K, .int .i64 A, .int .i64 B]] wr fun e w' => ∃ P', (e = .returned (.bool true) ∧ PStep P P') ∧ LawP w w' b px P' :=
  h.call (Q := fun e P' => e = .returned (.bool true) ∧ PStep P P') (fun _ _ hW => (pl_act hW K A B hA hB hm).mono (fun _ _ ⟨e1, P', k2, e2, e3, e4⟩ => ⟨P', k2, ⟨e1, e2⟩, e3, e4⟩))
theorem LawP.open_ (h : LawP w wr b px P) (h9 : P.r.pens.length < 9) :
    Calls Try.prog 11 #[.pointer (some ⟨b, 0, none⟩)] wr fun e w' => ∃ P', (e = .returned (.bool true) ∧ P' = P.opened) ∧ LawP w w' b px P' :=
  h.call (Q := fun e P' => e = .returned (.bool true) ∧ P' = P.opened) (fun _ _ hW => (pl_open hW h9).mono (fun _ _ ⟨e1, k2, e3, e4⟩ => ⟨P.opened, k2, ⟨e1, rfl⟩, e3, e4⟩))
theorem LawP.all (h : LawP w wr b px P) :
    Calls Try.prog 14 #[.pointer (some ⟨b, 0, none⟩)] wr fun e w' => ∃ P', (e = .returned (.bool true) ∧ Asked P P' P.pens.length) ∧ LawP w w' b px P' :=
  h.call (Q := fun e P' => e = .returned (.bool true) ∧ Asked P P' P.pens.length) (fun _ _ hW => (pl_all hW).mono (fun _ _ ⟨e1, P', k2, e2, e3, e4⟩ => ⟨P', k2, ⟨e1, e2⟩, e3, e4⟩))
theorem LawP.solid (h : LawP w wr b px P) :
    Calls Try.prog 13 #[.pointer (some ⟨b, 0, none⟩)] wr fun e w' => ∃ P', (e = .returned (.bool true) ∧ P' = P) ∧ LawP w w' b px P' :=
  h.call (Q := fun e P' => e = .returned (.bool true) ∧ P' = P) (fun _ _ hW => (pl_solid hW).mono (fun _ _ ⟨e1, k2, e3, e4⟩ => ⟨P, k2, ⟨e1, rfl⟩, e3, e4⟩))
end
theorem lawP_player (w W : World) (hW : Below w.heap.size w W) (wi fl most : Int) (hc : 1 ≤ wi ∧ wi ≤ 8 ∧ 1 ≤ fl ∧ fl ≤ 200) :
    Calls Try.prog 9 #[.agg #[.int .i64 wi, .int .i64 fl], .int .i64 most] W fun e w' => ∃ b px, e = .returned (.pointer (some ⟨b, 0, none⟩)) ∧ LawP w w' b px ⟨r0 wi fl, [], most, List.replicate 41 false, List.replicate 41 0⟩ := by
  refine (player_any W wi fl most hc).mono ?_
  rintro e w' ⟨b, px, k', rfl, hp, hb, hk⟩
  have hs := hW.size
  exact ⟨b, px, rfl, k', w', k', hW.trans (hb.mono hs), fun g hg => hk g (by omega), Evo.refl _ _ _, hp⟩

set_option maxRecDepth 3000 in
set_option maxHeartbeats 8000000 in
theorem solid_law (w : World) (a b : Int) (ha : i64R a) (hb : i64R b) (sa : Option Addr) (n cap : Nat) (hn : n ≤ 9223372036854775807) (hs : ScriptIs w sa n) :
    Calls Try.prog 3 #[.agg #[.int .i64 a, .int .i64 b], .slice sa n cap] w fun e w' => e = .returned (.bool true) ∧ Below w.heap.size w w' := by
  have HSc := hide hs
  have HC := hide (fun W => config_any W a b ha hb)
  clear hs ha hb
  go_enter Try.func3, Try.ntmps3
  go_wp2_with fail
  refine (HC.out _).mono ?_
  rintro e1 w1 ⟨wi, fl, rfl, hc, hb1⟩
  have HB1 : Hid (Below w.heap.size w w1) := hide (((Below.refl w.heap.size w).alloc (Nat.le_refl _) _).trans (hb1.mono (by simp)))
  have HPl := hide (lawP_player w w1 HB1.out wi fl 7 hc)
  clear hc hb1
  go_wp2_with fail
  refine HPl.out.mono ?_
  rintro e2 w2 ⟨pb, px, rfl, h2⟩
  have HO := hide (h2.open_ (by simp [r0]))
  clear h2 HPl
  go_wp2_with fail
  refine HO.out.mono ?_
  rintro e3 w3 ⟨P3, ⟨rfl, hP3⟩, h3⟩
  have H3 : Hid (LawP w w3 pb px P3 ∧ P3.most = 7) := hide ⟨h3, by rw [hP3]; rfl⟩
  clear h3 hP3 HO
  go_wp2_with fail
  go_loopw [7] (fun v wr => ∃ j : Nat, j ≤ n ∧ v = .int .i64 j ∧ ∃ P', Hid (LawP w wr pb px P' ∧ P'.most = 7)) (fun v _ => n - (intOf v).toNat)
  case atStart => exact ⟨0, Nat.zero_le _, rfl, P3, H3⟩
  case round =>
    obtain ⟨j, hj, rfl, P', hst⟩ := hrel
    by_cases hlt : j < n
    · have hd : decide ((j : Int) < (n : Int)) = true := by simp; omega
      obtain ⟨sg, so, K, A, B, rfl, hsg, s0, s1, s2, hA, hB⟩ := HSc.out.below hst.out.1.below j hlt
      have HAct := hide (hst.out.1.act K A B hA hB (by rw [hst.out.2]; decide))
      have HM := hide hst.out.2
      have HBr := hide hst.out.1.below
      have hw : IntKind.i64.wrap ((j : Int) + 1) = ((j + 1 : Nat) : Int) := by rw [IntKind.wrap_i64] <;> omega
      clear hst
      go_wp2_with fail
      refine HAct.out.mono ?_
      rintro e4 w4 ⟨P4, ⟨rfl, hstep⟩, h4⟩
      obtain ⟨sg', so', K', A', B', hse, hsg', s0', -⟩ := HSc.out.below h4.below j hlt
      have HS4 := hide h4.solid
      have H4 : Hid (LawP w w4 pb px P4 ∧ P4.most = 7) := hide ⟨h4, by rw [hstep.1, HM.out]⟩
      simp only [Option.some.injEq, Addr.mk.injEq, and_true] at hse
      obtain ⟨rfl, rfl⟩ := hse
      clear h4 hstep s0 s1 s2 hsg
      by_cases hK : K' = 15
      · subst hK
        go_wp2_with fail
        refine HS4.out.mono ?_
        rintro e5 w5 ⟨P5, ⟨rfl, rfl⟩, h5⟩
        have H5 : Hid (LawP w w5 pb px P5 ∧ P5.most = 7) := hide ⟨h5, H4.out.2⟩
        clear h5
        go_wp2_with fail
        go_roundw
        case rel => exact ⟨j + 1, by omega, by go_num, P5, H5⟩
        case measure => simp [intOf]; omega
      · have hk : (K' == 15) = false := by simpa using hK
        go_wp2_with fail
        go_roundw
        case rel => exact ⟨j + 1, by omega, by go_num, P4, H4⟩
        case measure => simp [intOf]; omega
    · have hd : decide ((j : Int) < (n : Int)) = false := by simp; omega
      have HA := hide hst.out.1.all
      clear hst
      go_wp2_with fail
      refine HA.out.mono ?_
      rintro e4 w4 ⟨P4, ⟨rfl, -⟩, h4⟩
      have HS := hide h4.solid
      clear h4
      go_wp2_with fail
      refine HS.out.mono ?_
      rintro e5 w5 ⟨P5, ⟨rfl, rfl⟩, h5⟩
      go_wp2_with fail
      go_ret
      exact ⟨rfl, h5.below⟩
end Go.Proofs.Ytfpbkghcjaonlaa.Sim

/-
  A script that came in (the player's laws).
-/
namespace Go.Proofs.Ytfpbkghcjaonlaa
open Go.ChangeShapes Go.WideShapes Go.ChangeAt Go.RowKit Go.Joins

theorem Try.own2 : ownKnob Try.prog.godebug = none := by kernel_rfl
theorem Try.laidOut2 : laidOutB Try.prog = true := by kernel_rfl
theorem Try.cellsConfig2 : Try.prog.cellsOf 23 = 2 := by kernel_rfl
theorem Try.cellsAct : Try.prog.cellsOf 31 = 3 := by kernel_rfl

theorem wf_i64R {n : Int} (h : (Lit.int .i64 n).wf = true) : Sim.i64R n := by
  have : -9223372036854775808 ≤ n ∧ n ≤ 9223372036854775807 := by simpa [Lit.wf, IntKind.min, IntKind.max, IntKind.signed, IntKind.bits] using h
  exact this

theorem addr_spot {w : World} {a : Addr} {u : Value} (h : w.cell? (a.add 0) = some u) : a = ⟨a.block, a.off, none⟩ := by
  obtain ⟨b, o, sp⟩ := a
  cases sp with
  | none => rfl
  | some x =>
    exfalso
    have h0 : Addr.add ⟨b, o, some x⟩ 0 = ⟨b, o, some x⟩ := by unfold Addr.add; rfl
    rw [h0] at h
    unfold World.cell? at h
    split at h
    · simp at h
    · simp at h
theorem list3 {l : List Value} (h : l.length = 3) : ∃ a b c, l = [a, b, c] := by
  match l, h with
  | [a, b, c], _ => exact ⟨a, b, c, rfl⟩

set_option maxRecDepth 100000 in
/-- The script, as the law asks for it. -/
theorem open_script {H : Type} {enc : TypeId × Value → H} {w : World} {base : Nat} {spare : Nat → Bool} {held : Bool} {fuel : Nat} {cs : List Value} {x : DataW H × List MemPlace} (h : DataW.trod enc Try.prog w base spare held fuel 24 cs = some x) :
    ∃ (sa : Option Addr) (n cap : Nat), cs = [.slice sa n cap] ∧ n ≤ 9223372036854775807 ∧ Sim.ScriptIs w sa n := by
  rcases Deep.open_slice Try.underlying24 h with ⟨rfl, rfl⟩ | ⟨a, len, cap, m, n, D, Pl, rfl, hb, hl, hm, hmm, rfl, hx⟩
  · exact ⟨none, 0, 0, rfl, by omega, fun i hi => by omega⟩
  · refine ⟨some a, len, cap, rfl, ?_, fun i hi => ?_⟩
    · simp only [maxLen] at hm
      omega
    · have him : i < m := by rw [hmm]; split <;> omega
      obtain ⟨cs', h1, h2⟩ := hx i him
      rw [Try.cellsAct] at h1
      obtain ⟨_, hlen, hcell⟩ := World.cells?_some h1
      obtain ⟨v0, v1, v2, rfl⟩ := list3 hlen
      have e0 := hcell 0 (by omega)
      have e1 := hcell 1 (by omega)
      have e2 := hcell 2 (by omega)
      rw [Deep.add_add] at e0 e1 e2
      have hsp : a = ⟨a.block, a.off, none⟩ := by
        obtain ⟨cs0, z1, _⟩ := hx 0 (by omega)
        rw [Try.cellsAct] at z1
        obtain ⟨_, zlen, zcell⟩ := World.cells?_some z1
        have z0 := zcell 0 (by omega)
        rw [Deep.add_add, List.getElem?_eq_getElem (by omega)] at z0
        exact addr_spot z0
      obtain ⟨ab, ao, asp⟩ := a
      simp only [Addr.mk.injEq, true_and] at hsp
      subst hsp
      rw [Addr.add_lit] at e0 e1 e2
      obtain ⟨y0, y1, y2, n', _, _, g0, g1, g2⟩ := Deep.trod_struct3 Try.underlying31 h2
      have hc1 : Try.prog.cellsOf 3 = 1 := by kernel_rfl
      simp only [hc1, List.drop_zero, List.take_succ_cons, List.take_zero, List.drop_succ_cons] at g0 g1 g2
      obtain ⟨K, k1, _, _⟩ := DataW.trod_int Try.underlying3 g0
      obtain ⟨A, a1, _, aw⟩ := DataW.trod_int Try.underlying3 g1
      obtain ⟨B, b1, _, bw⟩ := DataW.trod_int Try.underlying3 g2
      simp only [List.cons.injEq, and_true] at k1 a1 b1
      subst k1 a1 b1
      have f0 : w.cell? ⟨ab, ao + i * 3, none⟩ = some (.int .i64 K) := by simpa using e0
      refine ⟨ab, ao, K, A, B, rfl, World.block_lt_of_cell? w _ f0, f0, ?_, ?_, wf_i64R aw, wf_i64R bw⟩
      · simpa [Nat.add_assoc] using e1
      · simpa [Nat.add_assoc] using e2
end Go.Proofs.Ytfpbkghcjaonlaa

/-
  sixfoldlaw: rising, allowed.
-/
namespace Go.Proofs.Ytfpbkghcjaonlaa.Sim
open Go.RowKit

/-- A list of records in memory. -/
def RecsIn (k : Nat → Nat) (w : World) (a : Option Addr) (cap : Nat) (l : List Ent) : Prop := Rows k w 0 70 3 (.slice a l.length cap) (l.map recRow)
theorem RecsIn.at {k : Nat → Nat} {w : World} {a : Option Addr} {cap : Nat} {l : List Ent} (h : RecsIn k w a cap l) (x : Nat) (hx : x < l.length) : ∃ lg, a = some ⟨lg, 0, none⟩ ∧ lg < w.heap.size ∧ w.cell? ⟨lg, x * 3, none⟩ = some (.int .i64 l[x].lsn) ∧ w.cell? ⟨lg, x * 3 + 1, none⟩ = some (.int .i64 l[x].epoch) ∧ w.cell? ⟨lg, x * 3 + 2, none⟩ = some (.int .i64 l[x].value) := by
  obtain ⟨a', cap', he, hc⟩ := recs_cells h
  simp only [Value.slice.injEq] at he
  obtain ⟨lg, h1, h2, _, h3⟩ := hc x hx
  exact ⟨lg, he.1.trans h1, h2, h3⟩
def CutsIn (k : Nat → Nat) (w : World) (a : Option Addr) (cap : Nat) (l : List (Int × Int)) : Prop := Rows k w 0 92 2 (.slice a l.length cap) (l.map cutRow)
theorem CutsIn.at {k : Nat → Nat} {w : World} {a : Option Addr} {cap : Nat} {l : List (Int × Int)} (h : CutsIn k w a cap l) (x : Nat) (hx : x < l.length) : ∃ lg, a = some ⟨lg, 0, none⟩ ∧ lg < w.heap.size ∧ w.cell? ⟨lg, x * 2, none⟩ = some (.int .i64 l[x].1) ∧ w.cell? ⟨lg, x * 2 + 1, none⟩ = some (.int .i64 l[x].2) := by
  obtain ⟨a', cap', he, hc⟩ := cuts_cells h
  simp only [Value.slice.injEq] at he
  obtain ⟨lg, h1, h2, _, h3⟩ := hc x hx
  exact ⟨lg, he.1.trans h1, h2, h3⟩

set_option maxRecDepth 3000 in
set_option maxHeartbeats 8000000 in
theorem rising_any {k : Nat → Nat} {w : World} {b : Nat} {pa : Option Addr} {np pcap : Nat} (z3 : w.cell? ⟨b, 3, none⟩ = some (.slice pa np pcap)) (hbl : b < w.heap.size) {a : Option Addr} {cap : Nat} {l : List Ent} (hl : RecsIn k w a cap l) (hl40 : l.length ≤ 40)
    (h1 : ∀ e ∈ l, 1 ≤ e.lsn ∧ e.lsn ≤ 40 ∧ 1 ≤ e.epoch ∧ e.epoch ≤ (np : Int)) (h2 : l.Pairwise (fun a b => a.lsn < b.lsn)) :
    Calls Try.prog 48 #[.pointer (some ⟨b, 0, none⟩), .slice a l.length cap] w fun e w' => e = .returned (.bool true) ∧ Evo k k noC w w' := by
  have HL := hide hl
  have H1 := hide h1
  have H2 := hide h2
  obtain ⟨n, hn⟩ : ∃ n, n = l.length := ⟨_, rfl⟩
  have HN := hide hn
  rw [← hn] at hl40 ⊢
  have Z3 := hide z3
  clear hl h1 h2 hn z3
  go_enter Try.func48, Try.ntmps48
  go_wp2_with fail
  go_loopw [5] (fun v wr => ∃ j : Nat, j ≤ n ∧ v = .int .i64 j ∧ Hid (Evo k k noC w wr)) (fun v _ => n - (intOf v).toNat)
  case atStart => exact ⟨0, Nat.zero_le _, rfl, hide (Evo.refl _ _ _)⟩
  case round =>
    obtain ⟨j, hj, rfl, hst⟩ := hrel
    by_cases hlt : j < n
    · have hd : decide ((j : Int) < (n : Int)) = true := by simp; omega
      have hjl : j < l.length := by rw [← HN.out]; exact hlt
      have hLr : RecsIn k wr a cap l := Rows.evo HL.out hst.out (noC_not _)
      obtain ⟨lg, rfl, hlg, l0, l1, l2⟩ := hLr.at j hjl
      obtain ⟨e1, e2, e3, e4⟩ := H1.out _ (List.getElem_mem hjl)
      have y3 : wr.cell? ⟨b, 3, none⟩ = some (.slice pa np pcap) := (evo_cell hst.out hbl (noC_not _) 3).trans Z3.out
      have hbr : b < wr.heap.size := Nat.lt_of_lt_of_le hbl hst.out.size
      have c1 : decide (l[j].lsn < 1) = false := by simp; omega
      have c2 : decide (40 < l[j].lsn) = false := by simp; omega
      have c3 : decide (l[j].epoch < 1) = false := by simp; omega
      have c4 : decide ((np : Int) < l[j].epoch) = false := by simp; omega
      have hw : IntKind.i64.wrap ((j : Int) + 1) = ((j + 1 : Nat) : Int) := by rw [IntKind.wrap_i64] <;> omega
      by_cases hj0 : j = 0
      · subst hj0
        generalize l[0] = e at *
        clear hLr e1 e2 e3 e4 hjl
        go_wp2_with fail
        go_region
        go_wp2_with fail
        go_region
        go_wp2_with fail
        go_roundw
        case rel => exact ⟨1, by omega, by go_num, hide hst.out.drew.drew⟩
        case measure => simp [intOf]; omega
      · have hjm : j - 1 < l.length := by omega
        obtain ⟨lg', hlge, hlg', m0, _, _⟩ := hLr.at (j - 1) hjm
        simp only [Option.some.injEq, Addr.mk.injEq, and_true] at hlge
        subst hlge
        have hri : l[j - 1].lsn < l[j].lsn := List.pairwise_iff_getElem.1 H2.out (j - 1) j hjm hjl (by omega)
        have c5 : decide (l[j].lsn ≤ l[j - 1].lsn) = false := by simp; omega
        have c0 : decide ((0 : Int) < (j : Int)) = true := by simp; omega
        have c0' : decide (0 < j) = true := by simp; omega
        have c0'' : 0 < j := by omega
        have hw2 : IntKind.i64.wrap ((j : Int) - 1) = ((j - 1 : Nat) : Int) := by rw [IntKind.wrap_i64] <;> omega
        have hjm2 : j - 1 < n := by omega
        generalize l[j - 1] = e' at *
        generalize l[j] = e at *
        generalize j - 1 = j' at *
        clear hLr e1 e2 e3 e4 hjl hjm hri
        go_wp2_with fail
        go_region
        go_wp2_with fail
        go_region
        go_wp2_with fail
        go_roundw
        case rel => exact ⟨j + 1, by omega, by go_num, hide hst.out.drew.drew⟩
        case measure => simp [intOf]; omega
    · have hd : decide ((j : Int) < (n : Int)) = false := by simp; omega
      go_wp2_with fail
      go_ret
      exact ⟨rfl, hst.out⟩

/-- Is the cut of that epoch among the first? -/
def knows (ep : Int) (l : List (Int × Int)) (c : Nat) : Bool := (l.take c).any (fun x => x.1 == ep)
theorem knows_succ (ep : Int) (l : List (Int × Int)) (c : Nat) (h : c < l.length) : knows ep l (c + 1) = (knows ep l c || (l[c].1 == ep)) := by
  unfold knows; rw [List.take_succ_eq_append_getElem h, List.any_append]; simp

set_option maxRecDepth 3000 in
set_option maxHeartbeats 8000000 in
theorem allowed_any {k : Nat → Nat} {w : World} {a ac : Option Addr} {cap ccap : Nat} {l : List Ent} {cs : List (Int × Int)} (hl : RecsIn k w a cap l) (hc : CutsIn k w ac ccap cs) (hl40 : l.length ≤ 40) (hc9 : cs.length ≤ 9)
    (h1 : ∀ e ∈ l, (∃ c ∈ cs, c.1 = e.epoch) ∧ (∀ c ∈ cs, c.1 = e.epoch → c.2 < e.lsn) ∧ ∀ c ∈ cs, e.epoch < c.1 → e.lsn ≤ c.2) :
    Calls Try.prog 49 #[.slice a l.length cap, .slice ac cs.length ccap] w fun e w' => e = .returned (.bool true) ∧ Evo k k noC w w' := by
  have HL := hide hl
  have HC := hide hc
  have H1 := hide h1
  obtain ⟨n, hn⟩ : ∃ n, n = l.length := ⟨_, rfl⟩
  have HN := hide hn
  obtain ⟨m, hm⟩ : ∃ m, m = cs.length := ⟨_, rfl⟩
  have HM := hide hm
  rw [← hn] at hl40 ⊢
  rw [← hm] at hc9 ⊢
  clear hl h1 hn hc hm
  go_enter Try.func49, Try.ntmps49
  go_wp2_with fail
  go_loopw [5] (fun v wr => ∃ j : Nat, j ≤ n ∧ v = .int .i64 j ∧ Hid (Evo k k noC w wr)) (fun v _ => n - (intOf v).toNat)
  case atStart => exact ⟨0, Nat.zero_le _, rfl, hide (Evo.refl _ _ _)⟩
  case round =>
    obtain ⟨j, hj, rfl, hst⟩ := hrel
    by_cases hlt : j < n
    · have hd : decide ((j : Int) < (n : Int)) = true := by simp; omega
      have hjl : j < l.length := by rw [← HN.out]; exact hlt
      have HE := hide (H1.out _ (List.getElem_mem hjl))
      have HLj : Hid (∀ wr, Evo k k noC w wr → ∃ lg, a = some ⟨lg, 0, none⟩ ∧ lg < wr.heap.size ∧ wr.cell? ⟨lg, j * 3, none⟩ = some (.int .i64 l[j].lsn) ∧ wr.cell? ⟨lg, j * 3 + 1, none⟩ = some (.int .i64 l[j].epoch)) := hide (fun W hW => by
        have hLr : RecsIn k W a cap l := Rows.evo HL.out hW (noC_not _)
        obtain ⟨lg, q1, q2, q3, q4, _⟩ := hLr.at j hjl
        exact ⟨lg, q1, q2, q3, q4⟩)
      generalize l[j] = e at *
      have hw : IntKind.i64.wrap ((j : Int) + 1) = ((j + 1 : Nat) : Int) := by rw [IntKind.wrap_i64] <;> omega
      clear hjl
      go_wp2_with fail
      go_loopw [6, 7] (fun vk v wr => ∃ c : Nat, c ≤ m ∧ v = .int .i64 c ∧ vk = .bool (knows e.epoch cs c) ∧ Hid (Evo k k noC w wr)) (fun _ v _ => m - (intOf v).toNat)
      case atStart => exact ⟨0, Nat.zero_le _, rfl, rfl, hst⟩
      case round =>
        obtain ⟨c, hc, rfl, rfl, hst2⟩ := hrel
        by_cases hcm : c < m
        · have hd2 : decide ((c : Int) < (m : Int)) = true := by simp; omega
          have hcl : c < cs.length := by rw [← HM.out]; exact hcm
          obtain ⟨lg, rfl, hlg, l0, l1⟩ := HLj.out wr hst2.out
          have hCr : CutsIn k wr ac ccap cs := Rows.evo HC.out hst2.out (noC_not _)
          obtain ⟨cg, rfl, hcg, c0, c1⟩ := hCr.at c hcl
          have HK := hide (knows_succ e.epoch cs c hcl)
          have hx2 := HE.out.2.1 _ (List.getElem_mem hcl)
          have hx3 := HE.out.2.2 _ (List.getElem_mem hcl)
          have hw2 : IntKind.i64.wrap ((c : Int) + 1) = ((c + 1 : Nat) : Int) := by rw [IntKind.wrap_i64] <;> omega
          generalize cs[c] = x at *
          obtain ⟨x1, x2⟩ := x
          simp only at *
          generalize knows e.epoch cs c = kn at *
          clear hCr hcl
          have dg : decide (e.epoch < x1) = false ∨ (decide (e.epoch < x1) = true ∧ decide (x2 < e.lsn) = false) := by
            by_cases hg : e.epoch < x1
            · exact .inr ⟨by simpa using hg, by have := hx3 hg; simp; omega⟩
            · exact .inl (by simpa using hg)
          by_cases he : x1 = e.epoch
          · have d1 : (x1 == e.epoch) = true := by simpa using he
            have d2 : decide (x2 < e.lsn) = true := by simpa using hx2 he
            have d3 : decide (e.epoch < x1) = false := by simp; omega
            rw [d1] at HK
            clear dg hx2 hx3 he
            go_wp2_with fail
            go_region
            go_wp2_with fail
            go_region
            go_wp2_with fail
            go_region
            go_wp2_with fail
            go_roundw
            case rel => exact ⟨c + 1, by omega, by go_num, by rw [HK.out]; simp, hide hst2.out.drew.drew.drew⟩
            case measure => simp [intOf]; omega
          · have d1 : (x1 == e.epoch) = false := by simpa using he
            rw [d1] at HK
            rcases dg with d3 | ⟨d3, d4⟩
            · clear hx2 hx3 he
              go_wp2_with fail
              go_region
              go_wp2_with fail
              go_region
              go_wp2_with fail
              go_roundw
              case rel => exact ⟨c + 1, by omega, by go_num, by rw [HK.out]; simp, hide hst2.out.drew.drew⟩
              case measure => simp [intOf]; omega
            · clear hx2 hx3 he
              go_wp2_with fail
              go_region
              go_wp2_with fail
              go_region
              go_wp2_with fail
              go_roundw
              case rel => exact ⟨c + 1, by omega, by go_num, by rw [HK.out]; simp, hide hst2.out.drew.drew⟩
              case measure => simp [intOf]; omega
        · have hd2 : decide ((c : Int) < (m : Int)) = false := by simp; omega
          have hkn : knows e.epoch cs c = true := by
            obtain ⟨x, hx, hxe⟩ := HE.out.1
            unfold knows
            rw [List.take_of_length_le (by rw [← HM.out]; omega), List.any_eq_true]
            exact ⟨x, hx, by simpa using hxe⟩
          rw [hkn]
          clear hkn
          go_wp2_with fail
          go_roundw
          case rel => exact ⟨j + 1, by omega, by go_num, hst2⟩
          case measure => simp [intOf]; omega
    · have hd : decide ((j : Int) < (n : Int)) = false := by simp; omega
      go_wp2_with fail
      go_ret
      exact ⟨rfl, hst.out⟩
end Go.Proofs.Ytfpbkghcjaonlaa.Sim

/-
  sixfoldlaw: honest.
-/
namespace Go.Proofs.Ytfpbkghcjaonlaa.Sim
open Go.RowKit

theorem Pl.segInv {k : Nat → Nat} {w : World} {b px : Nat} {P : PSt} (h : Pl k w b px P) {i : Nat} {g : RSeg} (hg : P.r.segs[i]? = some g) : SegInv P.r.pens g := h.2.inv.segs g (List.mem_of_getElem? hg)
theorem PenAt.evo {k : Nat → Nat} {w wr : World} {g : Nat} {q : PPen} {la va : Option Addr} {lcap vcap : Nat} (h : PenAt w g q la lcap va vcap) (ev : Evo k k noC w wr) : PenAt wr g q la lcap va vcap := by
  have hs := ev.size
  have c := fun (x : Nat) (hx : x < w.heap.size) (o : Nat) => evo_cell ev hx (noC_not _) o
  refine ⟨by have := h.lt; omega, (c _ h.lt 0).trans h.c0, (c _ h.lt 1).trans h.c1, (c _ h.lt 2).trans h.c2, (c _ h.lt 3).trans h.c3, (c _ h.lt 4).trans h.c4, (c _ h.lt 5).trans h.c5, fun x hx => ?_, fun x hx => ?_⟩
  · obtain ⟨lg, a1, a2, a3⟩ := h.ls x hx
    exact ⟨lg, a1, by omega, (c _ a2 x).trans a3⟩
  · obtain ⟨lg, a1, a2, a3⟩ := h.vs x hx
    exact ⟨lg, a1, by omega, (c _ a2 x).trans a3⟩
/-- Is the record among the first? -/
def wrote (e : Ent) (q : PPen) (c : Nat) : Bool := (List.range c).any fun (x : Nat) => (q.lsns.getD x 0 == e.lsn) && (q.values.getD x 0 == e.value)
theorem wrote_succ (e : Ent) (q : PPen) (c : Nat) (h : c < q.lsns.length) (h2 : c < q.values.length) : wrote e q (c + 1) = (wrote e q c || ((q.lsns[c] == e.lsn) && (q.values[c] == e.value))) := by
  unfold wrote
  rw [List.range_succ, List.any_append]
  simp [List.getD_eq_getElem?_getD, List.getElem?_eq_getElem h, List.getElem?_eq_getElem h2]

set_option maxRecDepth 3000 in
set_option maxHeartbeats 16000000 in
theorem pl_honest {k : Nat → Nat} {w : World} {b px : Nat} {P : PSt} (h : Pl k w b px P) (s : Nat) (g : RSeg) (hg : P.r.segs[s]? = some g) :
    Calls Try.prog 24 #[.pointer (some ⟨b, 0, none⟩), .int .i64 s] w fun e w' => e = .returned (.bool true) ∧ Below w.heap.size w w' := by
  have HC := hide (pl_segment h s g hg)
  have hgi := h.segInv hg
  obtain ⟨z0, hbl⟩ := h.ptr
  have h9 := h.2.p9
  have HR : Hid (∀ e ∈ recsUp g.entries true 40, ∃ (i0 j0 : Nat) (hi : i0 < P.pens.length) (hj : j0 < P.pens[i0].lsns.length) (hv : j0 < P.pens[i0].values.length), e.epoch = (i0 : Int) + 1 ∧ P.pens[i0].lsns[j0] = e.lsn ∧ P.pens[i0].values[j0] = e.value) := hide (fun e he => by
    obtain ⟨q1, q2, _⟩ := recs_at g.entries true 40 e he
    exact rec_written h.2 (hgi.recs e q1 q2).1)
  have HLn := hide h.2.lens
  have HH := hide h
  clear h hg hgi
  unfold segV at HC
  go_enter Try.func24, Try.ntmps24
  go_wp2_with fail
  refine HC.out.mono ?_
  rintro e2 w2 ⟨vc, vk, vb, rfl, hT2, hb2⟩
  obtain ⟨ak, kcap, hvk, _⟩ := recs_cells hT2.kp
  obtain ⟨ac, ccap, hvc, _⟩ := cuts_cells hT2.c
  obtain ⟨ab, bcap, hvb, _⟩ := recs_cells hT2.bf
  subst hvk hvc hvb
  obtain ⟨l, hl⟩ : ∃ l, l = recsUp g.entries true 40 := ⟨_, rfl⟩
  have hl40 : l.length ≤ 40 := by rw [hl]; exact recsUp_len40 _ _
  rw [← hl] at hT2 HR ⊢
  have HK : Hid (RecsIn (fun x => if x < w.heap.size then k x else 0) w2 ak kcap l) := hide (by have := hT2.kp; rw [← hl] at this; exact this)
  obtain ⟨m, hm⟩ : ∃ m, m = l.length := ⟨_, rfl⟩
  rw [← hm] at hl40 ⊢
  have HM := hide hm
  have HB2 := hide hb2
  have hs2 := hb2.size
  clear hl HC hT2 hb2 hm z0
  go_wp2_with fail
  obtain ⟨W2, hW2⟩ : ∃ W2, W2 = w2.alloc (Obj.cells #[.bool g.up, .int .i64 g.epoch, .int .i64 (sclOf g.entries), .slice ac g.cuts.length ccap, .slice ak m kcap, .slice ab (recsUp g.entries false 40).length bcap] 66) := ⟨_, rfl⟩
  rw [← hW2]
  obtain ⟨A, hA⟩ : ∃ A, A = w2.heap.size := ⟨_, rfl⟩
  rw [← hA]
  have HS2 : Hid (∃ k2, Below w.heap.size w W2 ∧ Pl k2 W2 b px P ∧ RecsIn k2 W2 ak kcap l ∧ Blk k2 W2 0 A 66 [.bool g.up, .int .i64 g.epoch, .int .i64 (sclOf g.entries), .slice ac g.cuts.length ccap, .slice ak m kcap, .slice ab (recsUp g.entries false 40).length bcap]) := hide (by
    have hb2 := HB2.out
    have hbA : Below w2.heap.size w2 W2 := by rw [hW2]; exact (Below.refl _ _).alloc (Nat.le_refl _) _
    have hbw : Below w.heap.size w W2 := hb2.trans (hbA.mono hs2)
    have e12 : Evo k (fun x => if x < w.heap.size then k x else 0) noC w W2 := (Evo.of_below hbw).recolour _ (fun x hx => if_pos hx)
    have e2 : Evo (fun x => if x < w.heap.size then k x else 0) (fun x => if x < w.heap.size then k x else 0) noC w2 W2 := Evo.of_below hbA
    exact ⟨_, hbw, HH.out.evo e12 (fun c _ _ => noC_not c) (noC_not _), Rows.evo HK.out e2 (noC_not _), by rw [hW2, hA]; exact heap_alloc_new w2 _, if_neg (by omega)⟩)
  obtain ⟨k2, hS2⟩ := HS2.out
  have HS := hide hS2
  clear HS2 hS2 hW2 hA HB2 HK HH hs2
  go_loopw [7] (fun v wr => ∃ j : Nat, j ≤ m ∧ v = .int .i64 j ∧ Hid (Below W2.heap.size W2 wr)) (fun v _ => m - (intOf v).toNat)
  case atStart => exact ⟨0, Nat.zero_le _, rfl, hide (Below.refl _ _)⟩
  case round =>
    obtain ⟨j, hj, rfl, hst⟩ := hrel
    obtain ⟨hbw, hpw, hkw, hAw⟩ := HS.out
    have ev : Evo k2 k2 noC W2 wr := Evo.of_below hst.out
    have hAr := hAw.evo ev (noC_not _)
    have A4 : wr.cell? ⟨A, 4, none⟩ = some (.slice ak m kcap) := hAr.cell 4
    have Al := hAr.lt
    by_cases hlt : j < m
    · have hd : decide ((j : Int) < (m : Int)) = true := by simp; omega
      have hjl : j < l.length := by rw [← HM.out]; exact hlt
      have hkr : RecsIn k2 wr ak kcap l := Rows.evo hkw ev (noC_not _)
      obtain ⟨lg, rfl, hlg, l0, l1, l2⟩ := hkr.at j hjl
      obtain ⟨i0, j0, hi0, hj0, hv0, e1, e2, e3⟩ := HR.out _ (List.getElem_mem hjl)
      generalize l[j] = e at *
      rw [e1] at l1
      have hpr := hpw.below hst.out
      have HBr := hide hst.out
      obtain ⟨W3, hW3⟩ : ∃ W3, W3 = wr.alloc (Obj.cells #[.int .i64 e.lsn, .int .i64 ((i0 : Int) + 1), .int .i64 e.value] 70) := ⟨_, rfl⟩
      have hb3 : Below wr.heap.size wr W3 := by rw [hW3]; exact (Below.refl _ _).alloc (Nat.le_refl _) _
      have hp3 := hpr.below hb3
      obtain ⟨pa, pcap, y3, ybl, hall⟩ := hp3.arr
      obtain ⟨pa', pg, la, lcap, va, vcap, rfl, hpl, hpc, hpen⟩ := hall i0 hi0
      have hll := HLn.out i0 hi0
      obtain ⟨R, hRe⟩ : ∃ R, R = wr.heap.size := ⟨_, rfl⟩
      have hK3 : Blk (fun _ => 0) W3 0 R 70 [.int .i64 e.lsn, .int .i64 ((i0 : Int) + 1), .int .i64 e.value] := ⟨by rw [hW3, hRe]; exact heap_alloc_new wr _, rfl⟩
      have R0 : W3.cell? ⟨R, 0, none⟩ = some (.int .i64 e.lsn) := hK3.cell 0
      have R1 : W3.cell? ⟨R, 1, none⟩ = some (.int .i64 ((i0 : Int) + 1)) := hK3.cell 1
      have R2 : W3.cell? ⟨R, 2, none⟩ = some (.int .i64 e.value) := hK3.cell 2
      have Rl := hK3.lt
      have hgd : decide ((i0 : Int) < (P.pens.length : Int)) = true := by simp; omega
      have hw1 : IntKind.i64.wrap ((i0 : Int) + 1 - 1) = (i0 : Int) := by rw [IntKind.wrap_i64] <;> omega
      generalize P.pens[i0] = q at *
      obtain ⟨mq, hmq⟩ : ∃ mq, mq = q.lsns.length := ⟨_, rfl⟩
      have hmq40 : mq ≤ 40 := by omega
      have HQ := hide (And.intro hmq (And.intro (hll.1.symm.trans hmq.symm) (And.intro e2 e3)))
      have HJ0 : Hid (j0 < mq) := hide (by omega)
      have HPen := hide hpen
      have HW3 := hide hb3
      have hwj : IntKind.i64.wrap ((j : Int) + 1) = ((j + 1 : Nat) : Int) := by rw [IntKind.wrap_i64] <;> omega
      have HRec : Hid (∀ X, Evo (fun _ => 0) (fun _ => 0) noC W3 X → X.cell? ⟨R, 0, none⟩ = some (.int .i64 e.lsn) ∧ X.cell? ⟨R, 2, none⟩ = some (.int .i64 e.value) ∧ R < X.heap.size) := hide (fun X hX => ⟨(evo_cell hX Rl (noC_not _) 0).trans R0, (evo_cell hX Rl (noC_not _) 2).trans R2, Nat.lt_of_lt_of_le Rl hX.size⟩)
      clear hst ev hAw hAr hkw hkr hpw hpr hp3 hall hpen hll hb3 hK3 hbw hmq hjl e1 e2 e3
      go_wp2_with fail
      rw [← hW3, ← hRe]
      clear hW3 hRe
      go_region
      go_wp2_with fail
      obtain ⟨W4, hW4⟩ : ∃ W4, W4 = W3.drew := ⟨_, rfl⟩
      rw [← hW4]
      have HE4 : Hid (∀ kk : Nat → Nat, Evo kk kk noC W3 W4) := hide (fun kk => by rw [hW4]; exact (Evo.refl kk noC W3).drew)
      clear hW4 R0 R1 R2 Rl y3 ybl hpl hpc A4 Al l0 l1 l2 hlg
      go_loopw [10, 11] (fun vi v wx => ∃ c : Nat, c ≤ mq ∧ v = .int .i64 c ∧ vi = .bool (wrote e q c) ∧ Hid (∀ kk : Nat → Nat, Evo kk kk noC W3 wx)) (fun _ v _ => mq - (intOf v).toNat)
      case atStart => exact ⟨0, Nat.zero_le _, rfl, rfl, HE4⟩
      case round =>
        obtain ⟨c, hc, rfl, rfl, hst2⟩ := hrel
        have hpr := HPen.out.evo (hst2.out (fun _ => 0))
        obtain ⟨r0', r2', rl'⟩ := HRec.out _ (hst2.out (fun _ => 0))
        have g0 := hpr.c0
        have g1 := hpr.c1
        rw [← HQ.out.1] at g0
        rw [HQ.out.2.1] at g1
        have gl := hpr.lt
        have HST := hide (hst2.out)
        by_cases hcm : c < mq
        · have hd2 : decide ((c : Int) < (mq : Int)) = true := by simp; omega
          have hcl : c < q.lsns.length := by rw [← HQ.out.1]; exact hcm
          have hcv : c < q.values.length := by rw [HQ.out.2.1]; exact hcm
          obtain ⟨lg', rfl, hlg', m0⟩ := hpr.ls c hcl
          obtain ⟨vg', rfl, hvg', m1⟩ := hpr.vs c hcv
          have HWr := hide (wrote_succ e q c hcl hcv)
          have hw2 : IntKind.i64.wrap ((c : Int) + 1) = ((c + 1 : Nat) : Int) := by rw [IntKind.wrap_i64] <;> omega
          generalize q.lsns[c] = lc at *
          generalize q.values[c] = vcc at *
          clear hpr hcl hcv hst2
          cases hk : wrote e q c
          · rw [hk] at HWr
            clear hk
            cases d1 : (lc == e.lsn)
            · rw [d1] at HWr
              go_wp2_with fail
              go_region
              go_wp2_with fail
              go_roundw
              case rel => exact ⟨c + 1, by omega, by go_num, by rw [HWr.out]; simp, hide (fun kk => (HST.out kk).drew)⟩
              case measure => simp [intOf]; omega
            · rw [d1] at HWr
              cases d2 : (vcc == e.value)
              · rw [d2] at HWr
                go_wp2_with fail
                go_region
                go_wp2_with fail
                go_roundw
                case rel => exact ⟨c + 1, by omega, by go_num, by rw [HWr.out]; simp, hide (fun kk => (HST.out kk).drew)⟩
                case measure => simp [intOf]; omega
              · rw [d2] at HWr
                go_wp2_with fail
                go_region
                go_wp2_with fail
                go_roundw
                case rel => exact ⟨c + 1, by omega, by go_num, by rw [HWr.out]; simp, hide (fun kk => (HST.out kk).drew)⟩
                case measure => simp [intOf]; omega
          · rw [hk] at HWr
            clear hk
            go_wp2_with fail
            go_region
            go_wp2_with fail
            go_roundw
            case rel => exact ⟨c + 1, by omega, by go_num, by rw [HWr.out]; simp, hide (fun kk => (HST.out kk).drew)⟩
            case measure => simp [intOf]; omega
        · have hd2 : decide ((c : Int) < (mq : Int)) = false := by simp; omega
          have hwr : wrote e q c = true := by
            unfold wrote
            rw [List.any_eq_true]
            have hj := HJ0.out
            obtain ⟨q1, q2, q3, q4⟩ := HQ.out
            refine ⟨j0, by simp; omega, ?_⟩
            rw [List.getD_eq_getElem?_getD, List.getD_eq_getElem?_getD, List.getElem?_eq_getElem (by omega), List.getElem?_eq_getElem (by omega)]
            simp [q3, q4]
          rw [hwr]
          clear hwr hpr hst2
          go_wp2_with fail
          go_roundw
          case rel => exact ⟨j + 1, by omega, by go_num, hide (by
            have h1 := HBr.out
            have h2 := HW3.out
            have h3 := HST.out (fun _ => 0)
            have hs1 := h1.size
            have hs2 := h2.size
            refine h1.trans ((h2.trans ⟨h3.os, h3.tape, h3.output, by have := h3.size; omega, fun x hx => h3.keep x (by omega) (noC_not _)⟩).mono hs1))⟩
          case measure => simp [intOf]; omega
    · have hd : decide ((j : Int) < (m : Int)) = false := by simp; omega
      have hs := hbw.size
      have HF : Hid (Below w.heap.size w wr) := hide (hbw.trans (hst.out.mono hs))
      clear hpw hkw hAw ev hAr hs
      go_wp2_with fail
      go_ret
      exact ⟨rfl, HF.out⟩
end Go.Proofs.Ytfpbkghcjaonlaa.Sim
