import Derived.Test.YtfpbkghcjaonlaaJ31
import Derived.Test.YtfpbkghcjaonlaaJ27
import Derived.BigQuiet
/-
  sixfoldlaw's player: tells.
-/
namespace Go.Proofs.Ytfpbkghcjaonlaa.Sim
open Go.RowKit

/-- Only what is sworn has changed. -/
def TSame (P P' : PSt) : Prop := P'.r = P.r ∧ P'.pens = P.pens ∧ P'.most = P.most
theorem vol_self (P : PSt) : P.vol P.r = P := rfl
theorem ASt.swornC {k : Nat → Nat} {w wr : World} {b px : Nat} {P : PSt} {X : List (Nat × Nat × List Value)} (h : ASt k w wr b px P X) (n : Nat) (hn : n ≤ 40) (hf : P.sworn[n]? ≠ some true) : wr.cell? ⟨b, 5 + n, none⟩ = some (.bool false) := by
  obtain ⟨k', ev, hp, _⟩ := h
  obtain ⟨vP, gs, ho⟩ := hp.1.2
  have hs := hp.2.sl
  have h1 := (ho.blk.cell (5 + n)).trans (pl_sworn _ _ _ _ _ _ _ n (by omega))
  rw [List.getElem?_eq_getElem (by omega)] at hf
  cases hx : P.sworn[n]'(by omega) with
  | true => rw [hx] at hf; exact absurd rfl hf
  | false => rw [hx] at h1; exact h1
theorem ASt.head {k : Nat → Nat} {w wr : World} {b px : Nat} {P : PSt} {g e : Nat} {a0 a1 a2 a3 : Value} {X : List (Nat × Nat × List Value)} (h : ASt k w wr b px P ((g, e, [a0, a1, a2, a3]) :: X)) : wr.cell? ⟨g, 3, none⟩ = some a3 ∧ g < wr.heap.size := by
  obtain ⟨k', ev, hp, hX⟩ := h
  have := hX _ List.mem_cons_self
  exact ⟨this.cell 3, this.lt⟩

set_option maxRecDepth 3000 in
set_option maxHeartbeats 8000000 in
theorem pl_tells {k : Nat → Nat} {w : World} {b px : Nat} {P : PSt} (h : Pl k w b px P) (i : Nat) (hK : Kk (i + 1) P.r) {p : RPen} {q : PPen} (hp : P.r.pens[i]? = some p) (hq : P.pens[i]? = some q) (hl : q.last = p.stands) (h3 : p.stands.phase = 3) :
    Calls Try.prog 17 #[.pointer (some ⟨b, 0, none⟩), .int .i64 ((i : Int) + 1)] w fun e w' => e = .returned (.bool true) ∧ ∃ P' k', TSame P P' ∧ Evo k k' cPS w w' ∧ Pl k' w' b px P' := by
  obtain ⟨hiq, hqe⟩ := List.getElem?_eq_some_iff.1 hq
  have h9 := h.2.p9
  have hw1 : IntKind.i64.wrap ((i : Int) + 1 - 1) = (i : Int) := by rw [IntKind.wrap_i64] <;> omega
  obtain ⟨a, cap, z3, hbl, hall⟩ := h.arr
  obtain ⟨pa, g, la, lcap, va, vcap, rfl, hpa, z4, hpen⟩ := hall i hiq
  have c2 := hpen.c2
  have c3 := hpen.c3
  have c4 := hpen.c4
  have c5 := hpen.c5
  have hgl := hpen.lt
  rw [hqe, hl] at c2 c3 c4 c5
  have hbd := (hK.inv.pens i p hp).bounds
  obtain ⟨D, hD⟩ : ∃ D : Nat, p.stands.dur = (D : Int) := ⟨p.stands.dur.toNat, by omega⟩
  have hD40 : D ≤ 40 := by omega
  rw [hD] at c5
  have hli : (i : Int) < (P.pens.length : Int) := by omega
  -- what is read
  have HRd : Hid (∀ P', TSame P P' → PlInv P' → ∀ n : Nat, 1 ≤ n → n ≤ D → ∃ v, Once P'.r n v ∧ P'.r.read ((i : Int) + 1) (n : Int) = (P'.r, v, 0) ∧ ∃ (i0 j0 : Nat) (hi : i0 < P'.pens.length) (hj : j0 < P'.pens[i0].lsns.length) (hv : j0 < P'.pens[i0].values.length), P'.pens[i0].lsns[j0] = (n : Int) ∧ P'.pens[i0].values[j0] = v) := hide (fun P' ht hi n n1 n2 => by
    have e0 : (P'.r.read ((i : Int) + 1) (n : Int)).2.2 = 0 := by rw [ht.1]; exact read_ok hK hp h3 n1 (by omega)
    obtain ⟨a, p', m, hn, hm, hr, hp', m1, hd, hval⟩ := read_val hi.inv hi.saf e0
    have : m = n := by omega
    subst this
    have ho : Once P'.r m (P'.r.read ((i : Int) + 1) (m : Int)).2.1 := ⟨m1, a, p', hp', hd, by rw [← hn]; rw [← hn] at hval; exact hval⟩
    obtain ⟨_, ep, _, _, hrec⟩ := hval
    obtain ⟨i0, j0, q1, q2, q3, _, q4, q5⟩ := rec_written hi hrec
    exact ⟨_, ho, Prod.ext hr (Prod.ext rfl e0), i0, j0, q1, q2, q3, q4, q5⟩)
  have HNo : Hid (∀ P', TSame P P' → PlInv P' → ∀ n : Nat, D < n → P'.r.read ((i : Int) + 1) (n : Int) = (P'.r, 0, 8) ∧ P'.sworn[n]? ≠ some true) := hide (fun P' ht hi n n1 => by
    refine ⟨by rw [ht.1]; exact read_none hp h3 (by omega), fun hs => ?_⟩
    obtain ⟨v, _, ho⟩ := hi.sw n hs
    rw [ht.1] at ho
    have := once_le hK hp h3 ho
    omega)
  have H0 := hide ((ASt.start h).box 37 [.int .i64 p.stands.phase, .int .i64 p.stands.base, .int .i64 p.stands.next, .int .i64 (D : Int)])
  generalize p.stands.phase = ph at *
  generalize p.stands.base = ba at *
  generalize p.stands.next = nx at *
  clear h hK hp hq hl h3 hall hpen hqe hbd hD
  generalize P.pens.length = pl at *
  have hwD : IntKind.i64.wrap ((D : Int) + 1) = ((D + 1 : Nat) : Int) := by rw [IntKind.wrap_i64] <;> omega
  obtain ⟨A, hA⟩ : ∃ A, A = w.heap.size := ⟨_, rfl⟩
  rw [← hA] at H0
  go_enter Try.func17, Try.ntmps17
  go_wp2_with fail
  rw [← hA]
  clear hA
  go_loopw [6] (fun v wr => ∃ n : Nat, 1 ≤ n ∧ n ≤ D + 1 ∧ v = .int .i64 n ∧ ∃ P', Hid (ASt k w wr b px P' [(A, 37, [.int .i64 ph, .int .i64 ba, .int .i64 nx, .int .i64 (D : Int)])] ∧ TSame P P')) (fun v _ => D + 1 - (intOf v).toNat)
  case atStart => exact ⟨1, Nat.le_refl _, by omega, rfl, P, hide ⟨H0.out, rfl, rfl, rfl⟩⟩
  case round =>
    obtain ⟨n, n1, hn, rfl, P', hst⟩ := hrel
    obtain ⟨a3, hAl⟩ := hst.out.1.head
    obtain ⟨z0, hbl⟩ := hst.out.1.ptr
    by_cases hlt : n ≤ D
    · have hd : decide ((n : Int) ≤ (D : Int)) = true := by simp; omega
      have hw : IntKind.i64.wrap ((n : Int) + 1) = ((n + 1 : Nat) : Int) := by rw [IntKind.wrap_i64] <;> omega
      obtain ⟨v, ho, hrd, i0, j0, q1, q2, q3, q4, q5⟩ := HRd.out P' hst.out.2 hst.out.1.inv n n1 hlt
      have hn40 : n ≤ 40 := by omega
      have HR : Hid (Calls Try.prog 21 #[.pointer (some ⟨px, 0, none⟩), .int .i64 ((i : Int) + 1), .int .i64 (n : Int)] wr fun e w' => e = .returned (.tuple #[.int .i64 v, .int .i64 0]) ∧ ASt k w w' b px P' [(A, 37, [.int .i64 ph, .int .i64 ba, .int .i64 nx, .int .i64 (D : Int)])]) := hide (by
        have := hst.out.1.vol (fun k' W hW => pl_read hW ((i : Int) + 1) (n : Int))
        rw [hrd] at this
        exact this)
      have HW : Hid (∀ W, ASt k w W b px P' [(A, 37, [.int .i64 ph, .int .i64 ba, .int .i64 nx, .int .i64 (D : Int)])] → Calls Try.prog 36 #[.pointer (some ⟨b, 0, none⟩), .int .i64 (n : Int), .int .i64 v] W fun e w'' => e = .returned (.bool true) ∧ w'' = W) := hide (fun W hW => by
        obtain ⟨k', ev, hp', _⟩ := hW
        exact written_any hp' (n : Int) v i0 j0 q1 q2 q3 q4 q5)
      have HS : Hid (∀ W, ASt k w W b px P' [(A, 37, [.int .i64 ph, .int .i64 ba, .int .i64 nx, .int .i64 (D : Int)])] → Calls Try.prog 37 #[.pointer (some ⟨b, 0, none⟩), .int .i64 (n : Int), .int .i64 v] W fun e w'' => e = .returned (.bool true) ∧ ASt k w w'' b px (P'.swear n v) [(A, 37, [.int .i64 ph, .int .i64 ba, .int .i64 nx, .int .i64 (D : Int)])]) := hide (fun W hW => by
        obtain ⟨k', ev, hp', hX⟩ := hW
        refine (swear_any hp'.1 hp'.2.sl hp'.2.vl hp'.2.p9 n n1 hn40 v (hp'.2.one ho)).mono ?_
        rintro e w'' ⟨e1, e2, e3⟩
        exact ⟨e1, k', ev.trans (e2.mono (fun c h => by unfold cPS; omega)), ⟨e3, hp'.2.swear ho hn40⟩, fun x hx => (hX x hx).evo e2 (by omega)⟩)
      have HT : Hid (TSame P (P'.swear n v)) := hide hst.out.2
      clear hst ho hrd q1 q2 q3 q4 q5
      go_wp2_with fail
      refine HR.out.mono ?_
      rintro e1 w1 ⟨rfl, h1⟩
      have HW1 := hide (HW.out _ h1)
      have HS1 := hide (HS.out _ h1)
      clear h1 HR
      go_wp2_with fail
      refine HW1.out.mono ?_
      rintro e2 w2 ⟨rfl, hw2⟩
      subst hw2
      go_wp2_with fail
      refine HS1.out.mono ?_
      rintro e3 w3 ⟨rfl, h3⟩
      have H3 := hide h3
      clear h3
      go_wp2_with fail
      go_roundw
      case rel => exact ⟨n + 1, by omega, by omega, by go_num, P'.swear n v, hide ⟨H3.out, HT.out⟩⟩
      case measure => simp [intOf]; omega
    · have hd : decide ((n : Int) ≤ (D : Int)) = false := by simp; omega
      have E2 := hst
      clear hst z0 hbl
      go_wp2_with fail
      go_loopw [11] (fun v wr => ∃ n : Nat, D < n ∧ n ≤ 41 ∧ v = .int .i64 n ∧ Hid (ASt k w wr b px P' [(A, 37, [.int .i64 ph, .int .i64 ba, .int .i64 nx, .int .i64 (D : Int)])] ∧ TSame P P')) (fun v _ => 41 - (intOf v).toNat)
      case atStart => exact ⟨D + 1, by omega, by omega, by go_num, E2⟩
      case round =>
        obtain ⟨m, m1, hm, rfl, hst⟩ := hrel
        obtain ⟨z0, hbl⟩ := hst.out.1.ptr
        by_cases hlt2 : m ≤ 40
        · have hd2 : decide ((m : Int) ≤ 40) = true := by simp; omega
          have hw2 : IntKind.i64.wrap ((m : Int) + 1) = ((m + 1 : Nat) : Int) := by rw [IntKind.wrap_i64] <;> omega
          obtain ⟨hrd, hsw⟩ := HNo.out P' hst.out.2 hst.out.1.inv m m1
          have HR : Hid (Calls Try.prog 21 #[.pointer (some ⟨px, 0, none⟩), .int .i64 ((i : Int) + 1), .int .i64 (m : Int)] wr fun e w' => e = .returned (.tuple #[.int .i64 0, .int .i64 8]) ∧ ASt k w w' b px P' [(A, 37, [.int .i64 ph, .int .i64 ba, .int .i64 nx, .int .i64 (D : Int)])]) := hide (by
            have := hst.out.1.vol (fun k' W hW => pl_read hW ((i : Int) + 1) (m : Int))
            rw [hrd] at this
            exact this)
          have HSw := hide hsw
          have HT := hide hst.out.2
          clear hst hrd hsw
          go_wp2_with fail
          refine HR.out.mono ?_
          rintro e1 w1 ⟨rfl, h1⟩
          have cs := h1.swornC m hlt2 HSw.out
          obtain ⟨z0', hbl'⟩ := h1.ptr
          have H1 := hide h1
          clear h1 HR z0 hbl
          go_wp2_with fail
          go_roundw
          case rel => exact ⟨m + 1, by omega, by omega, by go_num, hide ⟨H1.out, HT.out⟩⟩
          case measure => simp [intOf]; omega
        · have hd2 : decide ((m : Int) ≤ 40) = false := by simp; omega
          go_wp2_with fail
          go_ret
          obtain ⟨⟨k', ev, hp', _⟩, ht⟩ := hst.out
          exact ⟨rfl, P', k', ht, ev, hp'⟩
end Go.Proofs.Ytfpbkghcjaonlaa.Sim

/-
  sixfoldlaw: where a law stands: newest, tells, settle, calm, appends; played.
-/
namespace Go.Proofs.Ytfpbkghcjaonlaa.Sim
open Go.RowKit

section
variable {w wr : World} {b px : Nat} {P : PSt}
theorem LawP.newest (h : LawP w wr b px P) (h9 : P.pens.length < 9) :
    Calls Try.prog 16 #[.pointer (some ⟨b, 0, none⟩)] wr fun e w' => ∃ P', (e = .returned (.int .i64 ((P.pens.length : Int) + 1)) ∧ NewTo P P') ∧ LawP w w' b px P' := by
  have hl := h.inv.len
  exact h.call (Q := fun e P' => e = .returned (.int .i64 ((P.pens.length : Int) + 1)) ∧ NewTo P P') (fun _ _ hW => (pl_newest hW (by omega)).mono (fun _ _ ⟨e1, P', k2, e2, e3, e4⟩ => ⟨P', k2, ⟨e1, e2⟩, e3, e4⟩))
theorem LawP.settle (h : LawP w wr b px P) (i : Nat) (hpr : Prog i 0 P.r) :
    Calls Try.prog 19 #[.pointer (some ⟨b, 0, none⟩), .int .i64 ((i : Int) + 1)] wr fun e w' => ∃ P', (e = .returned (.bool true) ∧ SettleTo i P P') ∧ LawP w w' b px P' :=
  h.call (Q := fun e P' => e = .returned (.bool true) ∧ SettleTo i P P') (fun _ _ hW => (pl_settle hW i hpr).mono (fun _ _ ⟨e1, P', k2, e2, e3, e4⟩ => ⟨P', k2, ⟨e1, e2⟩, e3, e4⟩))
theorem LawP.calm (h : LawP w wr b px P) :
    Calls Try.prog 20 #[.pointer (some ⟨b, 0, none⟩)] wr fun e w' => ∃ P', (e = .returned (.bool true) ∧ ∃ r', CalmTo P.r r' ∧ P' = P.vol r') ∧ LawP w w' b px P' :=
  h.call (Q := fun e P' => e = .returned (.bool true) ∧ ∃ r', CalmTo P.r r' ∧ P' = P.vol r') (fun _ _ hW => (pl_calm hW).mono (fun _ _ ⟨e1, r', k2, e2, e3, e4⟩ => ⟨P.vol r', k2, ⟨e1, r', e2, rfl⟩, e3, e4⟩))
theorem LawP.tells (h : LawP w wr b px P) (i : Nat) (hK : Kk (i + 1) P.r) {p : RPen} {q : PPen} (hp : P.r.pens[i]? = some p) (hq : P.pens[i]? = some q) (hl : q.last = p.stands) (h3 : p.stands.phase = 3) :
    Calls Try.prog 17 #[.pointer (some ⟨b, 0, none⟩), .int .i64 ((i : Int) + 1)] wr fun e w' => ∃ P', (e = .returned (.bool true) ∧ TSame P P') ∧ LawP w w' b px P' :=
  h.call (Q := fun e P' => e = .returned (.bool true) ∧ TSame P P') (fun _ _ hW => (pl_tells hW i hK hp hq hl h3).mono (fun _ _ ⟨e1, P', k2, e2, e3, e4⟩ => ⟨P', k2, ⟨e1, e2⟩, e3, e4⟩))
theorem LawP.appends_no (h : LawP w wr b px P) (i : Nat) (hi : i < P.pens.length) (v : Int) (h0 : (P.r.append ((i : Int) + 1) v).2.2 ≠ 0) :
    Calls Try.prog 18 #[.pointer (some ⟨b, 0, none⟩), .int .i64 ((i : Int) + 1), .int .i64 v] wr fun e w' => ∃ P', (e = .returned (.tuple #[.bool false, .bool true]) ∧ P' = P) ∧ LawP w w' b px P' :=
  h.call (Q := fun e P' => e = .returned (.tuple #[.bool false, .bool true]) ∧ P' = P) (fun _ _ hW => (pl_appends_no hW i hi v h0).mono (fun _ _ ⟨e1, k2, e3, e4⟩ => ⟨P, k2, ⟨e1, rfl⟩, e3, e4⟩))
theorem LawP.appends_yes (h : LawP w wr b px P) (i : Nat) (hi : i < P.pens.length) (v : Int) (h0 : (P.r.append ((i : Int) + 1) v).2.2 = 0) :
    Calls Try.prog 18 #[.pointer (some ⟨b, 0, none⟩), .int .i64 ((i : Int) + 1), .int .i64 v] wr fun e w' => ∃ P', (e = .returned (.tuple #[.bool true, .bool true]) ∧ P' = P.appended i v) ∧ LawP w w' b px P' :=
  h.call (Q := fun e P' => e = .returned (.tuple #[.bool true, .bool true]) ∧ P' = P.appended i v) (fun _ _ hW => (pl_appends_yes hW i hi v h0).mono (fun _ _ ⟨e1, k2, e3, e4⟩ => ⟨_, k2, ⟨e1, rfl⟩, e3, e4⟩))
theorem LawP.read (h : LawP w wr b px P) (n m : Int) (hr : (P.r.read n m).1 = P.r) :
    Calls Try.prog 21 #[.pointer (some ⟨px, 0, none⟩), .int .i64 n, .int .i64 m] wr fun e w' => ∃ P', (e = .returned (.tuple #[.int .i64 (P.r.read n m).2.1, .int .i64 (P.r.read n m).2.2]) ∧ P' = P) ∧ LawP w w' b px P' :=
  h.call (Q := fun e P' => e = .returned (.tuple #[.int .i64 (P.r.read n m).2.1, .int .i64 (P.r.read n m).2.2]) ∧ P' = P) (fun _ _ hW => (pl_read hW n m).mono (fun _ _ ⟨e1, k2, e3, e4⟩ => by
    rw [hr] at e4
    exact ⟨P, k2, ⟨e1, rfl⟩, e3.mono (fun c h => by unfold cXS at h; unfold cPS; omega), e4⟩))
theorem LawP.drewN (h : LawP w wr b px P) (n : Nat) : LawP w (wr.drewN n) b px P := by
  obtain ⟨k, w1, k', h1, h2, h3, h4⟩ := h
  have e2 : Evo k' k' noC wr (wr.drewN n) := (Evo.refl k' noC wr).drewN n
  exact ⟨k, w1, k', h1, h2, h3.trans (e2.mono (fun _ h => h.elim)), h4.evo e2 (fun c _ _ => noC_not c) (noC_not _)⟩
theorem LawP.arr (h : LawP w wr b px P) : ∃ a cap, wr.cell? ⟨b, 3, none⟩ = some (.slice a P.pens.length cap) ∧ b < wr.heap.size ∧
    ∀ j (hj : j < P.pens.length), ∃ pa g la lcap va vcap, a = some ⟨pa, 0, none⟩ ∧ pa < wr.heap.size ∧ wr.cell? ⟨pa, j, none⟩ = some (.pointer (some ⟨g, 0, none⟩)) ∧ PenAt wr g P.pens[j] la lcap va vcap := by
  obtain ⟨k, w1, k', h1, h2, h3, h4⟩ := h
  exact h4.arr
/-- What a writer was told last, in memory. -/
theorem LawP.last (h : LawP w wr b px P) {j : Nat} {q : PPen} (hq : P.pens[j]? = some q) : ∃ pa cap g, wr.cell? ⟨b, 3, none⟩ = some (.slice (some ⟨pa, 0, none⟩) P.pens.length cap) ∧ b < wr.heap.size ∧ pa < wr.heap.size ∧ wr.cell? ⟨pa, j, none⟩ = some (.pointer (some ⟨g, 0, none⟩)) ∧ g < wr.heap.size ∧ wr.cell? ⟨g, 3, none⟩ = some (.int .i64 q.last.base) ∧ wr.cell? ⟨g, 4, none⟩ = some (.int .i64 q.last.next) ∧ wr.cell? ⟨g, 5, none⟩ = some (.int .i64 q.last.dur) := by
  obtain ⟨a, cap, z3, hbl, hall⟩ := h.arr
  obtain ⟨hj, rfl⟩ := List.getElem?_eq_some_iff.1 hq
  obtain ⟨pa, g, la, lcap, va, vcap, rfl, hpa, z4, hpen⟩ := hall j hj
  exact ⟨pa, cap, g, z3, hbl, hpa, z4, hpen.lt, hpen.c3, hpen.c4, hpen.c5⟩
end

set_option maxRecDepth 3000 in
set_option maxHeartbeats 8000000 in
theorem played_any (w W : World) (hW : Below w.heap.size w W) (a b : Int) (ha : i64R a) (hb : i64R b) (sa : Option Addr) (n cap : Nat) (hn : n ≤ 9223372036854775807) (hs : ScriptIs w sa n) :
    Calls Try.prog 15 #[.agg #[.int .i64 a, .int .i64 b], .slice sa n cap] W fun e w' => ∃ pb px P', e = .returned (.pointer (some ⟨pb, 0, none⟩)) ∧ LawP w w' pb px P' ∧ P'.most = 7 ∧ P'.pens.length ≤ 7 := by
  have HSc := hide hs
  have HC := hide (fun W => config_any W a b ha hb)
  have HB0 := hide hW
  clear hs ha hb hW
  go_enter Try.func15, Try.ntmps15
  go_wp2_with fail
  refine (HC.out _).mono ?_
  rintro e1 w1 ⟨wi, fl, rfl, hc, hb1⟩
  have HB1 : Hid (Below w.heap.size w w1) := hide (by
    have h0 := HB0.out
    have hs := h0.size
    exact (h0.alloc (by omega) _).trans (hb1.mono (by simp; omega)))
  have HPl := hide (lawP_player w w1 HB1.out wi fl 7 hc)
  clear hc hb1
  go_wp2_with fail
  refine HPl.out.mono ?_
  rintro e2 w2 ⟨pb, px, rfl, h2⟩
  have H3 := hide h2
  clear h2 HPl
  go_wp2_with fail
  go_loopw [6] (fun v wr => ∃ j : Nat, j ≤ n ∧ v = .int .i64 j ∧ ∃ P', Hid (LawP w wr pb px P' ∧ P'.most = 7 ∧ P'.pens.length ≤ 7)) (fun v _ => n - (intOf v).toNat)
  case atStart => exact ⟨0, Nat.zero_le _, rfl, _, hide ⟨H3.out, rfl, by simp⟩⟩
  case round =>
    obtain ⟨j, hj, rfl, P', hst⟩ := hrel
    by_cases hlt : j < n
    · have hd : decide ((j : Int) < (n : Int)) = true := by simp; omega
      obtain ⟨sg, so, K, A, B, rfl, hsg, s0, s1, s2, hA, hB⟩ := HSc.out.below hst.out.1.below j hlt
      have HAct := hide (hst.out.1.act K A B hA hB (by rw [hst.out.2.1]; decide))
      have HM := hide hst.out.2
      have hw : IntKind.i64.wrap ((j : Int) + 1) = ((j + 1 : Nat) : Int) := by rw [IntKind.wrap_i64] <;> omega
      clear hst
      go_wp2_with fail
      refine HAct.out.mono ?_
      rintro e4 w4 ⟨P4, ⟨rfl, hstep⟩, h4⟩
      have H4 : Hid (LawP w w4 pb px P4 ∧ P4.most = 7 ∧ P4.pens.length ≤ 7) := hide ⟨h4, by rw [hstep.1, HM.out.1], by
        have hm := HM.out
        rcases hstep.2.2 with h | ⟨h1, h2⟩
        · rw [h]; exact hm.2
        · rw [hm.1] at h1; omega⟩
      clear h4 hstep
      go_wp2_with fail
      go_roundw
      case rel => exact ⟨j + 1, by omega, by go_num, P4, H4⟩
      case measure => simp [intOf]; omega
    · have hd : decide ((j : Int) < (n : Int)) = false := by simp; omega
      have HA := hide hst.out.1.all
      have HM := hide hst.out.2
      clear hst
      go_wp2_with fail
      refine HA.out.mono ?_
      rintro e4 w4 ⟨P4, ⟨rfl, ha4⟩, h4⟩
      have H4 : Hid (LawP w w4 pb px P4 ∧ P4.most = 7 ∧ P4.pens.length ≤ 7) := hide ⟨h4, by rw [ha4.most]; exact HM.out.1, by rw [ha4.len]; exact HM.out.2⟩
      clear h4 ha4
      go_wp2_with fail
      go_ret
      exact ⟨pb, px, P4, rfl, H4.out⟩
/-- An open newest writer stays so. -/
theorem open_keep {i : Nat} {r r' : RVol} {p : RPen} (hp : r.pens[i]? = some p) (h3 : p.stands.phase = 3) (g : Goes0 r r') (hK : Kk (i + 1) r') : ∃ p', r'.pens[i]? = some p' ∧ p'.stands.phase = 3 ∧ p'.stands.base = p.stands.base := by
  obtain ⟨p', hp', hw⟩ := g.pens i p hp
  obtain ⟨p2, hp2, ho, hpi⟩ := hK.pen
  rw [hp'] at hp2
  have := Option.some.inj hp2
  subst this
  refine ⟨p', hp', ?_, hw.2.2.2.2 (by omega)⟩
  have := hw.1
  rcases hpi.cases with ⟨h5, _⟩ | ⟨_, _, h5⟩ | ⟨_, _, _, h5⟩ | ⟨_, _, _, h5⟩
  · rw [ho] at h5; simp at h5
  · rw [h5] at this; simp only at this; omega
  · rw [h5] at this; simp only at this; omega
  · rw [h5]
theorem append_segs (r : RVol) (n v : Int) : (r.append n v).1.segs = r.segs := by
  unfold RVol.append
  split
  · rfl
  · split
    · rfl
    · split
      · rfl
      · split
        · rfl
        · simp only
          rw [sendUp_eq, sendsUp_segs]
          unfold RVol.pushed
          split <;> rfl
theorem append_kk {i : Nat} {P : PSt} (hK : Kk (i + 1) P.r) {v : Int} (hi : PlInv (P.appended i v)) : Kk (i + 1) (P.appended i v).r := by
  refine ⟨hi.inv, hi.saf, ?_, fun g hg => ?_⟩
  · rw [← hi.len]
    have hl : (P.appended i v).pens.length = P.pens.length := by
      unfold PSt.appended
      simp only
      split
      · simp
      · rfl
    have h1 := (goes_append hK.inv hK.saf ((i : Int) + 1) v)
    have hl2 : (P.appended i v).r.pens.length = i + 1 := by
      show (P.r.append ((i : Int) + 1) v).1.pens.length = i + 1
      by_cases h0 : (P.r.append ((i : Int) + 1) v).2.2 = 0
      · obtain ⟨_, _, _, _, _, _, _, _, _, hp⟩ := h1.2.2 h0
        rw [hp, List.length_set]; exact hK.len
      · rw [(h1.1 h0).1]; exact hK.len
    rw [hi.len]; exact hl2
  · have hg : g ∈ (P.r.append ((i : Int) + 1) v).1.segs := hg
    rw [append_segs] at hg
    exact hK.up g hg
theorem append_done {i : Nat} {r : RVol} (hK : Kk (i + 1) r) {p : RPen} (hp : r.pens[i]? = some p) (hd : Done p) (v : Int) : (p.stands.next = 40 → (r.append ((i : Int) + 1) v).2.2 = 7) ∧ (p.stands.next ≠ 40 → (r.append ((i : Int) + 1) v).2.2 = 0) := by
  have hwi := hK.inv.wi
  unfold RVol.append
  rw [may_new hp hd.1]
  simp only
  rw [if_neg (by simp), if_neg (by rw [hd.1]; simp)]
  refine ⟨fun h => by rw [if_pos h], fun h => ?_⟩
  rw [if_neg h, if_neg (by rw [hd.2]; omega)]
end Go.Proofs.Ytfpbkghcjaonlaa.Sim

/-
  sixfoldlaw: Kept, walked.
-/
namespace Go.Proofs.Ytfpbkghcjaonlaa.Sim
open Go.RowKit

set_option maxRecDepth 3000 in
set_option maxHeartbeats 8000000 in
theorem kept_law (w : World) (a b : Int) (ha : i64R a) (hb : i64R b) (sa : Option Addr) (n cap : Nat) (hn : n ≤ 9223372036854775807) (hs : ScriptIs w sa n) (v : Int) :
    Calls Try.prog 4 #[.agg #[.int .i64 a, .int .i64 b], .slice sa n cap, .int .i64 v] w fun e w' => e = .returned (.bool true) ∧ Below w.heap.size w w' := by
  have HPd := hide (fun W hW => played_any w W hW a b ha hb sa n cap hn hs)
  clear hs ha hb
  go_enter Try.func4, Try.ntmps4
  go_wp2_with fail
  refine (HPd.out _ ((Below.refl w.heap.size w).alloc (Nat.le_refl _) _)).mono ?_
  rintro e1 w1 ⟨pb, px, P1, rfl, h1, hm1, hl1⟩
  have HN := hide (h1.newest (by omega))
  obtain ⟨i, hi⟩ : ∃ i, i = P1.pens.length := ⟨_, rfl⟩
  have hi7 : i ≤ 7 := by omega
  rw [← hi] at HN
  have HI := hide hi
  clear h1 hm1 hl1 hi HPd
  have hz : (((i : Int) + 1) == 0) = false := by simp; omega
  have hw1 : IntKind.i64.wrap ((i : Int) + 1 - 1) = (i : Int) := by rw [IntKind.wrap_i64] <;> omega
  go_wp2_with fail
  refine HN.out.mono ?_
  rintro e2 w2 ⟨P2, ⟨rfl, hnew⟩, h2⟩
  have hk2 := hnew.k
  obtain ⟨p, q, hp, hq, hl, hd, hv⟩ := hnew.done
  rw [← HI.out] at hk2 hp hq
  have HT := hide (h2.tells i hk2 hp hq hl hd.1)
  have HK2 : Hid (Kk (i + 1) P2.r ∧ P2.r.pens[i]? = some p ∧ P2.pens[i]? = some q ∧ q.last = p.stands ∧ Done p) := hide ⟨hk2, hp, hq, hl, hd⟩
  clear h2 hnew hk2 hp hq hl hd hv HN
  go_wp2_with fail
  refine HT.out.mono ?_
  rintro e3 w3 ⟨P3, ⟨rfl, ht3⟩, h3⟩
  have HK3 : Hid (Kk (i + 1) P3.r ∧ P3.r.pens[i]? = some p ∧ P3.pens[i]? = some q ∧ q.last = p.stands ∧ Done p) := hide (by rw [ht3.1, ht3.2.1]; exact HK2.out)
  obtain ⟨pa, pcap, g, z3, hbl, hpa, z4, hg, -, c4, -⟩ := h3.last HK3.out.2.2.1
  have hip : i < P3.pens.length := (List.getElem?_eq_some_iff.1 HK3.out.2.2.1).1
  have hipi : (i : Int) < (P3.pens.length : Int) := by omega
  rw [HK3.out.2.2.2.1] at c4
  obtain ⟨a7, a0⟩ := append_done HK3.out.1 HK3.out.2.1 HK3.out.2.2.2.2 v
  have H3 := hide h3
  by_cases hfull : p.stands.next = 40
  · have HA := hide (h3.appends_no i hip v (by rw [a7 hfull]; decide))
    have hst : Prog i 0 P3.r := Prog.start3 HK3.out.1 HK3.out.2.1 HK3.out.2.2.2.2.1
    have HSt := hide hst
    rw [hfull] at c4
    clear a7 a0 hfull hst ht3 h3 HT HK2
    generalize P3.pens.length = pl at *
    go_wp2_with fail
    refine HA.out.mono ?_
    rintro e4 w4 ⟨P4, ⟨rfl, rfl⟩, h4⟩
    have HS := hide (h4.settle i HSt.out)
    clear h4 HA z3 hbl hpa z4 hg c4
    go_wp2_with fail
    refine HS.out.mono ?_
    rintro e5 w5 ⟨P5, ⟨rfl, hs5⟩, h5⟩
    obtain ⟨p5, q5, hp5, hq5, hl5, hd5, _⟩ := hs5.done
    have HT5 := hide (h5.tells i hs5.k hp5 hq5 hl5 hd5.1)
    clear h5 hs5 hp5 hq5 hl5 hd5 HS
    go_wp2_with fail
    refine HT5.out.mono ?_
    rintro e6 w6 ⟨P6, ⟨rfl, ht6⟩, h6⟩
    have HSo := hide h6.solid
    clear h6 ht6 HT5
    go_wp2_with fail
    refine HSo.out.mono ?_
    rintro e7 w7 ⟨P7, ⟨rfl, rfl⟩, h7⟩
    have H7 := hide h7.below
    clear h7
    go_wp2_with fail
    go_ret
    exact ⟨rfl, H7.out⟩
  · have HA := hide (h3.appends_yes i hip v (a0 hfull))
    have dfull : (p.stands.next == 40) = false := by simpa using hfull
    have HG : Hid (∀ P', P' = P3.appended i v → PlInv P' → Prog i 0 P'.r) := hide (fun P' e hi' => by
      subst e
      have kk := append_kk HK3.out.1 hi'
      obtain ⟨p', hp', h3', _⟩ := open_keep HK3.out.2.1 HK3.out.2.2.2.2.1 (goes_append HK3.out.1.inv HK3.out.1.saf ((i : Int) + 1) v).2.1 kk
      exact Prog.start3 kk hp' h3')
    clear a7 a0 hfull ht3 h3 HT HK2
    generalize p.stands.next = nx at *
    generalize P3.pens.length = pl at *
    go_wp2_with fail
    refine HA.out.mono ?_
    rintro e4 w4 ⟨P4, ⟨rfl, hP4⟩, h4⟩
    have HS := hide (h4.settle i (HG.out P4 hP4 h4.inv))
    clear h4 HA z3 hbl hpa z4 hg c4 hP4
    go_wp2_with fail
    refine HS.out.mono ?_
    rintro e5 w5 ⟨P5, ⟨rfl, hs5⟩, h5⟩
    obtain ⟨p5, q5, hp5, hq5, hl5, hd5, _⟩ := hs5.done
    have HT5 := hide (h5.tells i hs5.k hp5 hq5 hl5 hd5.1)
    clear h5 hs5 hp5 hq5 hl5 hd5 HS
    go_wp2_with fail
    refine HT5.out.mono ?_
    rintro e6 w6 ⟨P6, ⟨rfl, ht6⟩, h6⟩
    have HSo := hide h6.solid
    clear h6 ht6 HT5
    go_wp2_with fail
    refine HSo.out.mono ?_
    rintro e7 w7 ⟨P7, ⟨rfl, rfl⟩, h7⟩
    have H7 := hide h7.below
    clear h7
    go_wp2_with fail
    go_ret
    exact ⟨rfl, H7.out⟩
end Go.Proofs.Ytfpbkghcjaonlaa.Sim

/-
  sixfoldlaw: Same, walked.
-/
namespace Go.Proofs.Ytfpbkghcjaonlaa.Sim
open Go.RowKit

/-- Where the next newest writer begins. -/
theorem NewTo.base {P P' : PSt} (h : NewTo P P') (hi : PlInv P') {i : Nat} (hl : P.pens.length = i + 1) {p : RPen} (hp : P.r.pens[i]? = some p) (h4 : p.fenced.length = 4) (hf : fourOf p.status ((baseOf p.fenced + p.values.length : Nat) : Int) = true) {q : RPen} (hq : P'.r.pens[i + 1]? = some q) (h3 : q.stands.phase = 3) : q.stands.base = ((baseOf p.fenced + p.values.length : Nat) : Int) := by
  have hk := h.k
  rw [hl] at hk
  obtain ⟨p', hp', a1, a2, a3⟩ := h.mo i p hp
  have hpi' := hi.inv.pens i p' hp'
  have hfe : p'.fenced = p.fenced := (a1.eq_of_length (by have := a1.length_le; have := hpi'.f4; omega)).symm
  obtain ⟨_, hq4, _, hst⟩ := open_of hk hq h3
  have := base_next hi.inv hi.saf hp' (by rw [hfe]; exact h4) hq hq4 (by rw [hfe, a3]; exact four_pre a2 hf)
  rw [hst]
  simp only
  rw [this, hfe, a3]

set_option maxRecDepth 3000 in
set_option maxHeartbeats 8000000 in
theorem same_law (w : World) (a b : Int) (ha : i64R a) (hb : i64R b) (sa : Option Addr) (n cap : Nat) (hn : n ≤ 9223372036854775807) (hs : ScriptIs w sa n) :
    Calls Try.prog 5 #[.agg #[.int .i64 a, .int .i64 b], .slice sa n cap] w fun e w' => e = .returned (.bool true) ∧ Below w.heap.size w w' := by
  have HPd := hide (fun W hW => played_any w W hW a b ha hb sa n cap hn hs)
  clear hs ha hb
  go_enter Try.func5, Try.ntmps5
  go_wp2_with fail
  refine (HPd.out _ ((Below.refl w.heap.size w).alloc (Nat.le_refl _) _)).mono ?_
  rintro e1 w1 ⟨pb, px, P1, rfl, h1, hm1, hl1⟩
  have HN := hide (h1.newest (by omega))
  obtain ⟨i, hi⟩ : ∃ i, i = P1.pens.length := ⟨_, rfl⟩
  have hi7 : i ≤ 7 := by omega
  rw [← hi] at HN
  have HI := hide hi
  clear h1 hm1 hl1 hi HPd
  have hz : (((i : Int) + 1) == 0) = false := by simp; omega
  have hw1 : IntKind.i64.wrap ((i : Int) + 1 - 1) = (i : Int) := by rw [IntKind.wrap_i64] <;> omega
  go_wp2_with fail
  refine HN.out.mono ?_
  rintro e2 w2 ⟨P2, ⟨rfl, hnew⟩, h2⟩
  have hk2 := hnew.k
  have hln2 : P2.pens.length = i + 1 := by rw [hnew.len, HI.out]
  obtain ⟨p, q, hp, hq, hl, hd, hv⟩ := hnew.done
  rw [← HI.out] at hk2 hp hq
  have HT := hide (h2.tells i hk2 hp hq hl hd.1)
  have HK2 : Hid (Kk (i + 1) P2.r ∧ P2.r.pens[i]? = some p ∧ P2.pens[i]? = some q ∧ q.last = p.stands ∧ Done p ∧ P2.pens.length = i + 1) := hide ⟨hk2, hp, hq, hl, hd, hln2⟩
  clear h2 hnew hk2 hp hq hl hd hv hln2 HN
  go_wp2_with fail
  refine HT.out.mono ?_
  rintro e3 w3 ⟨P3, ⟨rfl, ht3⟩, h3⟩
  have HK3 : Hid (Kk (i + 1) P3.r ∧ P3.r.pens[i]? = some p ∧ P3.pens[i]? = some q ∧ q.last = p.stands ∧ Done p ∧ P3.pens.length = i + 1) := hide (by rw [ht3.1, ht3.2.1]; exact HK2.out)
  have HN2 := hide (h3.newest (by rw [HK3.out.2.2.2.2.2]; omega))
  rw [HK3.out.2.2.2.2.2] at HN2
  clear h3 ht3 HT HK2
  have hcast : ((i + 1 : Nat) : Int) + 1 = (i : Int) + 2 := by omega
  rw [hcast] at HN2
  have hz2 : (((i : Int) + 2) == 0) = false := by simp; omega
  have hw2 : IntKind.i64.wrap ((i : Int) + 2 - 1) = ((i + 1 : Nat) : Int) := by rw [IntKind.wrap_i64] <;> omega
  go_wp2_with fail
  refine HN2.out.mono ?_
  rintro e4 w4 ⟨P4, ⟨rfl, hnew⟩, h4⟩
  obtain ⟨f4, ff⟩ := Done.four HK3.out.1 HK3.out.2.1 HK3.out.2.2.2.2.1
  have hln4 : P4.pens.length = i + 2 := by rw [hnew.len, HK3.out.2.2.2.2.2]
  obtain ⟨p4, q4, hp4, hq4, hl4, hd4, _⟩ := hnew.done
  have hk4 := hnew.k
  rw [HK3.out.2.2.2.2.2] at hp4 hq4 hk4
  have hbase := hnew.base h4.inv HK3.out.2.2.2.2.2 HK3.out.2.1 f4 ff hp4 hd4.1
  have hqold : P4.pens[i]? = some q := by rw [hnew.old i (by rw [HK3.out.2.2.2.2.2]; omega)]; exact HK3.out.2.2.1
  obtain ⟨_, _, _, hst⟩ := open_of HK3.out.1 HK3.out.2.1 HK3.out.2.2.2.2.1.1
  have hdur : q.last.dur = ((baseOf p.fenced + p.values.length : Nat) : Int) := by
    rw [HK3.out.2.2.2.1, HK3.out.2.2.2.2.1.2, hst]
    simp
  obtain ⟨pa, pcap, g, z3, hbl, hpa, z4, hg, -, -, c5⟩ := h4.last hqold
  obtain ⟨pa', pcap', g', z3', -, -, z4', hg', c3', -, -⟩ := h4.last hq4
  rw [z3] at z3'
  have hz3 := Option.some.inj z3'
  simp only [Value.slice.injEq, Option.some.injEq, Addr.mk.injEq, and_true, true_and] at hz3
  obtain ⟨rfl, rfl⟩ := hz3
  rw [hln4] at z3
  rw [hl4, hbase] at c3'
  rw [hdur] at c5
  have HT4 : Hid (∀ nq, Calls Try.prog 17 #[.pointer (some ⟨pb, 0, none⟩), .int .i64 ((i : Int) + 2)] (w4.drewN nq) fun e w' => ∃ P', (e = .returned (.bool true) ∧ TSame P4 P') ∧ LawP w w' pb px P') := hide (fun nq => by
    have := (h4.drewN nq).tells (i + 1) hk4 hp4 hq4 hl4 hd4.1
    rw [hcast] at this
    exact this)
  have hl0 : (i : Int) < ((i + 2 : Nat) : Int) := by omega
  have hl1 : ((i + 1 : Nat) : Int) < ((i + 2 : Nat) : Int) := by omega
  have H4 := hide h4.below
  clear z3' h4 hnew hp4 hq4 hl4 hd4 hk4 hbase hqold hst hdur hln4 f4 ff HN2 hcast
  generalize ((baseOf p.fenced + p.values.length : Nat) : Int) = D at *
  generalize i + 2 = l2 at *
  generalize i + 1 = i1 at *
  go_wp2_with fail
  go_quiet (fail)
  go_wp2_with fail
  refine (HT4.out _).mono ?_
  rintro e5 w5 ⟨P5, ⟨rfl, -⟩, h5⟩
  have H5 := hide h5.below
  clear h5
  go_wp2_with fail
  go_ret
  exact ⟨rfl, H5.out⟩
end Go.Proofs.Ytfpbkghcjaonlaa.Sim

/-
  sixfoldlaw: Behind, walked.
-/
namespace Go.Proofs.Ytfpbkghcjaonlaa.Sim
open Go.RowKit

def PSt.mostly (P : PSt) (m : Int) : PSt := { P with most := m }
theorem pl_set_most (px : Nat) (wi fl : Int) (vP : Value) (most m : Int) (sworn : List Bool) (value : List Int) : (plCells px wi fl vP most sworn value).set 4 (.int .i64 m) = plCells px wi fl vP m sworn value := rfl
theorem Pl.mostly {k : Nat → Nat} {w : World} {b px : Nat} {P : PSt} (h : Pl k w b px P) (m : Int) : Evo k k cPS w (w.setCell ⟨b, 4, none⟩ (.int .i64 m)) ∧ Pl k (w.setCell ⟨b, 4, none⟩ (.int .i64 m)) b px (P.mostly m) := by
  obtain ⟨⟨hx, vP, gs, ho⟩, hi⟩ := h
  have hb := ho.blk
  have hk : k b = 300 := hb.2
  have ev : ∀ C : Nat → Prop, C 300 → Evo k k C w (w.setCell ⟨b, 4, none⟩ (.int .i64 m)) := fun C hC => (Evo.refl k C w).setCell _ _ (fun _ => by show C (k b); rw [hk]; exact hC)
  refine ⟨ev cPS (by unfold cPS; omega), ⟨hx.evo (ev (fun c => c = 300) rfl) (by unfold IM; decide) (fun c a b => by omega), vP, gs, ?_, ho.arr.evo (ev (fun c => c = 300) rfl) (by decide), ho.len, fun i a b => (ho.pen i a b).evo (ev (fun c => c = 300) rfl) (fun c x y => by omega) (by have := ho.len; have := hi.p9; omega)⟩, ⟨hi.inv, hi.saf, hi.len, hi.pen, hi.sl, hi.vl, hi.sw⟩⟩
  have h2 := hb.set 4 (.int .i64 m)
  rw [pl_set_most] at h2
  exact h2
section
variable {w wr : World} {b px : Nat} {P : PSt}
theorem LawP.mostC (h : LawP w wr b px P) : wr.cell? ⟨b, 4, none⟩ = some (.int .i64 P.most) ∧ wr.frozen? ⟨b, 4, none⟩ = false ∧ b < wr.heap.size := by
  obtain ⟨k, w1, k', h1, h2, h3, h4⟩ := h
  obtain ⟨vP, gs, ho⟩ := h4.1.2
  exact ⟨ho.blk.cell 4, ho.blk.free 4, ho.blk.lt⟩
theorem LawP.mostly (h : LawP w wr b px P) (m : Int) : LawP w (wr.setCell ⟨b, 4, none⟩ (.int .i64 m)) b px (P.mostly m) := by
  obtain ⟨k, w1, k', h1, h2, h3, h4⟩ := h
  obtain ⟨e, hp⟩ := h4.mostly m
  exact ⟨k, w1, k', h1, h2, h3.trans e, hp⟩
end
/-- An open newest writer, whatever the segments are at. -/
theorem open_of0 {i : Nat} {r : RVol} (h : Inv r) (sf : Saf r) (hl : r.pens.length = i + 1) {p : RPen} (hp : r.pens[i]? = some p) (h3 : 3 ≤ p.stands.phase) : p.over = false ∧ p.fenced.length = 4 ∧ p.stands.phase = 3 ∧ p.stands.base = (baseOf p.fenced : Int) := by
  have ho := sf.nov i p hp hl.symm
  rcases (h.pens i p hp).cases with ⟨h5, _⟩ | ⟨_, _, h5⟩ | ⟨_, _, _, h5⟩ | ⟨a, b, c, h5⟩
  · rw [ho] at h5; simp at h5
  · rw [h5] at h3; simp at h3
  · rw [h5] at h3; simp at h3
  · exact ⟨a, b, by rw [h5], by rw [h5]⟩
theorem open_keep0 {i : Nat} {r r' : RVol} {p : RPen} (hp : r.pens[i]? = some p) (h3 : p.stands.phase = 3) (g : Goes0 r r') (h : Inv r') (hl : r'.pens.length = i + 1) : ∃ p', r'.pens[i]? = some p' ∧ p'.stands.phase = 3 ∧ p'.stands.base = p.stands.base ∧ 4 ≤ p'.fenced.length ∧ p'.stands.base = (baseOf p'.fenced : Int) := by
  obtain ⟨p', hp', hw⟩ := g.pens i p hp
  have := hw.1
  obtain ⟨a, b, c, d⟩ := open_of0 h g.saf hl hp' (by omega)
  exact ⟨p', hp', c, hw.2.2.2.2 (by omega), by omega, d⟩

set_option maxRecDepth 3000 in
set_option maxHeartbeats 8000000 in
theorem behind_law (w : World) (a b : Int) (ha : i64R a) (hb : i64R b) (sa : Option Addr) (n cap : Nat) (hn : n ≤ 9223372036854775807) (hs : ScriptIs w sa n) (sb : Option Addr) (n2 cap2 : Nat) (hn2 : n2 ≤ 9223372036854775807) (hs2 : ScriptIs w sb n2) :
    Calls Try.prog 6 #[.agg #[.int .i64 a, .int .i64 b], .slice sa n cap, .slice sb n2 cap2] w fun e w' => e = .returned (.bool true) ∧ Below w.heap.size w w' := by
  have HPd := hide (fun W hW => played_any w W hW a b ha hb sa n cap hn hs)
  have HSc := hide hs2
  clear hs ha hb hs2
  go_enter Try.func6, Try.ntmps6
  go_wp2_with fail
  refine (HPd.out _ ((Below.refl w.heap.size w).alloc (Nat.le_refl _) _)).mono ?_
  rintro e1 w1 ⟨pb, px, P1, rfl, h1, hm1, hl1⟩
  have HN := hide (h1.newest (by omega))
  obtain ⟨i, hi⟩ : ∃ i, i = P1.pens.length := ⟨_, rfl⟩
  have hi7 : i ≤ 7 := by omega
  rw [← hi] at HN
  have HI := hide hi
  clear h1 hm1 hl1 hi HPd
  have hz : (((i : Int) + 1) == 0) = false := by simp; omega
  have hw1 : IntKind.i64.wrap ((i : Int) + 1 - 1) = (i : Int) := by rw [IntKind.wrap_i64] <;> omega
  go_wp2_with fail
  refine HN.out.mono ?_
  rintro e2 w2 ⟨P2, ⟨rfl, hnew⟩, h2⟩
  have hk2 := hnew.k
  have hln2 : P2.pens.length = i + 1 := by rw [hnew.len, HI.out]
  obtain ⟨p, q, hp, hq, hl, hd, hv⟩ := hnew.done
  rw [← HI.out] at hk2 hp hq
  have HT := hide (h2.tells i hk2 hp hq hl hd.1)
  have HK2 : Hid (P2.r.pens[i]? = some p ∧ P2.pens[i]? = some q ∧ q.last = p.stands ∧ p.stands.phase = 3 ∧ P2.pens.length = i + 1) := hide ⟨hp, hq, hl, hd.1, hln2⟩
  clear h2 hnew hk2 hp hq hl hd hv hln2 HN
  go_wp2_with fail
  refine HT.out.mono ?_
  rintro e3 w3 ⟨P3, ⟨rfl, ht3⟩, h3⟩
  have HK3 : Hid (P3.r.pens[i]? = some p ∧ P3.pens[i]? = some q ∧ q.last = p.stands ∧ p.stands.phase = 3 ∧ P3.pens.length = i + 1) := hide (by rw [ht3.1, ht3.2.1]; exact HK2.out)
  obtain ⟨pa, pcap, g, z3, hbl, hpa, z4, hg, c3, -, -⟩ := h3.last HK3.out.2.1
  rw [HK3.out.2.2.2.2] at z3
  rw [HK3.out.2.2.1] at c3
  have hipi : (i : Int) < ((i + 1 : Nat) : Int) := by omega
  obtain ⟨m4, f4, -⟩ := h3.mostC
  have H4 := hide (h3.mostly 0)
  obtain ⟨ba, hba⟩ : ∃ ba, ba = p.stands.base := ⟨_, rfl⟩
  rw [← hba] at c3
  have HBa := hide hba
  obtain ⟨M, hM⟩ : ∃ M, M = P3.most := ⟨_, rfl⟩
  rw [← hM] at m4
  clear h3 ht3 HT HK2 hba hM
  obtain ⟨i1, hi1⟩ : ∃ i1, i1 = i + 1 := ⟨_, rfl⟩
  rw [← hi1] at z3 hipi
  have HI1 := hide hi1
  clear hi1
  go_wp2_with fail
  clear z3 hbl hpa z4 hg c3 m4 f4
  go_loopw [9, 11] (fun v9 v wr => ∃ j : Nat, j ≤ n2 ∧ v9 = .bool true ∧ v = .int .i64 j ∧ ∃ P', Hid (LawP w wr pb px P' ∧ P'.most = 0 ∧ Goes0 P3.r P'.r ∧ P'.pens.length = i + 1)) (fun _ v _ => n2 - (intOf v).toNat)
  case atStart => exact ⟨0, Nat.zero_le _, rfl, rfl, P3.mostly 0, hide ⟨H4.out, rfl, Goes0.refl H4.out.inv.saf, HK3.out.2.2.2.2⟩⟩
  case round =>
    obtain ⟨j, hj, rfl, rfl, P', hst⟩ := hrel
    by_cases hlt : j < n2
    · have hd : decide ((j : Int) < (n2 : Int)) = true := by simp; omega
      obtain ⟨sg, so, K, A, B, rfl, hsg, s0, s1, s2, hA, hB⟩ := HSc.out.below hst.out.1.below j hlt
      have HAct := hide (hst.out.1.act K A B hA hB (by rw [hst.out.2.1]; decide))
      have HM := hide hst.out.2
      have hw : IntKind.i64.wrap ((j : Int) + 1) = ((j + 1 : Nat) : Int) := by rw [IntKind.wrap_i64] <;> omega
      clear hst
      go_wp2_with fail
      refine HAct.out.mono ?_
      rintro e4 w4 ⟨P4, ⟨rfl, hstep⟩, h4⟩
      have H5 : Hid (LawP w w4 pb px P4 ∧ P4.most = 0 ∧ Goes0 P3.r P4.r ∧ P4.pens.length = i + 1) := hide ⟨h4, by rw [hstep.1, HM.out.1], HM.out.2.1.trans hstep.2.1, by
        have hm := HM.out
        rcases hstep.2.2 with h | ⟨h1, h2⟩
        · rw [h]; exact hm.2.2
        · rw [hm.1] at h1; omega⟩
      clear h4 hstep
      go_wp2_with fail
      go_roundw
      case rel => exact ⟨j + 1, by omega, rfl, by go_num, P4, H5⟩
      case measure => simp [intOf]; omega
    · have hd : decide ((j : Int) < (n2 : Int)) = false := by simp; omega
      have HA := hide hst.out.1.all
      have HM := hide hst.out.2
      clear hst
      go_wp2_with fail
      refine HA.out.mono ?_
      rintro e4 w4 ⟨P5, ⟨rfl, ha4⟩, h4⟩
      have hl5 : P5.pens.length = i + 1 := by rw [ha4.len]; exact HM.out.2.2
      have hlr5 : P5.r.pens.length = i + 1 := by rw [← h4.inv.len]; exact hl5
      have hg5 : Goes0 P3.r P5.r := by rw [ha4.r]; exact HM.out.2.1
      obtain ⟨p5, hp5, h35, hb5, h45, hbb⟩ := open_keep0 HK3.out.1 HK3.out.2.2.2.1 hg5 h4.inv.inv hlr5
      have HOld : Hid (∀ m : Nat, m < i → ∃ q, P5.pens[m]? = some q ∧ q.last.dur ≤ ba) := hide (fun m hm => by
        have hml : m < P5.pens.length := by omega
        have hmr : m < P5.r.pens.length := by omega
        have hpm : P5.r.pens[m]? = some P5.r.pens[m] := List.getElem?_eq_getElem hmr
        refine ⟨P5.pens[m], List.getElem?_eq_getElem hml, ?_⟩
        have hla := ha4.last m P5.pens[m] P5.r.pens[m] (by rw [HM.out.2.2]; omega) (List.getElem?_eq_getElem hml) (by rw [← ha4.r]; exact hpm)
        rw [hla, HBa.out, ← hb5, hbb]
        exact old_dur h4.inv.inv h4.inv.saf hp5 h45 hpm hm)
      have HG5 : Hid (P5.r.pens[i]? = some p5 ∧ p5.stands.phase = 3 ∧ P5.pens.length = i + 1) := hide ⟨hp5, h35, hl5⟩
      have H5 := hide h4
      clear h4 ha4 hl5 hlr5 hg5 hp5 h35 hb5 h45 hbb HA
      go_wp2_with fail
      go_loopw [12] (fun v wr => ∃ m : Nat, m ≤ i ∧ v = .int .i64 ((m : Int) + 1) ∧ Hid (LawP w wr pb px P5)) (fun v _ => i + 1 - (intOf v).toNat)
      case atStart => exact ⟨0, Nat.zero_le _, rfl, H5⟩
      case round =>
        obtain ⟨m, hm, rfl, hst⟩ := hrel
        by_cases hltm : m < i
        · have hd2 : decide ((m : Int) + 1 < (i : Int) + 1) = true := by simp; omega
          have hwm : IntKind.i64.wrap ((m : Int) + 1 - 1) = (m : Int) := by rw [IntKind.wrap_i64] <;> omega
          have hwm2 : IntKind.i64.wrap ((m : Int) + 1 + 1) = ((m + 1 : Nat) : Int) + 1 := by rw [IntKind.wrap_i64] <;> omega
          obtain ⟨qm, hqm, hdu⟩ := HOld.out m hltm
          obtain ⟨pa, pcap, g, z3, hbl, hpa, z4, hg, -, -, c5⟩ := hst.out.last hqm
          rw [HG5.out.2.2, ← HI1.out] at z3
          have hmi : (m : Int) < (i1 : Int) := by rw [HI1.out]; omega
          have dg : decide (qm.last.dur > ba) = false := by simp; omega
          have dg2 : decide (ba < qm.last.dur) = false := by simp; omega
          generalize qm.last.dur = du at *
          clear hqm hdu
          go_wp2_with fail
          go_roundw
          case rel => exact ⟨m + 1, by omega, by go_num, hst⟩
          case measure => simp [intOf]; omega
        · have hd2 : decide ((m : Int) + 1 < (i : Int) + 1) = false := by simp; omega
          have HC := hide hst.out.calm
          clear hst
          go_wp2_with fail
          refine HC.out.mono ?_
          rintro e6 w6 ⟨P6, ⟨rfl, r6, c6, hP6⟩, h6⟩
          have hr6 : P6.r = r6 := by rw [hP6]; rfl
          have hK6 : Kk (i + 1) P6.r := ⟨h6.inv.inv, h6.inv.saf, by rw [hr6, c6.mo.len, ← H5.out.inv.len]; exact HG5.out.2.2, by rw [hr6]; exact c6.up⟩
          obtain ⟨p6, hp6, h36, _⟩ := open_keep HG5.out.1 HG5.out.2.1 (by rw [hr6]; exact c6.goes.toGoes0) hK6
          have HS := hide (h6.settle i (Prog.start3 hK6 hp6 h36))
          clear h6 c6 hP6 hr6 hK6 hp6 h36 HC
          go_wp2_with fail
          refine HS.out.mono ?_
          rintro e7 w7 ⟨P7, ⟨rfl, hs7⟩, h7⟩
          obtain ⟨p7, q7, hp7, hq7, hl7, hd7, _⟩ := hs7.done
          have HT7 := hide (h7.tells i hs7.k hp7 hq7 hl7 hd7.1)
          clear h7 hs7 hp7 hq7 hl7 hd7 HS
          go_wp2_with fail
          refine HT7.out.mono ?_
          rintro e8 w8 ⟨P8, ⟨rfl, -⟩, h8⟩
          have HSo := hide h8.solid
          clear h8 HT7
          go_wp2_with fail
          refine HSo.out.mono ?_
          rintro e9 w9 ⟨P9, ⟨rfl, rfl⟩, h9⟩
          have H9 := hide h9.below
          clear h9
          go_wp2_with fail
          go_ret
          exact ⟨rfl, H9.out⟩
end Go.Proofs.Ytfpbkghcjaonlaa.Sim

/-
  sixfoldlaw: Straight, walked.
-/
namespace Go.Proofs.Ytfpbkghcjaonlaa.Sim
open Go.RowKit

/-- Numbers in memory. -/
def ValsIs (w : World) (va : Option Addr) (vals : List Int) : Prop :=
  ∀ i (h : i < vals.length), ∃ g o : Nat, va = some ⟨g, o, none⟩ ∧ g < w.heap.size ∧ w.cell? ⟨g, o + i, none⟩ = some (.int .i64 vals[i])
theorem ValsIs.below {w w' : World} {va : Option Addr} {vals : List Int} (h : ValsIs w va vals) (hb : Below w.heap.size w w') : ValsIs w' va vals := by
  intro i hi
  obtain ⟨g, o, h1, h2, h3⟩ := h i hi
  have hs := hb.size
  exact ⟨g, o, h1, by omega, (hb.cell (p := ⟨g, o + i, none⟩) h2).trans h3⟩
theorem next_read {i : Nat} {r : RVol} (hK : Kk (i + 1 + 1) r) {p q : RPen} (hp : r.pens[i]? = some p) (h4 : p.fenced.length = 4) (hf : fourOf p.status ((baseOf p.fenced + p.values.length : Nat) : Int) = true) (hq : r.pens[i + 1]? = some q) (h3 : q.stands.phase = 3) {j : Nat} (hj : j < p.values.length) (hd : ((baseOf p.fenced + 1 + j : Nat) : Int) ≤ q.stands.dur) : r.read (((i + 1 : Nat) : Int) + 1) ((baseOf p.fenced + 1 + j : Nat) : Int) = (r, p.values[j], 0) := by
  have e0 := read_ok hK hq h3 (m := baseOf p.fenced + 1 + j) (by omega) hd
  obtain ⟨a, p', m, hn, hm, hr, hp', m1, _, hval⟩ := read_val hK.inv hK.saf e0
  have hm' : m = baseOf p.fenced + 1 + j := by omega
  subst hm'
  have ha : a = i + 1 := by omega
  subst ha
  obtain ⟨_, h4q, _, _⟩ := open_of hK hq h3
  have dq : Dec r.pens (((i + 1 : Nat) : Int) + 1) q := ⟨i + 1, rfl, hq, by omega⟩
  have hpre := pre_four hK.inv hK.saf hp (by omega) hf (Int.le_refl _)
  have hown := (own_val hK.inv hp hj).up hK.inv hK.saf hpre (by omega) dq (by omega)
  exact Prod.ext hr (Prod.ext (hval.uniq hK.inv hown) e0)
/-- Where Straight stands: the first writer has appended the first j values. -/
structure StrT (vals : List Int) (j : Nat) (P : PSt) : Prop where
  k : Kk 1 P.r
  len : P.pens.length = 1
  pen : ∃ p : RPen, P.r.pens[0]? = some p ∧ p.stands.phase = 3 ∧ baseOf p.fenced = 0 ∧ p.values = vals.take j
theorem StrT.settled {vals : List Int} {j : Nat} {P P' : PSt} (h : StrT vals j P) (s : SettleTo 0 P P') : StrT vals j P' ∧ ∃ p, P'.r.pens[0]? = some p ∧ Done p := by
  obtain ⟨p, hp, h3, hb, hv⟩ := h.pen
  obtain ⟨p', hp', a1, a2, a3⟩ := s.mo.pen 0 p hp
  obtain ⟨p2, q, hp2, _, _, hd, _⟩ := s.done
  rw [hp'] at hp2
  have := Option.some.inj hp2
  subst this
  obtain ⟨_, h4, _⟩ := open_of h.k hp h3
  have hfe : p'.fenced = p.fenced := (a1.eq_of_length (by have := a1.length_le; have := (s.k.inv.pens 0 p' hp').f4; omega)).symm
  exact ⟨⟨s.k, by rw [s.len]; exact h.len, p', hp', hd.1, by rw [hfe]; exact hb, by rw [a3]; exact hv⟩, p', hp', hd⟩
theorem StrT.next {vals : List Int} {j : Nat} {P : PSt} (h : StrT vals j P) (hj : j < vals.length) (h0 : (P.r.append 1 vals[j]).2.2 = 0) (hi : PlInv (P.appended 0 vals[j])) : StrT vals (j + 1) (P.appended 0 vals[j]) := by
  obtain ⟨p, hp, h3, hb, hv⟩ := h.pen
  have kk := append_kk (i := 0) h.k hi
  refine ⟨kk, ?_, ?_⟩
  · rw [hi.len]; exact kk.len
  · obtain ⟨i, p0, hn, hp0, ho, h4, hf, _, _, hpens⟩ := (goes_append h.k.inv h.k.saf 1 vals[j]).2.2 h0
    have hi0 : i = 0 := by omega
    subst hi0
    rw [hp] at hp0
    have := Option.some.inj hp0
    subst this
    have hil := (List.getElem?_eq_some_iff.1 hp).1
    have hpe : (P.appended 0 vals[j]).r.pens[0]? = some { p with values := p.values ++ [vals[j]] } := by
      show (P.r.append (((0 : Nat) : Int) + 1) vals[j]).1.pens[0]? = _
      rw [show ((0 : Nat) : Int) + 1 = 1 from rfl, hpens, List.getElem?_set_self hil]
    refine ⟨_, hpe, ?_, hb, ?_⟩
    · rw [stands_open (p := { p with values := p.values ++ [vals[j]] }) ho (by simp only; omega) hf]
    · simp only
      rw [hv, List.take_add_one, List.getElem?_eq_getElem hj]; rfl
theorem StrT.next40 {vals : List Int} {j : Nat} {P : PSt} (h : StrT vals j P) (hj : j < 40) {p : RPen} (hp : P.r.pens[0]? = some p) (hd : Done p) (v : Int) : (P.r.append 1 v).2.2 = 0 := by
  obtain ⟨p', hp', h3, hb, hv⟩ := h.pen
  rw [hp] at hp'
  have := Option.some.inj hp'
  subst this
  obtain ⟨_, _, _, hst⟩ := open_of h.k hp hd.1
  have hne : p.stands.next ≠ 40 := by
    rw [hst, hb, hv]
    simp only [List.length_take]
    omega
  exact (append_done (i := 0) h.k hp hd v).2 hne
end Go.Proofs.Ytfpbkghcjaonlaa.Sim
