import Derived.Test.YtfpbkghcjaonlaaGreatJ35
/-
  Apart: two volumes in one memory.
-/
namespace Go.Proofs.YtfpbkghcjaonlaaGreat.Sim
open Go.RowKit

/-- What the one holds on to is none of the other's. -/
def Dis (k1 k2 : Nat → Nat) (n : Nat) : Prop := ∀ g, g < n → (k1 g ≠ 0 → k2 g < 10) ∧ (k2 g ≠ 0 → k1 g < 10)
theorem Dis.symm {k1 k2 : Nat → Nat} {n : Nat} (h : Dis k1 k2 n) : Dis k2 k1 n := fun g hg => ⟨(h g hg).2, (h g hg).1⟩
def kZ (k : Nat → Nat) (n : Nat) : Nat → Nat := fun g => if g < n then k g else 0
theorem kZ_old (k : Nat → Nat) (n g : Nat) (h : g < n) : kZ k n g = k g := if_pos h
theorem kZ_new (k : Nat → Nat) (n g : Nat) (h : n ≤ g) : kZ k n g = 0 := if_neg (by omega)

/-- One of the two: the volumes, the law's own lists. -/
structure Side (t : XVol × RVol) (k : Nat → Nat) (wr : World) (b px py n : Nat) : Prop where
  bo : Both px py t k wr
  law : ∃ nC nR nI, nC ≤ 4 * n ∧ nR ≤ 8 * n ∧ nI ≤ 4 * n ∧ LawIs k wr is205 b px py nC nR nI
  cl : Clean k wr
  gd : GoodT (60 * n) t

theorem Both.evo0 {px py : Nat} {t : XVol × RVol} {k k' : Nat → Nat} {w w' : World} (h : Both px py t k w) (ev : Evo k k' (fun c => c = 0) w w') : Both px py t k' w' :=
  ⟨h.1.evo ev (by decide) (fun c h1 h2 => by omega), h.2.evo ev (by decide) (fun c h1 h2 => by omega)⟩

/-- The other is worked at. -/
theorem Side.other {t : XVol × RVol} {k k1 k1' : Nat → Nat} {wr w' : World} {b px py n : Nat} (h : Side t k wr b px py n) (hd : Dis k1 k wr.heap.size) {C : Nat → Prop} (hC : ∀ c, C c → 10 ≤ c) (ev : Evo k1 k1' C wr w') :
    Side t (kZ k wr.heap.size) w' b px py n ∧ Dis k1' (kZ k wr.heap.size) w'.heap.size := by
  have e0 : Evo k (kZ k wr.heap.size) (fun c => c = 0) wr w' := ⟨ev.os, ev.tape, ev.output, ev.size, fun g hg => kZ_old _ _ _ hg, fun g hg h0 => ev.keep g hg (fun hc => by
    have h1 := (hd g hg).2 h0
    have h2 := hC _ hc
    omega)⟩
  refine ⟨⟨h.bo.evo0 e0, ?_, fun g hg => ?_, h.gd⟩, fun g hg => ?_⟩
  · obtain ⟨nC, nR, nI, a, b, c, hl⟩ := h.law
    exact ⟨nC, nR, nI, a, b, c, hl.evo e0 (fun c hc => by unfold is205 at hc; omega) (fun c h1 h2 => by omega)⟩
  · by_cases ho : g < wr.heap.size
    · rw [kZ_old _ _ _ ho]; exact h.cl g ho
    · rw [kZ_new _ _ _ (by omega)]; exact .inl (by decide)
  · by_cases ho : g < wr.heap.size
    · rw [kZ_old _ _ _ ho, ev.col g ho]; exact hd g ho
    · rw [kZ_new _ _ _ (by omega)]
      exact ⟨fun _ => by decide, fun h0 => absurd rfl h0⟩

/-- Both of them. -/
def Ap (w0 : World) (n0 : Nat) (wr : World) (b1 x1 y1 j1 b2 x2 y2 j2 : Nat) : Prop :=
  ∃ t1 t2 k1 k2, Side t1 k1 wr b1 x1 y1 j1 ∧ Side t2 k2 wr b2 x2 y2 j2 ∧ Dis k1 k2 wr.heap.size ∧ (∀ g, g < n0 → k1 g = 0 ∧ k2 g = 0) ∧ n0 ≤ wr.heap.size ∧ Below n0 w0 wr
theorem Ap.swap {w0 wr : World} {n0 b1 x1 y1 j1 b2 x2 y2 j2 : Nat} (h : Ap w0 n0 wr b1 x1 y1 j1 b2 x2 y2 j2) : Ap w0 n0 wr b2 x2 y2 j2 b1 x1 y1 j1 := by
  obtain ⟨t1, t2, k1, k2, h1, h2, hd, hz, hn, hb⟩ := h
  exact ⟨t2, t1, k2, k1, h2, h1, hd.symm, fun g hg => ⟨(hz g hg).2, (hz g hg).1⟩, hn, hb⟩

theorem below_zero {k k' : Nat → Nat} {w w' : World} {n0 : Nat} {C : Nat → Prop} (hC : ∀ c, C c → 10 ≤ c) (hn : n0 ≤ w.heap.size) (hz : ∀ g, g < n0 → k g = 0) (ev : Evo k k' C w w') : Below n0 w w' :=
  ⟨ev.os, ev.tape, ev.output, ev.size, fun g hg => ev.keep g (by omega) (fun hc => by have := hC _ hc; rw [hz g hg] at this; omega)⟩

theorem duo10 : ∀ c, cDuo c → 10 ≤ c := fun _ h => h.1
theorem law10 : ∀ c, cLaw c → 10 ≤ c := fun c h => by unfold cLaw at h; omega

/-- The first one's step. -/
theorem Ap.step {w0 wr w' : World} {n0 b1 x1 y1 b2 x2 y2 j2 j1' : Nat} {t2 t1' : XVol × RVol} {k1 k2 k1' : Nat → Nat} (h2 : Side t2 k2 wr b2 x2 y2 j2) (hd : Dis k1 k2 wr.heap.size) (hz : ∀ g, g < n0 → k1 g = 0 ∧ k2 g = 0) (hn : n0 ≤ wr.heap.size) (hb : Below n0 w0 wr)
    (ev : Evo k1 k1' cDuo wr w') (h1' : Side t1' k1' w' b1 x1 y1 j1') : Ap w0 n0 w' b1 x1 y1 j1' b2 x2 y2 j2 := by
  obtain ⟨ho, hd'⟩ := h2.other hd duo10 ev
  have hs := ev.size
  refine ⟨t1', t2, k1', _, h1', ho, hd', fun g hg => ⟨(ev.col g (by omega)).trans (hz g hg).1, (kZ_old _ _ _ (by omega)).trans (hz g hg).2⟩, by omega, hb.trans (below_zero duo10 hn (fun g hg => (hz g hg).1) ev)⟩

theorem fits3 (K : Int) : fitsOf K 3 = true := by unfold fitsOf; split <;> first | rfl | (split <;> rfl)

theorem ap_act {w0 wr : World} {n0 b1 x1 y1 j1 b2 x2 y2 j2 : Nat} (h : Ap w0 n0 wr b1 x1 y1 j1 b2 x2 y2 j2) (hj : j1 + 1 ≤ 1048576) (K A B : Int) (hA : i64R A) (hB : i64R B) :
    Calls Tryz.prog 10 #[.pointer (some ⟨b1, 0, none⟩), .agg #[.int .i64 K, .int .i64 A, .int .i64 B]] wr fun e w' => e = .returned (.bool true) ∧ Ap w0 n0 w' b1 x1 y1 (j1 + 1) b2 x2 y2 j2 := by
  obtain ⟨t1, t2, k1, k2, h1, h2, hd, hz, hn, hb⟩ := h
  obtain ⟨nC, nR, nI, c1, c2, c3, hl⟩ := h1.law
  have hst : LSt (Both x1 y1) t1 k1 wr wr b1 x1 y1 nC nR nI [] := ⟨k1, Evo.refl _ _ _, h1.bo, hl, h1.cl, by simp⟩
  refine (act_any (both_duet x1 y1 3) (60 * j1) h1.gd (by unfold LIM; omega) K A B hA hB (fits3 K) (by omega) (by omega) (by omega) hst).mono ?_
  rintro e w' ⟨rfl, t', nC', nR', nI', hg', d1, d2, d3, k1', ev, hbo, hl', hc', _⟩
  exact ⟨rfl, Ap.step h2 hd hz hn hb ev ⟨hbo, ⟨nC', nR', nI', by omega, by omega, by omega, hl'⟩, hc', by rw [show 60 * (j1 + 1) = 60 * j1 + 60 from by omega]; exact hg'⟩⟩

theorem ap_looks {w0 wr : World} {n0 b1 x1 y1 j1 b2 x2 y2 j2 : Nat} (h : Ap w0 n0 wr b1 x1 y1 j1 b2 x2 y2 j2) (hj : j1 ≤ 1048576) :
    Calls Tryz.prog 11 #[.pointer (some ⟨b1, 0, none⟩)] wr fun e w' => e = .returned (.bool true) ∧ Ap w0 n0 w' b1 x1 y1 j1 b2 x2 y2 j2 := by
  obtain ⟨t1, t2, k1, k2, h1, h2, hd, hz, hn, hb⟩ := h
  obtain ⟨nC, nR, nI, c1, c2, c3, hl⟩ := h1.law
  have hst : LSt (Both x1 y1) t1 k1 wr wr b1 x1 y1 nC nR nI [] := ⟨k1, Evo.refl _ _ _, h1.bo, hl, h1.cl, by simp⟩
  refine (hst.looks (both_fam x1 y1) (by omega) (by omega) (by omega)).mono ?_
  rintro e w' ⟨rfl, k1', ev, hbo, hl', hc', _⟩
  exact ⟨rfl, Ap.step h2 hd hz hn hb ev ⟨hbo, ⟨nC, nR, nI, c1, c2, c3, hl'⟩, hc', h1.gd⟩⟩

theorem side_last {w0 wr : World} {n0 b px py j : Nat} {t : XVol × RVol} {k : Nat → Nat} (h : Side t k wr b px py j) (hj : j ≤ 1048576) (hz : ∀ g, g < n0 → k g = 0) (hn : n0 ≤ wr.heap.size) (hb : Below n0 w0 wr) :
    Calls Tryz.prog 12 #[.pointer (some ⟨b, 0, none⟩)] wr fun e w' => e = .returned (.bool true) ∧ (∃ k', Evo k k' cLaw wr w') ∧ Below n0 w0 w' := by
  obtain ⟨nC, nR, nI, c1, c2, c3, hl⟩ := h.law
  have hfl := (both_duet px py 3).flle _ t h.gd
  refine (last_any (fl := flT t) (Both px py t) (fun k k' w w' hq ev => (both_fam px py).stay _ _ _ _ _ hq ev) (fun k w hq => ((both_duet px py 3).sides _ t h.gd (by unfold LIM; omega) k w hq).sides hfl) hfl h.bo hl h.cl (by omega) (by omega) (by omega)).mono ?_
  rintro e w' ⟨rfl, k', ev, _⟩
  exact ⟨rfl, ⟨k', ev⟩, hb.trans (below_zero law10 hn hz ev)⟩

theorem ap_last {w0 wr : World} {n0 b1 x1 y1 j1 b2 x2 y2 j2 : Nat} (h : Ap w0 n0 wr b1 x1 y1 j1 b2 x2 y2 j2) (h1j : j1 ≤ 1048576) (h2j : j2 ≤ 1048576) :
    Calls Tryz.prog 12 #[.pointer (some ⟨b1, 0, none⟩)] wr fun e w' => e = .returned (.bool true) ∧ b2 < w'.heap.size ∧ Calls Tryz.prog 12 #[.pointer (some ⟨b2, 0, none⟩)] w' fun e w'' => e = .returned (.bool true) ∧ Below n0 w0 w'' := by
  obtain ⟨t1, t2, k1, k2, h1, h2, hd, hz, hn, hb⟩ := h
  refine (side_last h1 h1j (fun g hg => (hz g hg).1) hn hb).mono ?_
  rintro e w' ⟨rfl, ⟨k', ev⟩, hb'⟩
  obtain ⟨ho, _⟩ := h2.other hd law10 ev
  have hs := ev.size
  obtain ⟨_, _, _, _, _, _, hl⟩ := ho.law
  obtain ⟨_, _, _, hB, _⟩ := hl.ex
  refine ⟨rfl, hB.lt, (side_last ho h2j (fun g hg => (kZ_old _ _ _ (by omega)).trans (hz g hg).2) (by omega) hb').mono ?_⟩
  rintro e w'' ⟨rfl, _, hb''⟩
  exact ⟨rfl, hb''⟩

theorem Ap.lt {w0 wr : World} {n0 b1 x1 y1 j1 b2 x2 y2 j2 : Nat} (h : Ap w0 n0 wr b1 x1 y1 j1 b2 x2 y2 j2) : b1 < wr.heap.size ∧ b2 < wr.heap.size ∧ Below n0 w0 wr := by
  obtain ⟨t1, t2, k1, k2, h1, h2, hd, hz, hn, hb⟩ := h
  obtain ⟨_, _, _, _, _, _, hl1⟩ := h1.law
  obtain ⟨_, _, _, hB1, _⟩ := hl1.ex
  obtain ⟨_, _, _, _, _, _, hl2⟩ := h2.law
  obtain ⟨_, _, _, hB2, _⟩ := hl2.ex
  exact ⟨hB1.lt, hB2.lt, hb⟩

/-- Two volumes are made. -/
theorem ap_made (w : World) (a b c d : Int) (h1 : ¬ a < 1) (h2 : ¬ 8 < a) (h3 : ¬ b < 1) (h4 : ¬ 200 < b) (g1 : ¬ c < 1) (g2 : ¬ 8 < c) (g3 : ¬ d < 1) (g4 : ¬ 200 < d) :
    Calls Tryz.prog 9 #[.agg #[.int .i64 a, .int .i64 b]] w fun e w1 => ∃ b1 x1 y1, e = .returned (.tuple #[.pointer (some ⟨b1, 0, none⟩), .bool true]) ∧ Below w.heap.size w w1 ∧ b1 < w1.heap.size ∧
      ∀ W, Below w1.heap.size w1 W → Calls Tryz.prog 9 #[.agg #[.int .i64 c, .int .i64 d]] W fun e w2 => ∃ b2 x2 y2, e = .returned (.tuple #[.pointer (some ⟨b2, 0, none⟩), .bool true]) ∧ Ap w w.heap.size w2 b1 x1 y1 0 b2 x2 y2 0 := by
  refine (made_good w a b h1 h2 h3 h4).mono ?_
  rintro e w1 ⟨b1, x1, y1, k1, rfl, ev1, hq1, hl1, hc1⟩
  have hB1 := below_of_ours ev1
  have hbl : b1 < w1.heap.size := by obtain ⟨_, _, _, hB, _⟩ := hl1.ex; exact hB.lt
  refine ⟨b1, x1, y1, rfl, hB1, hbl, fun W hW => ?_⟩
  have s1 : Side (xvol (r0 a b), r0 a b) k1 w1 b1 x1 y1 0 := ⟨both_new a b x1 y1 k1 w1 hq1, ⟨0, 0, 0, by omega, by omega, by omega, hl1⟩, hc1, good0 a b h1 h2 h3 h4⟩
  have d0 : ∀ n, Dis k0 k1 n := fun n g _ => ⟨fun h => absurd rfl h, fun _ => by unfold k0; omega⟩
  have ev0 : Evo k0 k0 noC w1 W := Evo.of_below hW
  obtain ⟨s1W, _⟩ := s1.other (d0 _) (C := noC) (fun c h => h.elim) ev0
  refine (made_good W c d g1 g2 g3 g4).mono ?_
  rintro e w2 ⟨b2, x2, y2, k2, rfl, ev2, hq2, hl2, hc2⟩
  have s2 : Side (xvol (r0 c d), r0 c d) k2 w2 b2 x2 y2 0 := ⟨both_new c d x2 y2 k2 w2 hq2, ⟨0, 0, 0, by omega, by omega, by omega, hl2⟩, hc2, good0 c d g1 g2 g3 g4⟩
  obtain ⟨s1', hd'⟩ := s1W.other (k1 := k0) (k1' := k2) (fun g _ => ⟨fun h => absurd rfl h, fun _ => by unfold k0; omega⟩) (C := cOurs) (fun c h => h) ev2
  have hz1 := hB1.size
  have hz2 := hW.size
  have hz3 := ev2.size
  refine ⟨b2, x2, y2, rfl, _, _, _, _, s1', s2, hd'.symm, fun g hg => ⟨?_, ?_⟩, by omega, hB1.trans ((hW.mono hz1).trans ((below_of_ours ev2).mono (by omega)))⟩
  · rw [kZ_old _ _ _ (by omega), kZ_old _ _ _ (by omega), ev1.col g hg]; rfl
  · rw [ev2.col g (by omega)]; rfl
end Go.Proofs.YtfpbkghcjaonlaaGreat.Sim
