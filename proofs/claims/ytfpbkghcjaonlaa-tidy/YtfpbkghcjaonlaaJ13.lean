import Derived.Test.YtfpbkghcjaonlaaJ12
/-
  The simulation: how much there is after so many calls.
-/
namespace Go.Proofs.Ytfpbkghcjaonlaa.Sim

structure SegSz (m : Nat) (g : RSeg) : Prop where
  e0 : 0 < g.epochs.length
  e1 : g.epochs.length ≤ m + 1
  l0 : 0 < g.lists.length
  l1 : g.lists.length ≤ m + 1
  lk : ∀ l ∈ g.lists, l.length ≤ 9
  en : g.entries.length ≤ m
/-- How much there is after so many calls. -/
structure Sz (N m : Nat) (r : RVol) : Prop where
  net : r.net.length ≤ N
  seg : ∀ g ∈ r.segs, SegSz m g
  pen : ∀ p ∈ r.pens, p.status.length ≤ m

theorem SegSz.mono {m m' : Nat} {g : RSeg} (h : SegSz m g) (hm : m ≤ m') : SegSz m' g := ⟨h.e0, by have := h.e1; omega, h.l0, by have := h.l1; omega, h.lk, by have := h.en; omega⟩
theorem Sz.mono {N N' m m' : Nat} {r : RVol} (h : Sz N m r) (hN : N ≤ N') (hm : m ≤ m') : Sz N' m' r := ⟨Nat.le_trans h.net hN, fun g hg => (h.seg g hg).mono hm, fun p hp => Nat.le_trans (h.pen p hp) hm⟩
theorem Sz.send {N m : Nat} {r : RVol} (h : Sz N m r) (x : Msg) : Sz (N + 1) m (r.send x) := by
  refine ⟨?_, h.seg, h.pen⟩
  have := sendNet_len r.fl r.net x
  have := h.net
  simp only [RVol.send]; omega
theorem Sz.sendO {N m : Nat} {r : RVol} (h : Sz N m r) (o : Option Msg) : Sz (N + 1) m (r.sendO o) := by
  cases o with
  | none => exact h.mono (by omega) (Nat.le_refl _)
  | some x => exact h.send x
theorem Sz.sendsUp {N m : Nat} {r : RVol} (h : Sz N m r) (f : Nat → Option Msg) : ∀ n, Sz (N + n) m (r.sendsUp f n)
  | 0 => h
  | n + 1 => (h.sendsUp f n).sendO (f n)
theorem Sz.seg_one {N m : Nat} {r : RVol} (h : Sz N m r) (i : Nat) (g : RSeg) (hg : SegSz m g) : Sz N m (r.setSeg i g) :=
  ⟨h.net, fun q hq => by
    rcases List.mem_or_eq_of_mem_set hq with h1 | rfl
    · exact h.seg q h1
    · exact hg, h.pen⟩
theorem Sz.setPen {N m : Nat} {r : RVol} (h : Sz N m r) (i : Nat) (p : RPen) (hp : p.status.length ≤ m) : Sz N m (r.setPen i p) :=
  ⟨h.net, h.seg, fun q hq => by
    rcases List.mem_or_eq_of_mem_set hq with h1 | rfl
    · exact h.pen q h1
    · exact hp⟩
theorem Sz.goneV {N m : Nat} {r : RVol} (h : Sz N m r) (i : Nat) : Sz N m (r.goneV i) := by
  refine ⟨?_, h.seg, h.pen⟩
  have := h.net
  simp only [RVol.goneV, goneAt]
  split
  · simpa using this
  · exact this
theorem comeTo_len (l : List Ent) (x : Int × Int × Int) : (comeTo l x).length ≤ l.length + 1 := by unfold comeTo; split <;> simp
theorem SegSz.coming {m : Nat} {g : RSeg} (h : SegSz m g) (x : Msg) : SegSz (m + 1) (g.coming x) :=
  ⟨h.e0, by have := h.e1; simp only [RSeg.coming]; omega, h.l0, by have := h.l1; simp only [RSeg.coming]; omega, h.lk, by have := comeTo_len g.entries (x.lsn, x.epoch, x.value); have := h.en; simp only [RSeg.coming]; omega⟩
theorem SegSz.epochUp {m : Nat} {g : RSeg} (h : SegSz m g) (e : Int) : SegSz (m + 1) (g.epochUp e) :=
  ⟨by simp [RSeg.epochUp], by have := h.e1; simp [RSeg.epochUp]; omega, h.l0, by have := h.l1; simp only [RSeg.epochUp]; omega, h.lk, by have := h.en; simp only [RSeg.epochUp]; omega⟩
theorem SegSz.afterCut {m : Nat} {g : RSeg} (h : SegSz m g) (x : Msg) (hx : x.cuts.length ≤ 9) : SegSz (m + 1) (g.afterCut x) := by
  have h1 := h.epochUp x.epoch
  unfold RSeg.afterCut
  split
  · exact h1
  · refine ⟨h1.e0, h1.e1, by simp [RSeg.cutBy], by have := h.l1; simp [RSeg.cutBy, RSeg.epochUp]; omega, fun l hl => ?_, by have := h1.en; simp only [RSeg.cutBy, List.length_map]; exact this⟩
    simp only [RSeg.cutBy] at hl
    rcases List.mem_append.1 hl with h2 | h2
    · exact h1.lk l h2
    · rw [List.mem_singleton.1 h2]; exact hx

theorem sz_sHears {N m : Nat} {r : RVol} (hI : Inv r) (h : Sz N m r) (x : Msg) (hx : MsgInv r.pens x) : Sz (N + 1) (m + 1) (r.sHears x) := by
  have h1 : Sz N (m + 1) r := h.mono (Nat.le_refl _) (by omega)
  have h2 : Sz (N + 1) (m + 1) r := h.mono (by omega) (by omega)
  unfold RVol.sHears
  cases hg : r.segs[x.to_.toNat]? with
  | none => exact h2
  | some g =>
    have hs := h.seg g (List.mem_of_getElem? hg)
    simp only
    split
    · cases keptAt g.entries x.lsn with
      | none => exact h2
      | some e => exact h1.send _
    · split
      · split
        · exact (h1.seg_one _ _ (hs.coming x)).mono (by omega) (Nat.le_refl _)
        · exact h2
      · split
        · exact h1.send _
        · split
          · exact (h1.seg_one _ _ (hs.epochUp x.epoch)).send _
          · split
            · exact (h1.seg_one _ _ (hs.afterCut x (hx.ct.len9 hI))).send _
            · split
              · cases keptAt g.entries x.lsn with
                | none => exact (h1.seg_one _ _ (hs.coming x)).mono (by omega) (Nat.le_refl _)
                | some e => exact h1.send _
              · exact h2
theorem sz_wHears {N m : Nat} {r : RVol} (h : Sz N m r) (x : Msg) : Sz (N + 6) (m + 1) (r.wHears x) := by
  have h1 : Sz N (m + 1) r := h.mono (Nat.le_refl _) (by omega)
  have h2 : Sz (N + 6) (m + 1) r := h.mono (by omega) (by omega)
  unfold RVol.wHears
  cases hp : r.pens[x.to_.toNat - 1]? with
  | none => exact h2
  | some p =>
    have hs := h.pen p (List.mem_of_getElem? hp)
    simp only
    split
    · exact (h1.setPen _ _ (by rw [(ended_same p).2.1]; omega)).mono (by omega) (Nat.le_refl _)
    · split
      · exact (h1.setPen _ _ (by simp; omega)).mono (by omega) (Nat.le_refl _)
      · split
        · unfold RVol.heard
          split
          · exact h2
          · split
            · rw [sendUp_eq]; exact (h1.setPen _ _ (by simp only; omega)).sendsUp _ 6
            · exact (h1.setPen _ _ (by simp only; omega)).mono (by omega) (Nat.le_refl _)
        · exact h2
theorem sz_deliver {N m : Nat} {r : RVol} (hI : Inv r) (h : Sz N m r) (n : Int) : Sz (N + 6) (m + 1) (r.deliver n).1 := by
  have h2 : Sz (N + 6) (m + 1) r := h.mono (by omega) (by omega)
  unfold RVol.deliver
  cases placeE r.net n with
  | none => exact h2
  | some i =>
    simp only
    cases hn : r.net[i]? with
    | none => exact h2
    | some q =>
      simp only
      have hm := hI.net q (List.mem_of_getElem? hn)
      unfold RVol.arrives
      split
      · exact sz_wHears (h.goneV i) q.1
      · cases (r.goneV i).segs[q.1.to_.toNat]? with
        | none => exact (h.goneV i).mono (by omega) (by omega)
        | some g =>
          simp only
          split
          · exact (sz_sHears (hI.goneV i) (h.goneV i) q.1 hm).mono (by omega) (Nat.le_refl _)
          · exact (h.goneV i).mono (by omega) (by omega)
theorem sz_drop {N m : Nat} {r : RVol} (h : Sz N m r) (n : Int) : Sz N m (r.drop n) := by
  unfold RVol.drop
  cases placeE r.net n with
  | none => exact h
  | some i => exact h.goneV i
theorem sz_copy {N m : Nat} {r : RVol} (h : Sz N m r) (n : Int) : Sz (N + 1) m (r.copy n) := by
  unfold RVol.copy
  cases messageAt r.net n with
  | none => exact h.mono (by omega) (Nat.le_refl _)
  | some x => exact h.send x
theorem sz_open {N m : Nat} {r : RVol} (h : Sz N m r) : Sz (N + 6) m r.open_.1 := by
  unfold RVol.open_
  split
  · exact h.mono (by omega) (Nat.le_refl _)
  · have ho : Sz N m r.opened := ⟨h.net, h.seg, fun p hp => by
      rcases List.mem_append.1 hp with h1 | h1
      · exact h.pen p h1
      · rw [List.mem_singleton.1 h1]; simp [pen0]⟩
    simp only
    rw [sendUp_eq]
    exact ho.sendsUp _ 6
theorem sz_resend {N m : Nat} {r : RVol} (h : Sz N m r) (n : Int) : Sz (N + 6) m (r.resend n).1 := by
  have h2 : Sz (N + 6) m r := h.mono (by omega) (Nat.le_refl _)
  unfold RVol.resend
  split
  · exact h2
  · cases r.pens[n.toNat - 1]? with
    | none => exact h2
    | some p => exact h.sendsUp _ 6
theorem sz_append {N m : Nat} {r : RVol} (h : Sz N m r) (n v : Int) : Sz (N + 6) m (r.append n v).1 := by
  have h2 : Sz (N + 6) m r := h.mono (by omega) (Nat.le_refl _)
  have hp : ∀ i, Sz N m (r.pushed i v) := fun i => by
    unfold RVol.pushed
    cases hp : r.pens[i]? with
    | none => exact h
    | some p => exact h.setPen i _ (h.pen p (List.mem_of_getElem? hp))
  unfold RVol.append
  split
  · exact h2
  · split
    · exact h2
    · split
      · exact h2
      · split
        · exact h2
        · simp only
          rw [sendUp_eq]
          exact (hp _).sendsUp _ 6
theorem sz_sync {N m : Nat} {r : RVol} (h : Sz N m r) (n : Int) : Sz (N + 1) m (r.sync n).1 := by
  have h2 : Sz (N + 1) m r := h.mono (by omega) (Nat.le_refl _)
  unfold RVol.sync
  split
  · exact h2
  · cases hg : r.segs[n.toNat]? with
    | none => exact h2
    | some g =>
      simp only
      split
      · have hs := h.seg g (List.mem_of_getElem? hg)
        have h3 : Sz N m (r.synced n.toNat) := by
          unfold RVol.synced
          rw [hg]
          exact h.seg_one n.toNat _ ⟨hs.e0, hs.e1, hs.l0, hs.l1, hs.lk, by simpa using hs.en⟩
        unfold RVol.after
        cases (r.synced n.toNat).segs[n.toNat]? with
        | none => exact h3.mono (by omega) (Nat.le_refl _)
        | some g' =>
          simp only
          split
          · exact h3.send _
          · exact h3.mono (by omega) (Nat.le_refl _)
      · exact h2
theorem sz_gossip {N m : Nat} {r : RVol} (h : Sz N m r) (a b : Int) : Sz (N + 1) m (r.gossip a b).1 := by
  have h2 : Sz (N + 1) m r := h.mono (by omega) (Nat.le_refl _)
  unfold RVol.gossip
  split
  · exact h2
  · cases r.segs[a.toNat]? with
    | none => exact h2
    | some g =>
      simp only
      split
      · exact h.send _
      · exact h2
theorem sz_crash {N m : Nat} {r : RVol} (h : Sz N m r) (n : Int) : Sz N m (r.crash n).1 := by
  unfold RVol.crash
  split
  · exact h
  · cases hg : r.segs[n.toNat]? with
    | none => exact h
    | some g =>
      simp only
      have hs := h.seg g (List.mem_of_getElem? hg)
      split
      · exact h.seg_one n.toNat _ ⟨hs.e0, hs.e1, hs.l0, hs.l1, hs.lk, by simpa using hs.en⟩
      · exact h
theorem sz_restart {N m : Nat} {r : RVol} (h : Sz N m r) (n : Int) : Sz N m (r.restart n).1 := by
  unfold RVol.restart
  split
  · exact h
  · cases hg : r.segs[n.toNat]? with
    | none => exact h
    | some g =>
      simp only
      have hs := h.seg g (List.mem_of_getElem? hg)
      split
      · exact h
      · exact h.seg_one n.toNat _ ⟨hs.e0, hs.e1, hs.l0, hs.l1, hs.lk, hs.en⟩
theorem sz_read {N m : Nat} {r : RVol} (h : Sz N m r) (n lsn : Int) : Sz N m (r.read n lsn).1 := by
  unfold RVol.read
  split
  · exact h
  · split
    · exact h
    · split
      · exact h
      · cases r.pens[n.toNat - 1]? with
        | none => exact h
        | some p =>
          simp only
          unfold RVol.readOf
          split
          · exact h
          · split
            · simp only
              unfold RVol.ends
              cases hq : r.pens[n.toNat - 1]? with
              | none => exact h
              | some q => exact h.setPen _ _ (by rw [(ended_same q).2.1]; exact h.pen q (List.mem_of_getElem? hq))
            · exact h

/-- A state after so many calls. -/
structure Good (m : Nat) (r : RVol) : Prop where
  inv : Inv r
  sz : Sz (6 * m) m r

theorem Good.mono {m m' : Nat} {r : RVol} (h : Good m r) (hm : m ≤ m') : Good m' r := ⟨h.inv, h.sz.mono (by omega) hm⟩
theorem MsgInv.ok {r : RVol} (h : Inv r) {x : Msg} (hx : MsgInv r.pens x) : MsgOk x := ⟨by have := hx.ct.len9 h; omega, by have := hx.mrk; omega⟩
theorem Good.nl {m : Nat} {r : RVol} (h : Good m r) (hm : m ≤ 70000000) : r.net.length ≤ 3000000000 := by have := h.sz.net; omega
theorem Good.fine {m : Nat} {r : RVol} (h : Good m r) : ∀ p ∈ r.pens, p.Fine := fun p hp => by
  obtain ⟨i, hi, rfl⟩ := List.getElem_of_mem hp
  exact fun ho => ((h.inv.pens i _ (List.getElem?_eq_getElem hi)).ov ho).1
theorem Good.scl {m : Nat} {r : RVol} (h : Good m r) : ∀ p ∈ r.pens, ∀ x ∈ p.status, x.scl ≤ 4000000000 := fun p hp x hx => by
  obtain ⟨i, hi, rfl⟩ := List.getElem_of_mem hp
  have hpi := h.inv.pens i _ (List.getElem?_eq_getElem hi)
  have := (hpi.sm x hx).2.1
  have := hpi.n40
  omega
theorem Good.to_ {m : Nat} {r : RVol} (h : Good m r) : ∀ p ∈ r.net, p.2 = false → MsgTo r.pens.length p.1 := fun p hp _ => (h.inv.net p hp).to_
theorem Good.lists {m : Nat} {r : RVol} (h : Good m r) (hm : m ≤ 70000000) : ∀ g ∈ r.segs, g.epochs.length ≤ 3000000000 ∧ g.lists.length ≤ 3000000000 := fun g hg => by
  have := (h.sz.seg g hg).e1
  have := (h.sz.seg g hg).l1
  omega
end Go.Proofs.Ytfpbkghcjaonlaa.Sim

/-
  Safety: what four segments told a writer of stands in every later list.
-/
namespace Go.Proofs.Ytfpbkghcjaonlaa.Sim

theorem dec_top {f : List Msg} {e : Int} : (e, (baseOf f : Int)) ∈ decCuts f e := by unfold decCuts; simp

theorem best_cases {r : RVol} (h : Inv r) {t : Int} {q : RPen} (d : Dec r.pens t q) : bestUp q.fenced 4 = [] ∨ ∃ t' q', Dec r.pens t' q' ∧ t' < t ∧ bestUp q.fenced 4 = decCuts q'.fenced t' := by
  obtain ⟨i, hn, hi, h4⟩ := d
  have hp := h.pens i q hi
  have hb := bestUp_all hp.f4
  rcases best_mem q.fenced with h0 | ⟨m, hm, h0⟩
  · left; rw [hb, h0]
  · rcases (hp.fm m hm).1 with h1 | ⟨t', q', d', h1⟩
    · left; rw [hb, h0, h1]
    · right
      refine ⟨t', q', d', ?_, by rw [hb, h0, h1]⟩
      have hs := hp.srt h4
      unfold decCuts at hs
      rw [hb, h0, h1] at hs
      have := (List.pairwise_append.1 hs).2.2 _ dec_top _ (List.mem_singleton.2 rfl)
      simp only at this
      omega

/-- Every cut of a list is the cut of a writer that has decided, at its Base. -/
theorem chain {r : RVol} (h : Inv r) : ∀ (k : Nat) {t : Int} {q : RPen}, t.toNat ≤ k → Dec r.pens t q → ∀ c ∈ decCuts q.fenced t, ∃ q', Dec r.pens c.1 q' ∧ c.2 = (baseOf q'.fenced : Int)
  | 0, t, q, hk, d, c, hc => by have := d.pos; omega
  | k + 1, t, q, hk, d, c, hc => by
    unfold decCuts at hc
    rcases List.mem_append.1 hc with h1 | h1
    · rcases best_cases h d with h0 | ⟨t', q', d', hlt, h0⟩
      · rw [h0] at h1; simp at h1
      · rw [h0] at h1
        exact chain h k (by have := d'.pos; omega) d' c h1
    · rw [List.mem_singleton.1 h1]; exact ⟨q, d, rfl⟩
theorem Dec.sorted {r : RVol} (h : Inv r) {t : Int} {q : RPen} (d : Dec r.pens t q) : (decCuts q.fenced t).Pairwise (fun a b => a.1 < b.1) := by
  obtain ⟨i, hn, hi, h4⟩ := d
  rw [hn]; exact (h.pens i q hi).srt h4

theorem good_of {l : List (Int × Int)} {lsn ep : Int} (h1 : ∃ c ∈ l, c.1 = ep) (h2 : ∀ c ∈ l, ep < c.1 → lsn ≤ c.2) : good l lsn ep = true := by
  unfold good
  rw [Bool.and_eq_true]
  constructor
  · rw [List.any_eq_true]
    obtain ⟨c, hc, he⟩ := h1
    exact ⟨c, hc, by simp [he]⟩
  · rw [List.all_eq_true]
    intro c hc
    by_cases hl : ep < c.1
    · have := h2 c hc hl
      simp [hl, show ¬ c.2 < lsn by omega]
    · simp [hl]

/-- Of one number a list of cuts lets one record stand. -/
theorem good_uniq {r : RVol} (h : Inv r) {t : Int} {q : RPen} (d : Dec r.pens t q) {n ep ep' v v' : Int} (g1 : good (decCuts q.fenced t) n ep = true) (g2 : good (decCuts q.fenced t) n ep' = true) (r1 : RecInv r.pens ep n v) (r2 : RecInv r.pens ep' n v') : ep = ep' ∧ v = v' := by
  have key : ∀ {a b x : Int}, good (decCuts q.fenced t) n a = true → good (decCuts q.fenced t) n b = true → RecInv r.pens b n x → ¬ a < b := by
    intro a b x ga gb rb hlt
    obtain ⟨c, hc, he⟩ := (good_mem gb).1
    have h1 := (good_mem ga).2 c hc (by omega)
    obtain ⟨q', d', hb⟩ := chain h t.toNat (Nat.le_refl _) d c hc
    obtain ⟨_, _, p, dp, hlt2, _⟩ := rb
    rw [he] at d'
    rw [dp.uniq d'] at hlt2
    omega
  have he : ep = ep' := by
    have := key g1 g2 r2
    have := key g2 g1 r1
    omega
  subst he
  obtain ⟨_, _, p, dp, _, e1⟩ := r1
  obtain ⟨_, _, p', dp', _, e2⟩ := r2
  rw [dp.uniq dp'] at e1
  rw [e1] at e2
  exact ⟨rfl, Option.some.inj e2⟩

/-- The list of t goes on from that of e, with no cut below n. -/
def Ext (pens : List RPen) (e : Int) (n : Nat) (t : Int) : Prop := ∃ p q, Dec pens e p ∧ Dec pens t q ∧ decCuts p.fenced e <+: decCuts q.fenced t ∧ ∀ c ∈ decCuts q.fenced t, e < c.1 → (n : Int) ≤ c.2
def ExtTo (pens : List RPen) (e : Int) (n : Nat) (top : Int) : Prop := ∀ t p, Dec pens t p → e < t → t ≤ top → Ext pens e n t

theorem ext_rest {r : RVol} (h : Inv r) {e t : Int} {p q : RPen} (dt : Dec r.pens t q) (hp : decCuts p.fenced e <+: decCuts q.fenced t) {c : Int × Int} (hc : c ∈ decCuts q.fenced t) : c ∈ decCuts p.fenced e ∨ e < c.1 := by
  obtain ⟨rest, hr⟩ := hp
  have hs := dt.sorted h
  rw [← hr] at hs hc
  rcases List.mem_append.1 hc with h1 | h1
  · exact .inl h1
  · exact .inr ((List.pairwise_append.1 hs).2.2 _ dec_top _ h1)
theorem good_up {r : RVol} (h : Inv r) {e t : Int} {p q : RPen} {n : Nat} (dt : Dec r.pens t q) (hp : decCuts p.fenced e <+: decCuts q.fenced t) (hn : ∀ c ∈ decCuts q.fenced t, e < c.1 → (n : Int) ≤ c.2) {i ep : Int} (hi : i ≤ (n : Int)) (hg : good (decCuts p.fenced e) i ep = true) : good (decCuts q.fenced t) i ep = true := by
  obtain ⟨⟨c, hc, he⟩, h2⟩ := good_mem hg
  refine good_of ⟨c, hp.subset hc, he⟩ (fun c' hc' hl => ?_)
  rcases ext_rest h dt hp hc' with h1 | h1
  · exact h2 c' h1 hl
  · have := hn c' hc' h1; omega
theorem good_down {r : RVol} (h : Inv r) {e t : Int} {p q : RPen} {n : Nat} (dt : Dec r.pens t q) (hp : decCuts p.fenced e <+: decCuts q.fenced t) (hn : ∀ c ∈ decCuts q.fenced t, e < c.1 → (n : Int) ≤ c.2) {i ep v : Int} (hi : i ≤ (n : Int)) (hg : good (decCuts q.fenced t) i ep = true) (hr : RecInv r.pens ep i v) : good (decCuts p.fenced e) i ep = true := by
  obtain ⟨⟨c, hc, he⟩, h2⟩ := good_mem hg
  refine good_of ?_ (fun c' hc' hl => h2 c' (hp.subset hc') hl)
  rcases ext_rest h dt hp hc with h1 | h1
  · exact ⟨c, h1, he⟩
  · exfalso
    have h3 := hn c hc h1
    obtain ⟨q', d', hb⟩ := chain h t.toNat (Nat.le_refl _) dt c hc
    obtain ⟨_, _, p', dp, hlt2, _⟩ := hr
    rw [he] at d'
    rw [dp.uniq d'] at hlt2
    omega

theorem PLe.dec_down {pens pens' : List RPen} (h : PLe pens pens') {n : Int} {p p' : RPen} (d : Dec pens n p) (d' : Dec pens' n p') : p'.fenced = p.fenced := by
  obtain ⟨p2, d2, hf, _⟩ := d.mono h
  rw [d'.uniq d2]; exact hf
theorem Ext.down {pens pens' : List RPen} (h : PLe pens pens') {e t : Int} {n : Nat} {p q : RPen} (d : Dec pens e p) (dt : Dec pens t q) (x : Ext pens' e n t) : Ext pens e n t := by
  obtain ⟨p', q', d1, d2, h1, h2⟩ := x
  have e1 := h.dec_down d d1
  have e2 := h.dec_down dt d2
  rw [e1, e2] at h1
  rw [e2] at h2
  exact ⟨p, q, d, dt, h1, h2⟩
theorem ExtTo.down {pens pens' : List RPen} (h : PLe pens pens') {e top : Int} {n : Nat} {p : RPen} (d : Dec pens e p) (x : ExtTo pens' e n top) : ExtTo pens e n top := by
  intro t q dt h1 h2
  obtain ⟨q', d', _, _⟩ := dt.mono h
  exact (x t q' d' h1 h2).down h d dt
theorem ExtTo.less {pens : List RPen} {e top top' : Int} {n : Nat} (x : ExtTo pens e n top) (h : top' ≤ top) : ExtTo pens e n top' := fun t p d h1 h2 => x t p d h1 (by omega)

/-- What a segment that told a writer of its Scl is at since. -/
structure Told (pens : List RPen) (m : Msg) (g : RSeg) : Prop where
  top : m.to_ ≤ topOf g.cuts
  scl : ∀ n : Nat, (n : Int) ≤ m.scl → ExtTo pens m.to_ n (topOf g.cuts) → n ≤ sclOf g.entries
/-- What it answered a fence after that. -/
def Saw (pens : List RPen) (m m2 : Msg) : Prop := m.frm = m2.frm → m.to_ < m2.to_ → m.to_ ≤ topOf m2.cuts ∧ ∀ n : Nat, (n : Int) ≤ m.scl → ExtTo pens m.to_ n (topOf m2.cuts) → n ≤ m2.marks.length
def MarksOk (pens : List RPen) (m : Msg) : Prop := ∀ (i : Nat) (h : i < m.marks.length), good m.cuts ((i : Int) + 1) m.marks[i] = true ∧ ∃ v, RecInv pens m.marks[i] ((i : Int) + 1) v
/-- What a writer that is fenced keeps. -/
structure OvInv (p : RPen) : Prop where
  few : p.over = true → p.fenced.length < 4 → p.a1 = 0 ∧ p.a2 = 0 ∧ p.a3 = 0
  many : p.over = true → 4 ≤ p.fenced.length → p.a1 = (baseOf p.fenced : Int) ∧ p.a2 = (baseOf p.fenced : Int) + (p.values.length : Int) ∧ (p.a3 = 0 ∨ ((baseOf p.fenced : Int) ≤ p.a3 ∧ p.a3 ≤ (baseOf p.fenced : Int) + (p.values.length : Int) ∧ fourOf p.status p.a3 = true))

/-- What a segment that answered the newest writer's fence keeps. -/
structure Hold (m : Msg) (g : RSeg) : Prop where
  cuts : g.cuts = m.cuts ∨ topOf g.cuts = m.to_
  kept : ∀ (i : Nat) (h : i < m.marks.length), good g.cuts ((i : Int) + 1) m.marks[i] = true → (plOf g.entries ((i : Int) + 1)).1 = 2 ∧ (plOf g.entries ((i : Int) + 1)).2.1 = m.marks[i]

structure Saf (r : RVol) : Prop where
  fdis : ∀ (i : Nat) (p : RPen), r.pens[i]? = some p → p.fenced.Pairwise (fun a b => a.frm ≠ b.frm)
  fnet : ∀ (i : Nat) (p : RPen), r.pens[i]? = some p → ∀ m ∈ p.fenced, (∃ q ∈ r.net, q.1 = m) ∧ m.kind = 2 ∧ m.to_ = (i : Int) + 1
  snet : ∀ (i : Nat) (p : RPen), r.pens[i]? = some p → ∀ m ∈ p.status, (∃ q ∈ r.net, q.1 = m) ∧ m.kind = 4 ∧ m.to_ = (i : Int) + 1
  ep : ∀ g ∈ r.segs, 0 ≤ g.epoch ∧ g.epoch ≤ (r.pens.length : Int)
  dn : ∀ g ∈ r.segs, g.up = false → ∀ e ∈ g.entries, e.gone = false → e.kept = true
  ov : ∀ p ∈ r.pens, OvInv p
  told : ∀ q ∈ r.net, q.1.kind = 4 → ∀ g, r.segs[q.1.frm.toNat]? = some g → Told r.pens q.1 g
  f0 : ∀ q ∈ r.net, q.1.kind = 2 → ∀ g, r.segs[q.1.frm.toNat]? = some g → q.1.to_ ≤ g.epoch
  saw : ∀ q ∈ r.net, q.1.kind = 4 → ∀ q2 ∈ r.net, q2.1.kind = 2 → Saw r.pens q.1 q2.1
  mrk : ∀ q ∈ r.net, q.1.kind = 2 → MarksOk r.pens q.1
  ref : ∀ q ∈ r.net, q.1.kind = 5 → q.1.to_ < (r.pens.length : Int)
  nov : ∀ (i : Nat) (p : RPen), r.pens[i]? = some p → i + 1 = r.pens.length → p.over = false
  hold : ∀ q ∈ r.net, q.1.kind = 2 → q.1.to_ = (r.pens.length : Int) → ∀ g, r.segs[q.1.frm.toNat]? = some g → Hold q.1 g

/-- Four segments told e of n. -/
def Pre (r : RVol) (e : Int) (n : Nat) : Prop := (∃ p, Dec r.pens e p) ∧ ∃ S : List Int, S.Nodup ∧ 4 ≤ S.length ∧ ∀ s ∈ S, 0 ≤ s ∧ s < 6 ∧ ∃ q ∈ r.net, q.1.kind = 4 ∧ q.1.to_ = e ∧ q.1.frm = s ∧ (n : Int) ≤ q.1.scl

theorem nodup_le : ∀ (k : Nat) (l : List Int), l.Nodup → (∀ x ∈ l, 0 ≤ x ∧ x < (k : Int)) → l.length ≤ k
  | 0, l, _, hx => by
    cases l with
    | nil => simp
    | cons a t => have := hx a List.mem_cons_self; omega
  | k + 1, l, hn, hx => by
    by_cases hm : (k : Int) ∈ l
    · have h1 := nodup_le k (l.erase (k : Int)) (hn.erase _) (fun x hx' => by
        have hxl := List.mem_of_mem_erase hx'
        have := hx x hxl
        have hne : x ≠ (k : Int) := fun he => by rw [he] at hx'; exact hn.not_mem_erase hx'
        omega)
      rw [List.length_erase_of_mem hm] at h1
      have := List.length_pos_of_mem hm
      omega
    · have := nodup_le k l hn (fun x hx' => by
        have := hx x hx'
        have hne : x ≠ (k : Int) := fun he => hm (he ▸ hx')
        omega)
      omega
theorem meet {A B : List Int} (ha : A.Nodup) (hb : B.Nodup) (h1 : ∀ x ∈ A, 0 ≤ x ∧ x < 6) (h2 : ∀ x ∈ B, 0 ≤ x ∧ x < 6) (hl : 6 < A.length + B.length) : ∃ x ∈ A, x ∈ B := by
  apply Classical.byContradiction
  intro hno
  have := nodup_le 6 (A ++ B) (List.nodup_append.2 ⟨ha, hb, fun a h3 b h4 he => hno ⟨a, h3, he ▸ h4⟩⟩) (fun x hx => by
    rcases List.mem_append.1 hx with h | h
    · exact h1 x h
    · exact h2 x h)
  simp at this
  omega

theorem okUp_of {l : List (Int × Int)} {ms : List Int} {n : Nat} (h : ∀ i, i < n → good l ((i : Int) + 1) (ms.getD i 0) = true) : okUp l ms n = true := by
  unfold okUp; rw [List.all_eq_true]; intro i hi; exact h i (by simpa using hi)
theorem reach_ge {l : List (Int × Int)} {ms : List Int} {n : Nat} (hn : n ≤ ms.length) (h : okUp l ms n = true) : n ≤ reachFrom l 0 ms := by
  obtain ⟨h1, _, h3⟩ := reach_spec l ms
  apply Classical.byContradiction
  intro hlt
  have h4 := h3 (by omega)
  rw [okUp_mono l ms (by omega) h] at h4
  simp at h4
theorem baseFold_ge (l : List (Int × Int)) : ∀ (ns : List (Int × List (Int × Int) × List Int)) (b : Nat), b ≤ ns.foldl (baseStep l) b ∧ ∀ x ∈ ns, reachFrom l 0 x.2.2 ≤ ns.foldl (baseStep l) b
  | [], b => ⟨Nat.le_refl _, fun x hx => by simp at hx⟩
  | a :: t, b => by
    rw [List.foldl_cons]
    obtain ⟨h1, h2⟩ := baseFold_ge l t (baseStep l b a)
    have h3 : b ≤ baseStep l b a ∧ reachFrom l 0 a.2.2 ≤ baseStep l b a := by unfold baseStep; split <;> omega
    refine ⟨by omega, fun x hx => ?_⟩
    rcases List.mem_cons.1 hx with rfl | hx
    · omega
    · exact h2 x hx
theorem base_ge {f : List Msg} (h4 : f.length = 4) {m : Msg} (hm : m ∈ f) {n : Nat} (hn : n ≤ m.marks.length) (hok : okUp (bestUp f 4) m.marks n = true) : n ≤ baseOf f := by
  rw [← base_eq h4]
  have := (baseFold_ge (bestUp f 4) (f.map note3) 0).2 (note3 m) (List.mem_map_of_mem hm)
  have h2 := reach_ge hn hok
  unfold note3 at this
  simp only at this
  unfold note3
  omega
theorem bestFold_top {pens : List RPen} : ∀ (f : List Msg) (b : List (Int × Int)), topOf b ≤ topOf (f.foldl bestStep b) ∧ ∀ m ∈ f, topOf m.cuts ≤ topOf (f.foldl bestStep b)
  | [], b => ⟨Int.le_refl _, fun x hx => by simp at hx⟩
  | a :: t, b => by
    rw [List.foldl_cons]
    obtain ⟨h1, h2⟩ := bestFold_top (pens := pens) t (bestStep b a)
    have h3 : topOf b ≤ topOf (bestStep b a) ∧ topOf a.cuts ≤ topOf (bestStep b a) := by unfold bestStep; split <;> omega
    refine ⟨by omega, fun x hx => ?_⟩
    rcases List.mem_cons.1 hx with rfl | hx
    · omega
    · exact h2 x hx

/-- What four segments told e of stands in every later list. -/
theorem ext_all {r : RVol} (h : Inv r) (s : Saf r) {e : Int} {n : Nat} (hP : Pre r e n) : ∀ (k : Nat) (c : Int) (q : RPen), c.toNat ≤ k → Dec r.pens c q → e < c → Ext r.pens e n c
  | 0, c, q, hk, d, _ => by have := d.pos; omega
  | k + 1, c, q, hk, d, hlt => by
    have ih : ∀ t p, Dec r.pens t p → e < t → t < c → Ext r.pens e n t := fun t p dt h1 h2 => ext_all h s hP k t p (by have := dt.pos; omega) dt h1
    obtain ⟨⟨p, dp⟩, S, hS, hS4, hSt⟩ := hP
    obtain ⟨i, hc, hi, h4⟩ := id d
    have hpi := h.pens i q hi
    have hf4 : q.fenced.length = 4 := by have := hpi.f4; omega
    have hfd : (q.fenced.map (·.frm)).Nodup := by
      have := s.fdis i q hi
      exact List.pairwise_map.2 this
    obtain ⟨x, hxS, hxF⟩ := meet hS hfd (fun x hx => ⟨(hSt x hx).1, (hSt x hx).2.1⟩) (fun x hx => by
      obtain ⟨m, hm, rfl⟩ := List.mem_map.1 hx
      have := hpi.fm m hm
      exact ⟨this.2.2.1, this.2.2.2.1⟩) (by simp; omega)
    obtain ⟨m2, hm2, hfrm⟩ := List.mem_map.1 hxF
    obtain ⟨_, _, q1, hq1, hk4, hto, hfr, hscl⟩ := hSt x hxS
    obtain ⟨⟨q2, hq2, he2⟩, hk2, hto2⟩ := s.fnet i q hi m2 hm2
    have hsaw := s.saw q1 hq1 hk4 q2 hq2 (by rw [he2]; exact hk2)
    rw [he2] at hsaw
    obtain ⟨hs1, hs2⟩ := hsaw (by omega) (by omega)
    rw [hto] at hs1 hs2
    -- the best list of the four
    have hb := bestUp_all hpi.f4
    have htop := (bestFold_top (pens := r.pens) q.fenced []).2 m2 hm2
    rw [← hb] at htop
    have hep := dp.pos
    rcases best_cases h d with h0 | ⟨t', q', d', ht', h0⟩
    · rw [h0] at htop
      have : topOf ([] : List (Int × Int)) = 0 := rfl
      omega
    rw [h0, topOf_dec] at htop
    have hext : decCuts p.fenced e <+: decCuts q'.fenced t' ∧ ∀ c ∈ decCuts q'.fenced t', e < c.1 → (n : Int) ≤ c.2 := by
      by_cases het : t' = e
      · subst het
        rw [dp.uniq d']
        refine ⟨List.prefix_refl _, fun c hc hl => ?_⟩
        have := top_max (d'.sorted h) c hc
        rw [topOf_dec] at this
        omega
      · obtain ⟨p2, q2', dp2, dq2, h1, h2⟩ := ih t' q' d' (by omega) ht'
        rw [dp2.uniq dp, dq2.uniq d'] at h1
        rw [dq2.uniq d'] at h2
        exact ⟨h1, h2⟩
    have hlen := hs2 n hscl (fun t pt dt h1 h2 => ih t pt dt h1 (by omega))
    -- the marks are good by the list taken
    have hmk := s.mrk q2 hq2 (by rw [he2]; exact hk2)
    rw [he2] at hmk
    have hok : okUp (bestUp q.fenced 4) m2.marks n = true := by
      refine okUp_of (fun j hj => ?_)
      have hjl : j < m2.marks.length := by omega
      obtain ⟨hg, v, hr⟩ := hmk j hjl
      rw [List.getD_eq_getElem?_getD, List.getElem?_eq_getElem hjl, Option.getD_some, h0]
      refine good_up h d' hext.1 hext.2 (i := (j : Int) + 1) (by omega) ?_
      obtain ⟨pt, dt, hL⟩ := CutsInv.dec (hpi.fm m2 hm2).1 (by omega)
      rw [hL] at hg
      by_cases het : topOf m2.cuts = e
      · rw [het] at hg dt
        rw [dt.uniq dp] at hg
        exact hg
      · obtain ⟨p2, q2', dp2, dq2, h1, h2⟩ := ih _ pt dt (by omega) (by omega)
        rw [dp2.uniq dp, dq2.uniq dt] at h1
        rw [dq2.uniq dt] at h2
        exact good_down h dt h1 h2 (i := (j : Int) + 1) (by omega) hg hr
    have hbase := base_ge hf4 hm2 hlen hok
    refine ⟨p, q, dp, d, ?_, fun c' hc' hl => ?_⟩
    · unfold decCuts at hext ⊢
      rw [h0]
      exact hext.1.trans (List.prefix_append _ _)
    · unfold decCuts at hc'
      rcases List.mem_append.1 hc' with h1 | h1
      · rw [h0] at h1; exact hext.2 c' h1 hl
      · rw [List.mem_singleton.1 h1]
        simp only
        omega
end Go.Proofs.Ytfpbkghcjaonlaa.Sim

/-
  Safety: a step keeps what safety needs.
-/
namespace Go.Proofs.Ytfpbkghcjaonlaa.Sim

/-- A writer goes on. -/
def WGo (a b : WSt) : Prop := a.phase ≤ b.phase ∧ a.base ≤ b.base ∧ a.next ≤ b.next ∧ a.dur ≤ b.dur ∧ (2 ≤ a.phase → b.base = a.base)
theorem WGo.refl (a : WSt) : WGo a a := ⟨Int.le_refl _, Int.le_refl _, Int.le_refl _, Int.le_refl _, fun _ => rfl⟩
theorem WGo.trans {a b c : WSt} (h : WGo a b) (h2 : WGo b c) : WGo a c := by
  obtain ⟨a1, a2, a3, a4, a5⟩ := h
  obtain ⟨b1, b2, b3, b4, b5⟩ := h2
  exact ⟨by omega, by omega, by omega, by omega, fun hp => by rw [b5 (by omega), a5 hp]⟩
theorem PLe.trans {a b c : List RPen} (h : PLe a b) (h2 : PLe b c) : PLe a c := by
  refine ⟨Nat.le_trans h.1 h2.1, fun i p hp h4 => ?_⟩
  obtain ⟨p1, e1, f1, v1⟩ := h.2 i p hp h4
  obtain ⟨p2, e2, f2, v2⟩ := h2.2 i p1 e1 (by rw [f1]; exact h4)
  exact ⟨p2, e2, by rw [f2, f1], v1.trans v2⟩

structure Goes0 (r r' : RVol) : Prop where
  saf : Saf r'
  ple : PLe r.pens r'.pens
  net : ∀ q ∈ r.net, ∃ q' ∈ r'.net, q'.1 = q.1
  pens : ∀ (i : Nat) (p : RPen), r.pens[i]? = some p → ∃ p', r'.pens[i]? = some p' ∧ WGo p.stands p'.stands
  wi : r'.wi = r.wi ∧ r'.fl = r.fl
structure Goes (r r' : RVol) : Prop extends Goes0 r r' where
  vals : ∀ (i : Nat) (p p' : RPen), r.pens[i]? = some p → r'.pens[i]? = some p' → p'.values = p.values
theorem Goes0.refl {r : RVol} (s : Saf r) : Goes0 r r := ⟨s, PLe.refl _, fun q hq => ⟨q, hq, rfl⟩, fun _ p hp => ⟨p, hp, WGo.refl _⟩, rfl, rfl⟩
theorem Goes.refl {r : RVol} (s : Saf r) : Goes r r := ⟨Goes0.refl s, fun _ p p' h h' => by rw [h] at h'; rw [Option.some.inj h']⟩
theorem Goes0.trans {a b c : RVol} (h : Goes0 a b) (h2 : Goes0 b c) : Goes0 a c := by
  refine ⟨h2.saf, h.ple.trans h2.ple, fun q hq => ?_, fun i p hp => ?_, by rw [h2.wi.1, h.wi.1], by rw [h2.wi.2, h.wi.2]⟩
  · obtain ⟨q1, m1, e1⟩ := h.net q hq
    obtain ⟨q2, m2, e2⟩ := h2.net q1 m1
    exact ⟨q2, m2, by rw [e2, e1]⟩
  · obtain ⟨p1, e1, w1⟩ := h.pens i p hp
    obtain ⟨p2, e2, w2⟩ := h2.pens i p1 e1
    exact ⟨p2, e2, w1.trans w2⟩
theorem Goes.trans {a b c : RVol} (h : Goes a b) (h2 : Goes b c) : Goes a c := by
  refine ⟨h.toGoes0.trans h2.toGoes0, fun i p p' hp hp' => ?_⟩
  obtain ⟨p1, e1, _⟩ := h.pens i p hp
  rw [h2.vals i p1 p' e1 hp', h.vals i p p1 hp e1]

/-- What a message must be when it is sent. -/
def MSaf (r : RVol) (m : Msg) : Prop :=
  (m.kind = 4 → (∀ g, r.segs[m.frm.toNat]? = some g → Told r.pens m g) ∧ ∀ q ∈ r.net, q.1.kind = 2 → Saw r.pens m q.1) ∧
  (m.kind = 2 → (∀ g, r.segs[m.frm.toNat]? = some g → m.to_ ≤ g.epoch) ∧ MarksOk r.pens m ∧ ∀ q ∈ r.net, q.1.kind = 4 → Saw r.pens q.1 m) ∧
  (m.kind = 2 → m.to_ = (r.pens.length : Int) → ∀ g, r.segs[m.frm.toNat]? = some g → Hold m g) ∧
  (m.kind = 5 → m.to_ < (r.pens.length : Int))
theorem MSaf.other {r : RVol} {m : Msg} (h4 : m.kind ≠ 4) (h2 : m.kind ≠ 2) (h5 : m.kind ≠ 5) : MSaf r m := ⟨fun h => absurd h h4, fun h => absurd h h2, fun h => absurd h h2, fun h => absurd h h5⟩
theorem send_mem {fl : Int} {net : List (Msg × Bool)} {m : Msg} {q : Msg × Bool} (h : q ∈ sendNet fl net m) : q ∈ net ∨ q.1 = m := by
  unfold sendNet at h
  split at h
  · rcases List.mem_append.1 h with h | h
    · exact .inl h
    · right; rw [List.mem_singleton.1 h]
  · exact .inl h
theorem mem_send {fl : Int} {net : List (Msg × Bool)} {m : Msg} {q : Msg × Bool} (h : q ∈ net) : q ∈ sendNet fl net m := by
  unfold sendNet
  split
  · exact List.mem_append_left _ h
  · exact h
theorem Saf.send {r : RVol} (s : Saf r) {m : Msg} (hm : MSaf r m) : Saf (r.send m) := by
  have up : ∀ x : Msg, (∃ q ∈ r.net, q.1 = x) → ∃ q ∈ (r.send m).net, q.1 = x := fun x ⟨q, hq, he⟩ => ⟨q, mem_send hq, he⟩
  refine ⟨s.fdis, fun i p hp x hx => ⟨up x (s.fnet i p hp x hx).1, (s.fnet i p hp x hx).2⟩, fun i p hp x hx => ⟨up x (s.snet i p hp x hx).1, (s.snet i p hp x hx).2⟩, s.ep, s.dn, s.ov, fun q hq hk g hg => ?_, fun q hq hk g hg => ?_, fun q hq hk q2 hq2 hk2 => ?_, fun q hq hk => ?_, fun q hq hk => ?_, s.nov, fun q hq hk he g hg => ?_⟩
  · rcases send_mem hq with h | h
    · exact s.told q h hk g hg
    · rw [h] at hk hg ⊢; exact (hm.1 hk).1 g hg
  · rcases send_mem hq with h | h
    · exact s.f0 q h hk g hg
    · rw [h] at hk hg ⊢; exact (hm.2.1 hk).1 g hg
  · rcases send_mem hq with h | h
    · rcases send_mem hq2 with h2 | h2
      · exact s.saw q h hk q2 h2 hk2
      · rw [h2] at hk2 ⊢; exact (hm.2.1 hk2).2.2 q h hk
    · rcases send_mem hq2 with h2 | h2
      · rw [h] at hk ⊢; exact (hm.1 hk).2 q2 h2 hk2
      · rw [h] at hk; rw [h2, hk] at hk2; omega
  · rcases send_mem hq with h | h
    · exact s.mrk q h hk
    · rw [h] at hk ⊢; exact (hm.2.1 hk).2.1
  · rcases send_mem hq with h | h
    · exact s.ref q h hk
    · rw [h] at hk ⊢; exact hm.2.2.2 hk
  · rcases send_mem hq with h | h
    · exact s.hold q h hk he g hg
    · rw [h] at hk he hg ⊢; exact hm.2.2.1 hk he g hg
theorem Goes.send {r : RVol} (s : Saf r) {m : Msg} (hm : MSaf r m) : Goes r (r.send m) :=
  ⟨⟨s.send hm, PLe.refl _, fun q hq => ⟨q, mem_send hq, rfl⟩, fun i p hp => ⟨p, hp, WGo.refl _⟩, rfl, rfl⟩, fun i p p' h h' => by
    have h' : r.pens[i]? = some p' := h'
    rw [h] at h'; rw [Option.some.inj h']⟩
theorem Goes.sendO {r : RVol} (s : Saf r) {o : Option Msg} (hm : ∀ m, o = some m → MSaf r m) : Goes r (r.sendO o) := by
  cases o with
  | none => exact Goes.refl s
  | some m => exact Goes.send s (hm m rfl)
theorem Goes.sendsUp {r : RVol} (s : Saf r) (f : Nat → Option Msg) : ∀ n, (∀ i, i < n → ∀ m, f i = some m → m.kind ≠ 4 ∧ m.kind ≠ 2 ∧ m.kind ≠ 5) → Goes r (r.sendsUp f n)
  | 0, _ => Goes.refl s
  | n + 1, h => by
    have h1 := Goes.sendsUp s f n (fun i hi => h i (by omega))
    refine h1.trans (Goes.sendO h1.saf (fun m hm => MSaf.other (h n (by omega) m hm).1 (h n (by omega) m hm).2.1 (h n (by omega) m hm).2.2))
theorem Goes.sendUp {r : RVol} (s : Saf r) (f : Nat → Msg) (n : Nat) (h : ∀ i, (f i).kind ≠ 4 ∧ (f i).kind ≠ 2 ∧ (f i).kind ≠ 5) : Goes r (r.sendUp f n) := by
  rw [sendUp_eq]
  exact Goes.sendsUp s _ n (fun i _ m hm => by have := Option.some.inj hm; subst this; exact h i)

theorem mem_gone {net : List (Msg × Bool)} {i : Nat} {q : Msg × Bool} (h : q ∈ net) : ∃ q' ∈ goneAt net i, q'.1 = q.1 := by
  unfold goneAt
  split
  · rename_i p hp
    obtain ⟨j, hj, rfl⟩ := List.getElem_of_mem h
    by_cases e : i = j
    · subst e
      rw [List.getElem?_eq_getElem hj] at hp
      have := Option.some.inj hp
      subst this
      exact ⟨_, List.mem_of_getElem (i := i) (h := by simpa using hj) rfl, by simp⟩
    · refine ⟨net[j], List.mem_of_getElem (i := j) (h := by simpa using hj) ?_, rfl⟩
      rw [List.getElem_set_ne e]
  · exact ⟨q, h, rfl⟩
theorem Saf.gone {r : RVol} (s : Saf r) (i : Nat) : Saf (r.goneV i) := by
  have up : ∀ x : Msg, (∃ q ∈ r.net, q.1 = x) → ∃ q ∈ (r.goneV i).net, q.1 = x := fun x ⟨q, hq, he⟩ => by
    obtain ⟨q', h1, h2⟩ := mem_gone (i := i) hq
    exact ⟨q', h1, by rw [h2, he]⟩
  refine ⟨s.fdis, fun j p hp x hx => ⟨up x (s.fnet j p hp x hx).1, (s.fnet j p hp x hx).2⟩, fun j p hp x hx => ⟨up x (s.snet j p hp x hx).1, (s.snet j p hp x hx).2⟩, s.ep, s.dn, s.ov, fun q hq hk g hg => ?_, fun q hq hk g hg => ?_, fun q hq hk q2 hq2 hk2 => ?_, fun q hq hk => ?_, fun q hq hk => ?_, s.nov, fun q hq hk he g hg => ?_⟩
  · obtain ⟨q', h1, h2⟩ := goneAt_mem hq
    rw [← h2] at hk hg ⊢; exact s.told q' h1 hk g hg
  · obtain ⟨q', h1, h2⟩ := goneAt_mem hq
    rw [← h2] at hk hg ⊢; exact s.f0 q' h1 hk g hg
  · obtain ⟨q', h1, h2⟩ := goneAt_mem hq
    obtain ⟨q'', h3, h4⟩ := goneAt_mem hq2
    rw [← h2] at hk ⊢; rw [← h4] at hk2 ⊢; exact s.saw q' h1 hk q'' h3 hk2
  · obtain ⟨q', h1, h2⟩ := goneAt_mem hq
    rw [← h2] at hk ⊢; exact s.mrk q' h1 hk
  · obtain ⟨q', h1, h2⟩ := goneAt_mem hq
    rw [← h2] at hk ⊢; exact s.ref q' h1 hk
  · obtain ⟨q', h1, h2⟩ := goneAt_mem hq
    rw [← h2] at hk he hg ⊢; exact s.hold q' h1 hk he g hg
theorem Goes.gone {r : RVol} (s : Saf r) (i : Nat) : Goes r (r.goneV i) :=
  ⟨⟨s.gone i, PLe.refl _, fun q hq => mem_gone hq, fun j p hp => ⟨p, hp, WGo.refl _⟩, rfl, rfl⟩, fun j p p' h h' => by
    have h' : r.pens[j]? = some p' := h'
    rw [h] at h'; rw [Option.some.inj h']⟩

theorem Saf.setSeg {r : RVol} (s : Saf r) (h : Inv r) {i : Nat} {g g' : RSeg} (hi : r.segs[i]? = some g) (he : g.epoch ≤ g'.epoch) (hep : g'.epoch ≤ (r.pens.length : Int)) (hdn : g'.up = false → ∀ e ∈ g'.entries, e.gone = false → e.kept = true) (ht : ∀ m, MsgInv r.pens m → m.kind = 4 → Told r.pens m g → Told r.pens m g') (hh : ∀ m, MsgInv r.pens m → m.kind = 2 → m.to_ = (r.pens.length : Int) → m.to_ ≤ g.epoch → MarksOk r.pens m → Hold m g → Hold m g') : Saf (r.setSeg i g') := by
  have hil := (List.getElem?_eq_some_iff.1 hi).1
  have get : ∀ (j : Nat) (x : RSeg), (r.setSeg i g').segs[j]? = some x → (j = i ∧ x = g') ∨ (j ≠ i ∧ r.segs[j]? = some x) := by
    intro j x hx
    simp only [RVol.setSeg] at hx
    by_cases e : i = j
    · subst e
      rw [List.getElem?_set_self hil] at hx
      exact .inl ⟨rfl, (Option.some.inj hx).symm⟩
    · rw [List.getElem?_set_ne e] at hx
      exact .inr ⟨fun h => e h.symm, hx⟩
  refine ⟨s.fdis, s.fnet, s.snet, fun x hx => ?_, fun x hx => ?_, s.ov, fun q hq hk x hx => ?_, fun q hq hk x hx => ?_, s.saw, s.mrk, s.ref, s.nov, fun q hq hk hl x hx => ?_⟩
  · rcases List.mem_or_eq_of_mem_set hx with hx | rfl
    · exact s.ep x hx
    · have := s.ep g (List.mem_of_getElem? hi)
      show 0 ≤ x.epoch ∧ x.epoch ≤ _
      exact ⟨by omega, hep⟩
  · rcases List.mem_or_eq_of_mem_set hx with hx | rfl
    · exact s.dn x hx
    · exact hdn
  · rcases get _ x hx with ⟨e, rfl⟩ | ⟨e, hx⟩
    · rw [← e] at hi
      exact ht q.1 (h.net q hq) hk (s.told q hq hk g hi)
    · exact s.told q hq hk x hx
  · rcases get _ x hx with ⟨e, rfl⟩ | ⟨e, hx⟩
    · rw [← e] at hi
      have := s.f0 q hq hk g hi
      omega
    · exact s.f0 q hq hk x hx
  · rcases get _ x hx with ⟨e, rfl⟩ | ⟨e, hx⟩
    · rw [← e] at hi
      exact hh q.1 (h.net q hq) hk hl (s.f0 q hq hk g hi) (s.mrk q hq hk) (s.hold q hq hk hl g hi)
    · exact s.hold q hq hk hl x hx
theorem Goes.setSeg {r : RVol} (s : Saf r) (h : Inv r) {i : Nat} {g g' : RSeg} (hi : r.segs[i]? = some g) (he : g.epoch ≤ g'.epoch) (hep : g'.epoch ≤ (r.pens.length : Int)) (hdn : g'.up = false → ∀ e ∈ g'.entries, e.gone = false → e.kept = true) (ht : ∀ m, MsgInv r.pens m → m.kind = 4 → Told r.pens m g → Told r.pens m g') (hh : ∀ m, MsgInv r.pens m → m.kind = 2 → m.to_ = (r.pens.length : Int) → m.to_ ≤ g.epoch → MarksOk r.pens m → Hold m g → Hold m g') : Goes r (r.setSeg i g') :=
  ⟨⟨s.setSeg h hi he hep hdn ht hh, PLe.refl _, fun q hq => ⟨q, hq, rfl⟩, fun j p hp => ⟨p, hp, WGo.refl _⟩, rfl, rfl⟩, fun j p p' h h' => by
    have h' : r.pens[j]? = some p' := h'
    rw [h] at h'; rw [Option.some.inj h']⟩

theorem Saf.pens {r : RVol} (s : Saf r) (h : Inv r) {pens' : List RPen} (hle : PLe r.pens pens') (hp : ∀ (i : Nat) (p : RPen), pens'[i]? = some p → p.fenced.Pairwise (fun a b => a.frm ≠ b.frm) ∧ (∀ m ∈ p.fenced, (∃ q ∈ r.net, q.1 = m) ∧ m.kind = 2 ∧ m.to_ = (i : Int) + 1) ∧ (∀ m ∈ p.status, (∃ q ∈ r.net, q.1 = m) ∧ m.kind = 4 ∧ m.to_ = (i : Int) + 1) ∧ OvInv p ∧ (i + 1 = pens'.length → p.over = false)) : Saf { r with pens := pens' } := by
  refine ⟨fun i p hi => (hp i p hi).1, fun i p hi => (hp i p hi).2.1, fun i p hi => (hp i p hi).2.2.1, fun g hg => ?_, s.dn, fun p hpm => ?_, fun q hq hk g hg => ?_, s.f0, fun q hq hk q2 hq2 hk2 => ?_, fun q hq hk => ?_, fun q hq hk => ?_, fun i p hi hl => (hp i p hi).2.2.2.2 hl, fun q hq hk hl g hg => ?_⟩
  · have := s.ep g hg
    have := hle.1
    show _ ∧ _ ≤ ((pens'.length : Nat) : Int)
    omega
  · obtain ⟨i, hi, rfl⟩ := List.getElem_of_mem hpm
    exact (hp i _ (List.getElem?_eq_getElem hi)).2.2.2.1
  · have ht := s.told q hq hk g hg
    obtain ⟨_, p, d, _⟩ := (h.net q hq).k4 hk
    exact ⟨ht.top, fun n hn hx => ht.scl n hn (hx.down hle d)⟩
  · have ht := s.saw q hq hk q2 hq2 hk2
    obtain ⟨_, p, d, _⟩ := (h.net q hq).k4 hk
    intro e1 e2
    obtain ⟨a, b⟩ := ht e1 e2
    exact ⟨a, fun n hn hx => b n hn (hx.down hle d)⟩
  · intro i hi
    obtain ⟨a, v, b⟩ := s.mrk q hq hk i hi
    exact ⟨a, v, b.mono hle⟩
  · have := s.ref q hq hk
    have := hle.1
    show _ < ((pens'.length : Nat) : Int)
    omega
  · have hl : q.1.to_ = ((pens'.length : Nat) : Int) := hl
    have ht := (h.net q hq).to_
    unfold MsgTo at ht
    rw [if_pos (.inl hk)] at ht
    have := hle.1
    exact s.hold q hq hk (by omega) g hg
theorem Saf.setPen {r : RVol} (s : Saf r) (h : Inv r) {i : Nat} {p p' : RPen} (hi : r.pens[i]? = some p) (hle : 4 ≤ p.fenced.length → p'.fenced = p.fenced ∧ p.values <+: p'.values) (h1 : p'.fenced.Pairwise (fun a b => a.frm ≠ b.frm)) (h2 : ∀ m ∈ p'.fenced, (∃ q ∈ r.net, q.1 = m) ∧ m.kind = 2 ∧ m.to_ = (i : Int) + 1) (h3 : ∀ m ∈ p'.status, (∃ q ∈ r.net, q.1 = m) ∧ m.kind = 4 ∧ m.to_ = (i : Int) + 1) (h4 : OvInv p') (h5 : p'.over = true → p.over = true ∨ i + 1 < r.pens.length) : Saf (r.setPen i p') := by
  have hil := (List.getElem?_eq_some_iff.1 hi).1
  refine s.pens h (PLe.set hi hle) (fun j x hx => ?_)
  by_cases e : i = j
  · subst e
    rw [List.getElem?_set_self hil] at hx
    have := Option.some.inj hx
    subst this
    refine ⟨h1, h2, h3, h4, fun hl => ?_⟩
    have hl : i + 1 = (r.pens.set i p').length := hl
    rw [List.length_set] at hl
    cases ho : p'.over with
    | false => rfl
    | true =>
      rcases h5 ho with h | h
      · rw [s.nov i p hi hl] at h; simp at h
      · omega
  · rw [List.getElem?_set_ne e] at hx
    exact ⟨s.fdis j x hx, s.fnet j x hx, s.snet j x hx, s.ov x (List.mem_of_getElem? hx), fun hl => s.nov j x hx (by rw [hl]; exact List.length_set)⟩
theorem Goes0.setPen {r : RVol} (s : Saf r) (h : Inv r) {i : Nat} {p p' : RPen} (hi : r.pens[i]? = some p) (hle : 4 ≤ p.fenced.length → p'.fenced = p.fenced ∧ p.values <+: p'.values) (h1 : p'.fenced.Pairwise (fun a b => a.frm ≠ b.frm)) (h2 : ∀ m ∈ p'.fenced, (∃ q ∈ r.net, q.1 = m) ∧ m.kind = 2 ∧ m.to_ = (i : Int) + 1) (h3 : ∀ m ∈ p'.status, (∃ q ∈ r.net, q.1 = m) ∧ m.kind = 4 ∧ m.to_ = (i : Int) + 1) (h4 : OvInv p') (h5 : p'.over = true → p.over = true ∨ i + 1 < r.pens.length) (hw : WGo p.stands p'.stands) : Goes0 r (r.setPen i p') := by
  have hil := (List.getElem?_eq_some_iff.1 hi).1
  refine ⟨s.setPen h hi hle h1 h2 h3 h4 h5, PLe.set hi hle, fun q hq => ⟨q, hq, rfl⟩, fun j x hx => ?_, rfl, rfl⟩
  by_cases e : i = j
  · subst e
    rw [hi] at hx
    have := Option.some.inj hx
    subst this
    exact ⟨p', List.getElem?_set_self hil, hw⟩
  · exact ⟨x, by simp only [RVol.setPen]; rw [List.getElem?_set_ne e]; exact hx, WGo.refl _⟩
theorem Goes.setPen {r : RVol} (s : Saf r) (h : Inv r) {i : Nat} {p p' : RPen} (hi : r.pens[i]? = some p) (hle : 4 ≤ p.fenced.length → p'.fenced = p.fenced) (hv : p'.values = p.values) (h1 : p'.fenced.Pairwise (fun a b => a.frm ≠ b.frm)) (h2 : ∀ m ∈ p'.fenced, (∃ q ∈ r.net, q.1 = m) ∧ m.kind = 2 ∧ m.to_ = (i : Int) + 1) (h3 : ∀ m ∈ p'.status, (∃ q ∈ r.net, q.1 = m) ∧ m.kind = 4 ∧ m.to_ = (i : Int) + 1) (h4 : OvInv p') (h5 : p'.over = true → p.over = true ∨ i + 1 < r.pens.length) (hw : WGo p.stands p'.stands) : Goes r (r.setPen i p') := by
  have hil := (List.getElem?_eq_some_iff.1 hi).1
  refine ⟨Goes0.setPen s h hi (fun h => ⟨hle h, by rw [hv]; exact List.prefix_refl _⟩) h1 h2 h3 h4 h5 hw, fun j x x' hx hx' => ?_⟩
  simp only [RVol.setPen] at hx'
  by_cases e : i = j
  · subst e
    rw [List.getElem?_set_self hil] at hx'
    rw [hi] at hx
    rw [← Option.some.inj hx, ← Option.some.inj hx', hv]
  · rw [List.getElem?_set_ne e, hx] at hx'
    rw [Option.some.inj hx']
end Go.Proofs.Ytfpbkghcjaonlaa.Sim
