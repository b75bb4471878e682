import Derived.Test.YtfpbkghcjaonlaaJ14
/-
  Liveness: one delivery; all that is in flight arrives.
-/
namespace Go.Proofs.Ytfpbkghcjaonlaa.Sim

/-- What a message may still cost. -/
def wt (m : Msg) : Nat := if m.kind = 1 ∨ m.kind = 3 ∨ m.kind = 6 ∨ m.kind = 7 then 2 else 1
theorem wt_pos (m : Msg) : 1 ≤ wt m ∧ wt m ≤ 2 := by unfold wt; split <;> omega
def undec (pens : List RPen) : Nat := pens.countP fun p => decide (p.fenced.length < 4)
def wts (l : List Msg) : Nat := (l.map wt).sum
def phi (r : RVol) : Nat := wts (liveOf r.net) + 12 * undec r.pens
theorem wts_le (l : List Msg) : wts l ≤ 2 * l.length := by
  unfold wts
  induction l with
  | nil => simp
  | cons a t ih => have := (wt_pos a).2; simp; omega
theorem wts_snoc (l : List Msg) (m : Msg) : wts (l ++ [m]) = wts l + wt m := by unfold wts; simp
theorem phi_le {r : RVol} (h : Inv r) : phi r ≤ 600 := by
  have h1 := wts_le (liveOf r.net)
  rw [liveOf_len] at h1
  have h2 := h.fly
  have h3 := h.fl
  have h4 := h.p9
  have h5 : undec r.pens ≤ r.pens.length := List.countP_le_length
  unfold phi
  omega
theorem phi_send (r : RVol) (m : Msg) : phi (r.send m) ≤ phi r + wt m := by
  unfold phi
  show wts (liveOf (sendNet r.fl r.net m)) + 12 * undec r.pens ≤ _
  rw [liveOf_send]
  split
  · omega
  · rw [wts_snoc]; omega
theorem phi_sendUp (r : RVol) (f : Nat → Msg) : ∀ n, phi (r.sendUp f n) ≤ phi r + 2 * n
  | 0 => Nat.le_refl _
  | n + 1 => by
    have h1 := phi_sendUp r f n
    have h2 := phi_send (r.sendUp f n) (f n)
    have := (wt_pos (f n)).2
    show phi ((r.sendUp f n).send (f n)) ≤ _
    omega
theorem undec_set {pens : List RPen} {i : Nat} {p p' : RPen} (hi : pens[i]? = some p) (hf : p.fenced.length ≤ p'.fenced.length) : undec (pens.set i p') ≤ undec pens ∧ (p.fenced.length < 4 → 4 ≤ p'.fenced.length → undec (pens.set i p') + 1 ≤ undec pens) := by
  obtain ⟨hil, rfl⟩ := List.getElem?_eq_some_iff.1 hi
  have e := List.countP_set (p := fun p : RPen => decide (p.fenced.length < 4)) (a := p') hil
  unfold undec
  rw [e]
  by_cases h1 : pens[i].fenced.length < 4
  · have hpos : 0 < pens.countP (fun p : RPen => decide (p.fenced.length < 4)) := List.countP_pos_iff.2 ⟨pens[i], List.getElem_mem hil, by simpa using h1⟩
    by_cases h2 : p'.fenced.length < 4
    · simp only [h1, h2, decide_true, if_true]
      exact ⟨by omega, fun _ h => by omega⟩
    · simp only [h1, h2, decide_true, decide_false, if_true, Bool.false_eq_true, if_false]
      exact ⟨by omega, fun _ _ => by omega⟩
  · have h2 : ¬ p'.fenced.length < 4 := by omega
    rw [if_neg (show ¬ (decide (pens[i].fenced.length < 4) = true) by simpa using h1), if_neg (show ¬ (decide (p'.fenced.length < 4) = true) by simpa using h2)]
    exact ⟨by omega, fun h => by omega⟩

/-- The first message in flight arrives. -/
theorem deliver_head {r : RVol} {m : Msg} {rest : List Msg} (h : liveOf r.net = m :: rest) : ∃ i, r.deliver 0 = ((r.goneV i).arrives m, 0) ∧ liveOf (r.goneV i).net = rest ∧ ∃ q ∈ r.net, q.1 = m := by
  obtain ⟨h1, h2⟩ := liveOf_place r.net 0
  cases hp : placeOf r.net 0 with
  | none => have := h2 hp; rw [h] at this; simp at this
  | some i =>
    obtain ⟨hi, e1, _, e3⟩ := h1 i hp
    rw [h] at e1 e3
    have em : r.net[i].1 = m := by simpa using e1.symm
    refine ⟨i, ?_, e3, r.net[i], List.getElem_mem hi, em⟩
    unfold RVol.deliver
    have : placeE r.net 0 = some i := by unfold placeE; rw [if_neg (by omega)]; exact hp
    rw [this]
    simp only [List.getElem?_eq_getElem hi, em]

theorem phi_arrives {r : RVol} (h : Inv r) (m : Msg) (hm : MsgInv r.pens m) : phi (r.arrives m) + 1 ≤ phi r + wt m := by
  have hw := wt_pos m
  unfold RVol.arrives
  by_cases hk : m.kind = 2 ∨ m.kind = 4 ∨ m.kind = 5
  · rw [if_pos hk]
    have ht := hm.to_
    unfold MsgTo at ht
    rw [if_pos hk] at ht
    obtain ⟨i, hi⟩ : ∃ i : Nat, m.to_ = (i : Int) + 1 := ⟨(m.to_ - 1).toNat, by omega⟩
    have et : m.to_.toNat - 1 = i := by omega
    have hil : i < r.pens.length := by omega
    obtain ⟨p, hp⟩ : ∃ p, r.pens[i]? = some p := ⟨r.pens[i], List.getElem?_eq_getElem hil⟩
    unfold RVol.wHears
    rw [et, hp]
    simp only
    have set : ∀ p' : RPen, p.fenced.length ≤ p'.fenced.length → phi (r.setPen i p') ≤ phi r := fun p' hf => by
      have := (undec_set hp hf).1
      unfold phi
      show wts (liveOf r.net) + 12 * undec (r.pens.set i p') ≤ _
      omega
    split
    · have := set p.ended (by rw [(ended_same p).1]; exact Nat.le_refl _)
      omega
    · split
      · have := set { p with status := p.status ++ [m] } (Nat.le_refl _)
        omega
      · split
        · rename_i hc
          have hcase : p.fenced.length < 4 := by
            rcases (h.pens i p hp).cases with ⟨_, h5⟩ | ⟨ho, h4, h5⟩ | ⟨_, _, _, h5⟩ | ⟨_, _, _, h5⟩
            · rw [hc.2] at h5; simp at h5
            · exact h4
            · rw [h5] at hc; simp at hc
            · rw [h5] at hc; simp at hc
          unfold RVol.heard
          split
          · omega
          · split
            · rename_i h3
              have h1 := phi_sendUp (r.setPen i { p with fenced := p.fenced ++ [m] }) (cutMsg m.to_ (decCuts (p.fenced ++ [m]) m.to_)) 6
              have h2 := (undec_set (p' := { p with fenced := p.fenced ++ [m] }) hp (by simp)).2 hcase (by simp; omega)
              have h4 : phi (r.setPen i { p with fenced := p.fenced ++ [m] }) + 12 ≤ phi r := by
                unfold phi
                show wts (liveOf r.net) + 12 * undec (r.pens.set i { p with fenced := p.fenced ++ [m] }) + 12 ≤ _
                omega
              omega
            · have := set { p with fenced := p.fenced ++ [m] } (by simp)
              omega
        · omega
  · rw [if_neg hk]
    have hkr := hm.kr
    cases hg : r.segs[m.to_.toNat]? with
    | none => simp only; omega
    | some g =>
      simp only
      split
      · unfold RVol.sHears
        rw [hg]
        simp only
        have one : ∀ (r' : RVol) (x : Msg), phi r' ≤ phi r → wt x = 1 → wt m = 2 → phi (r'.send x) + 1 ≤ phi r + wt m := fun r' x h1 h2 h3 => by
          have := phi_send r' x; omega
        have seg : ∀ g', phi (r.setSeg m.to_.toNat g') = phi r := fun g' => rfl
        by_cases k7 : m.kind = 7
        · rw [if_pos k7]
          have hw2 : wt m = 2 := by unfold wt; rw [if_pos (by omega)]
          cases keptAt g.entries m.lsn with
          | none => simp only; omega
          | some e => exact one _ _ (Nat.le_refl _) rfl hw2
        · rw [if_neg k7]
          by_cases k8 : m.kind = 8
          · rw [if_pos k8]
            split
            · rw [seg]; omega
            · omega
          · rw [if_neg k8]
            have hw2 : wt m = 2 := by unfold wt; rw [if_pos (by omega)]
            split
            · exact one _ _ (Nat.le_refl _) rfl hw2
            · split
              · exact one _ _ (by rw [seg]; exact Nat.le_refl _) rfl hw2
              · split
                · exact one _ _ (by rw [seg]; exact Nat.le_refl _) rfl hw2
                · split
                  · cases keptAt g.entries m.lsn with
                    | none => simp only; rw [seg]; omega
                    | some e => exact one _ _ (Nat.le_refl _) rfl hw2
                  · omega
      · omega
theorem phi_deliver {r : RVol} (h : Inv r) (hne : liveOf r.net ≠ []) : phi (r.deliver 0).1 + 1 ≤ phi r ∧ (r.deliver 0).2 = 0 := by
  cases hl : liveOf r.net with
  | nil => exact absurd hl hne
  | cons m rest =>
    obtain ⟨i, e1, e2, q, hq, rfl⟩ := deliver_head hl
    rw [e1]
    have h1 := phi_arrives (h.goneV i) q.1 (h.net q hq)
    have h2 : phi (r.goneV i) + wt q.1 = phi r := by
      unfold phi
      rw [e2, hl]
      show wts rest + 12 * undec r.pens + _ = wts (q.1 :: rest) + _
      unfold wts
      simp
      omega
    exact ⟨by simp only; omega, rfl⟩

/-- Deliveries of the first message, one after another. -/
def DlN : Nat → RVol → RVol → Prop
  | 0, r, r' => r' = r
  | n + 1, r, r' => liveOf r.net ≠ [] ∧ DlN n (r.deliver 0).1 r'
def Dl (r r' : RVol) : Prop := ∃ n, DlN n r r'
theorem Dl.nil (r : RVol) : Dl r r := ⟨0, rfl⟩
theorem Dl.cons {r r' : RVol} (h : liveOf r.net ≠ []) (t : Dl (r.deliver 0).1 r') : Dl r r' := by
  obtain ⟨n, t⟩ := t
  exact ⟨n + 1, h, t⟩
theorem Dl.ind {motive : RVol → RVol → Prop} (nil : ∀ r, motive r r) (cons : ∀ r r', liveOf r.net ≠ [] → motive (r.deliver 0).1 r' → motive r r') {r r' : RVol} (d : Dl r r') : motive r r' := by
  obtain ⟨n, d⟩ := d
  induction n generalizing r with
  | zero =>
    have d : r' = r := d
    rw [d]; exact nil r
  | succ n ih => exact cons r r' d.1 (ih d.2)
theorem Dl.snoc {r r' : RVol} (d : Dl r r') (h : liveOf r'.net ≠ []) : Dl r (r'.deliver 0).1 :=
  Dl.ind (motive := fun r r' => liveOf r'.net ≠ [] → Dl r (r'.deliver 0).1) (fun _ h => Dl.cons h (Dl.nil _)) (fun _ _ h1 ih h => Dl.cons h1 (ih h)) d h
def Dr (r r' : RVol) : Prop := Dl r r' ∧ liveOf r'.net = []

/-- A segment goes on, while W is the newest writer. -/
structure SGo (W : Int) (g g' : RSeg) : Prop where
  up : g.up = true → g'.up = true
  cuts : topOf g.cuts = W → g'.cuts = g.cuts
  has : topOf g.cuts = W → ∀ n, (plOf g.entries n).1 ≠ 0 → (plOf g'.entries n).1 ≠ 0
  kept : topOf g.cuts = W → ∀ n, (plOf g.entries n).1 = 2 → (plOf g'.entries n).1 = 2
theorem SGo.refl (W : Int) (g : RSeg) : SGo W g g := ⟨id, fun _ => rfl, fun _ _ h => h, fun _ _ h => h⟩
theorem SGo.trans {W : Int} {a b c : RSeg} (h : SGo W a b) (h2 : SGo W b c) : SGo W a c :=
  ⟨fun u => h2.up (h.up u), fun t => by have := h.cuts t; rw [h2.cuts (by rw [this]; exact t), this], fun t n x => h2.has (by rw [h.cuts t]; exact t) n (h.has t n x), fun t n x => h2.kept (by rw [h.cuts t]; exact t) n (h.kept t n x)⟩
/-- All goes on, and nobody opens or appends. -/
structure Mo (r r' : RVol) : Prop where
  len : r'.pens.length = r.pens.length
  seg : ∀ (s : Nat) (g : RSeg), r.segs[s]? = some g → ∃ g', r'.segs[s]? = some g' ∧ SGo (r.pens.length : Int) g g'
  pen : ∀ (i : Nat) (p : RPen), r.pens[i]? = some p → ∃ p', r'.pens[i]? = some p' ∧ p.fenced <+: p'.fenced ∧ p.status <+: p'.status ∧ p'.values = p.values
theorem Mo.refl (r : RVol) : Mo r r := ⟨rfl, fun _ g h => ⟨g, h, SGo.refl _ _⟩, fun _ p h => ⟨p, h, List.prefix_refl _, List.prefix_refl _, rfl⟩⟩
theorem Mo.trans {a b c : RVol} (h : Mo a b) (h2 : Mo b c) : Mo a c := by
  refine ⟨h2.len.trans h.len, fun s g hg => ?_, fun i p hp => ?_⟩
  · obtain ⟨g1, e1, s1⟩ := h.seg s g hg
    obtain ⟨g2, e2, s2⟩ := h2.seg s g1 e1
    rw [h.len] at s2
    exact ⟨g2, e2, s1.trans s2⟩
  · obtain ⟨p1, e1, a1, b1, c1⟩ := h.pen i p hp
    obtain ⟨p2, e2, a2, b2, c2⟩ := h2.pen i p1 e1
    exact ⟨p2, e2, a1.trans a2, b1.trans b2, c2.trans c1⟩
theorem Mo.same {r r' : RVol} (h1 : r'.segs = r.segs) (h2 : r'.pens = r.pens) : Mo r r' :=
  ⟨by rw [h2], fun s g h => ⟨g, by rw [h1]; exact h, SGo.refl _ _⟩, fun i p h => ⟨p, by rw [h2]; exact h, List.prefix_refl _, List.prefix_refl _, rfl⟩⟩
theorem Mo.send (r : RVol) (m : Msg) : Mo r (r.send m) := Mo.same rfl rfl
theorem sendsUp_segs (r : RVol) (f : Nat → Option Msg) : ∀ n, (r.sendsUp f n).segs = r.segs
  | 0 => rfl
  | n + 1 => by
    have := sendsUp_segs r f n
    show ((r.sendsUp f n).sendO (f n)).segs = _
    cases f n with
    | none => exact this
    | some m => exact this
theorem Mo.sendsUp (r : RVol) (f : Nat → Option Msg) (n : Nat) : Mo r (r.sendsUp f n) := Mo.same (sendsUp_segs r f n) (RVol.sendsUp_pens r f n)
theorem Mo.sendUp (r : RVol) (f : Nat → Msg) (n : Nat) : Mo r (r.sendUp f n) := by rw [sendUp_eq]; exact Mo.sendsUp r _ n
theorem Mo.gone (r : RVol) (i : Nat) : Mo r (r.goneV i) := Mo.same rfl rfl
theorem Mo.setSeg {r : RVol} {i : Nat} {g g' : RSeg} (hi : r.segs[i]? = some g) (h : SGo (r.pens.length : Int) g g') : Mo r (r.setSeg i g') := by
  have hil := (List.getElem?_eq_some_iff.1 hi).1
  refine ⟨rfl, fun s x hx => ?_, fun i p h => ⟨p, h, List.prefix_refl _, List.prefix_refl _, rfl⟩⟩
  simp only [RVol.setSeg]
  by_cases e : i = s
  · subst e
    rw [hi] at hx
    have := Option.some.inj hx
    subst this
    exact ⟨g', List.getElem?_set_self hil, h⟩
  · exact ⟨x, by rw [List.getElem?_set_ne e]; exact hx, SGo.refl _ _⟩
theorem Mo.setPen {r : RVol} {i : Nat} {p p' : RPen} (hi : r.pens[i]? = some p) (h1 : p.fenced <+: p'.fenced) (h2 : p.status <+: p'.status) (h3 : p'.values = p.values) : Mo r (r.setPen i p') := by
  have hil := (List.getElem?_eq_some_iff.1 hi).1
  refine ⟨by simp [RVol.setPen], fun s g h => ⟨g, h, SGo.refl _ _⟩, fun j x hx => ?_⟩
  simp only [RVol.setPen]
  by_cases e : i = j
  · subst e
    rw [hi] at hx
    have := Option.some.inj hx
    subst this
    exact ⟨p', List.getElem?_set_self hil, h1, h2, h3⟩
  · exact ⟨x, by rw [List.getElem?_set_ne e]; exact hx, List.prefix_refl _, List.prefix_refl _, rfl⟩

theorem come_sgo (W : Int) (g : RSeg) (m : Msg) : SGo W g (g.coming m) := by
  have key : ∀ n, (plOf g.entries n).1 ≠ 0 → plOf (comeTo g.entries (m.lsn, m.epoch, m.value)) n = plOf g.entries n := fun n hn => by
    rw [come_pl]
    split
    · rename_i hc
      rw [hc.1] at hn
      exact absurd hc.2 hn
    · rfl
  exact ⟨id, fun _ => rfl, fun _ n h => by show (plOf (comeTo _ _) n).1 ≠ 0; rw [key n h]; exact h, fun _ n h => by show (plOf (comeTo _ _) n).1 = 2; rw [key n (by rw [h]; decide)]; exact h⟩
theorem sync_sgo (W : Int) {g : RSeg} (hg : EntsOk g.entries) : SGo W g { g with entries := g.entries.map syncE } :=
  ⟨id, fun _ => rfl, fun _ n h => by
    show (plOf (g.entries.map syncE) n).1 ≠ 0
    rw [sync_pl hg]; unfold syncAt; split
    · show (2 : Int) ≠ 0
      decide
    · exact h, fun _ n h => by
    show (plOf (g.entries.map syncE) n).1 = 2
    rw [sync_pl hg]; unfold syncAt; split
    · rfl
    · exact h⟩

theorem mo_arrives {r : RVol} (h : Inv r) (sf : Saf r) (m : Msg) (hm : MsgInv r.pens m) : Mo r (r.arrives m) := by
  unfold RVol.arrives
  by_cases hk : m.kind = 2 ∨ m.kind = 4 ∨ m.kind = 5
  · rw [if_pos hk]
    unfold RVol.wHears
    cases hp : r.pens[m.to_.toNat - 1]? with
    | none => exact Mo.refl r
    | some p =>
      simp only
      split
      · obtain ⟨a, b, c⟩ := ended_same p
        exact Mo.setPen hp (by rw [a]; exact List.prefix_refl _) (by rw [b]; exact List.prefix_refl _) c
      · split
        · exact Mo.setPen hp (List.prefix_refl _) (List.prefix_append _ _) rfl
        · split
          · unfold RVol.heard
            have G := Mo.setPen (p' := { p with fenced := p.fenced ++ [m] }) hp (List.prefix_append _ _) (List.prefix_refl _) rfl
            split
            · exact Mo.refl r
            · split
              · exact G.trans (Mo.sendUp _ _ 6)
              · exact G
          · exact Mo.refl r
  · rw [if_neg hk]
    have hkr := hm.kr
    cases hi : r.segs[m.to_.toNat]? with
    | none => exact Mo.refl r
    | some g =>
      simp only
      have hgm := List.mem_of_getElem? hi
      have hg := h.segs g hgm
      have hgp := sf.ep g hgm
      split
      · unfold RVol.sHears
        rw [hi]
        simp only
        have come := Mo.setSeg hi (come_sgo _ g m)
        by_cases k7 : m.kind = 7
        · rw [if_pos k7]
          cases keptAt g.entries m.lsn with
          | none => exact Mo.refl r
          | some e => exact Mo.send _ _
        · rw [if_neg k7]
          by_cases k8 : m.kind = 8
          · rw [if_pos k8]
            split
            · exact come
            · exact Mo.refl r
          · rw [if_neg k8]
            have hw := hm.wr (by omega)
            by_cases hlt : m.epoch < g.epoch
            · rw [if_pos hlt]; exact Mo.send _ _
            · rw [if_neg hlt]
              by_cases k1 : m.kind = 1
              · rw [if_pos k1]
                exact (Mo.setSeg (g' := g.epochUp m.epoch) hi ⟨id, fun _ => rfl, fun _ _ x => x, fun _ _ x => x⟩).trans (Mo.send _ _)
              · rw [if_neg k1]
                by_cases k3 : m.kind = 3
                · rw [if_pos k3]
                  refine (Mo.setSeg hi ?_).trans (Mo.send _ _)
                  have htop := hg.top
                  have key : topOf g.cuts = (r.pens.length : Int) → g.afterCut m = g.epochUp m.epoch := fun ht => by
                    unfold RSeg.afterCut
                    rw [if_pos (by omega)]
                  exact ⟨fun hu => by unfold RSeg.afterCut; split <;> exact hu, fun ht => by rw [key ht]; rfl, fun ht n x => by rw [key ht]; exact x, fun ht n x => by rw [key ht]; exact x⟩
                · rw [if_neg k3]
                  split
                  · cases keptAt g.entries m.lsn with
                    | none => exact come
                    | some e => exact Mo.send _ _
                  · exact Mo.refl r
      · exact Mo.refl r
/-- While W is the newest, and all segments are up. -/
structure Kk (W : Nat) (r : RVol) : Prop where
  inv : Inv r
  saf : Saf r
  len : r.pens.length = W
  up : ∀ g ∈ r.segs, g.up = true
theorem Kk.mo {W : Nat} {r r' : RVol} (h : Kk W r) (m : Mo r r') (hi : Inv r') (sf : Saf r') : Kk W r' := by
  refine ⟨hi, sf, m.len.trans h.len, fun g' hg' => ?_⟩
  obtain ⟨s, hs, rfl⟩ := List.getElem_of_mem hg'
  have hl : s < r.segs.length := by rw [h.inv.s6]; rw [hi.s6] at hs; exact hs
  obtain ⟨g2, e2, sg⟩ := m.seg s _ (List.getElem?_eq_getElem hl)
  rw [List.getElem?_eq_getElem hs] at e2
  rw [Option.some.inj e2]
  exact sg.up (h.up _ (List.getElem_mem hl))
theorem Kk.step {W : Nat} {r : RVol} (h : Kk W r) : Mo r (r.deliver 0).1 ∧ Kk W (r.deliver 0).1 := by
  have hm : Mo r (r.deliver 0).1 := by
    cases hl : liveOf r.net with
    | nil =>
      have : placeE r.net 0 = none := by
        unfold placeE
        rw [if_neg (by omega)]
        cases hp : placeOf r.net 0 with
        | none => exact hp
        | some i =>
          obtain ⟨_, e1, _⟩ := (liveOf_place r.net 0).1 i hp
          rw [hl] at e1; simp at e1
      unfold RVol.deliver
      rw [this]; exact Mo.refl r
    | cons m rest =>
      obtain ⟨i, e1, e2, q, hq, rfl⟩ := deliver_head hl
      rw [e1]
      exact (Mo.gone r i).trans (mo_arrives (h.inv.goneV i) (h.saf.gone i) q.1 (h.inv.net q hq))
  exact ⟨hm, h.mo hm (sim_deliver h.inv 0).2 (goes_deliver h.inv h.saf 0).saf⟩
theorem Kk.dl {W : Nat} {r r' : RVol} (h : Kk W r) (d : Dl r r') : Mo r r' ∧ Kk W r' := by
  refine Dl.ind (motive := fun r r' => Kk W r → Mo r r' ∧ Kk W r') (fun r h => ⟨Mo.refl r, h⟩) (fun r r' _ ih h => ?_) d h
  obtain ⟨a, b⟩ := h.step
  obtain ⟨c, d⟩ := ih b
  exact ⟨a.trans c, d⟩
theorem live_send {r : RVol} {m x : Msg} (h : x ∈ liveOf r.net) : x ∈ liveOf (r.send m).net := by
  show x ∈ liveOf (sendNet r.fl r.net m)
  rw [liveOf_send]
  split
  · exact h
  · exact List.mem_append_left _ h
theorem live_sent {r : RVol} {m : Msg} (h : ((liveOf r.net).length : Int) < r.fl) : m ∈ liveOf (r.send m).net := by
  show m ∈ liveOf (sendNet r.fl r.net m)
  rw [liveOf_send, if_neg (by omega)]
  exact List.mem_append_right _ (List.mem_singleton.2 rfl)
theorem live_sendsUp {r : RVol} {x : Msg} (f : Nat → Option Msg) (h : x ∈ liveOf r.net) : ∀ n, x ∈ liveOf (r.sendsUp f n).net
  | 0 => h
  | n + 1 => by
    have h1 := live_sendsUp f h n
    show x ∈ liveOf ((r.sendsUp f n).sendO (f n)).net
    cases f n with
    | none => exact h1
    | some m => exact live_send h1
theorem live_arrives (r : RVol) (m x : Msg) (h : x ∈ liveOf r.net) : x ∈ liveOf (r.arrives m).net := by
  unfold RVol.arrives
  split
  · unfold RVol.wHears
    split
    · exact h
    · split
      · exact h
      · split
        · exact h
        · split
          · unfold RVol.heard
            split
            · exact h
            · split
              · rw [sendUp_eq]; exact live_sendsUp (r := r.setPen _ _) _ h 6
              · exact h
          · exact h
  · split
    · split
      · unfold RVol.sHears
        split
        · exact h
        · split
          · split
            · exact live_send h
            · exact h
          · split
            · split
              · exact h
              · exact h
            · split
              · exact live_send h
              · split
                · exact live_send (r := r.setSeg _ _) h
                · split
                  · exact live_send (r := r.setSeg _ _) h
                  · split
                    · split
                      · exact live_send h
                      · exact h
                    · exact h
      · exact h
    · exact h
/-- What a message that arrives brings about, first hand or second hand. -/
theorem leads {W : Nat} {J Q : RVol → Prop} {A1 A2 : Msg → Prop}
    (hJ : ∀ r r', Kk W r → Mo r r' → J r → J r')
    (hQ : ∀ r r', Kk W r → Mo r r' → Q r → Q r')
    (h1 : ∀ r m, Kk W r → J r → MsgInv r.pens m → ((liveOf r.net).length : Int) < r.fl → A1 m → Q (r.arrives m) ∨ ∃ m2 ∈ liveOf (r.arrives m).net, A2 m2)
    (h2 : ∀ r m, Kk W r → J r → MsgInv r.pens m → ((liveOf r.net).length : Int) < r.fl → A2 m → Q (r.arrives m))
    {r r' : RVol} (hK : Kk W r) (hj : J r) (d : Dr r r') (h : Q r ∨ (∃ m ∈ liveOf r.net, A2 m) ∨ ∃ m ∈ liveOf r.net, A1 m) : Q r' := by
  obtain ⟨d, hend⟩ := d
  refine Dl.ind (motive := fun r r' => Kk W r → J r → liveOf r'.net = [] → (Q r ∨ (∃ m ∈ liveOf r.net, A2 m) ∨ ∃ m ∈ liveOf r.net, A1 m) → Q r') (fun r _ _ hend h => ?_) (fun r r' hne ih hK hj hend h => ?_) d hK hj hend h
  · rcases h with h | ⟨m, hm, _⟩ | ⟨m, hm, _⟩
    · exact h
    · rw [hend] at hm; simp at hm
    · rw [hend] at hm; simp at hm
  · obtain ⟨hmo, hK'⟩ := hK.step
    refine ih hK' (hJ _ _ hK hmo hj) hend ?_
    rcases h with h | h
    · exact .inl (hQ _ _ hK hmo h)
    · cases hl : liveOf r.net with
      | nil => exact absurd hl hne
      | cons m rest =>
        obtain ⟨i, e1, e2, q, hq, hqe⟩ := deliver_head hl
        have hKg : Kk W (r.goneV i) := hK.mo (Mo.gone r i) (hK.inv.goneV i) (hK.saf.gone i)
        have hjg : J (r.goneV i) := hJ _ _ hK (Mo.gone r i) hj
        have hmi : MsgInv (r.goneV i).pens m := by rw [← hqe]; exact hK.inv.net q hq
        have hroom : ((liveOf (r.goneV i).net).length : Int) < (r.goneV i).fl := by
          have := hK.inv.fly
          rw [← liveOf_len, hl] at this
          rw [e2]
          show _ < r.fl
          simp at this
          omega
        rw [hl] at h
        rw [e1]
        rcases h with ⟨x, hx, ha⟩ | ⟨x, hx, ha⟩
        · rcases List.mem_cons.1 hx with rfl | hx
          · exact .inl (h2 _ x hKg hjg hmi hroom ha)
          · exact .inr (.inl ⟨x, live_arrives _ m x (by rw [e2]; exact hx), ha⟩)
        · rcases List.mem_cons.1 hx with rfl | hx
          · rcases h1 _ x hKg hjg hmi hroom ha with h | h
            · exact .inl h
            · exact .inr (.inl h)
          · exact .inr (.inr ⟨x, live_arrives _ m x (by rw [e2]; exact hx), ha⟩)
end Go.Proofs.Ytfpbkghcjaonlaa.Sim

/-
  Liveness: what a fence, a cut, a write, a need bring about.
-/
namespace Go.Proofs.Ytfpbkghcjaonlaa.Sim

theorem heard_pre {l l' : List Msg} (h : l <+: l') {s : Int} (hh : heardIn l s = true) : heardIn l' s = true := by
  obtain ⟨t, rfl⟩ := h
  unfold heardIn at *
  rw [List.any_append, hh]; rfl
theorem noted_pre {l l' : List Msg} (h : l <+: l') (s : Int) : notedN l s ≤ notedN l' s := by
  obtain ⟨t, rfl⟩ := h
  induction t generalizing l with
  | nil => simp
  | cons a t ih =>
    have := ih (l := l ++ [a])
    rw [List.append_assoc] at this
    exact Int.le_trans (notedN_mono l a s) this
theorem reach_pre {l l' : List Msg} (h : l <+: l') {n s : Int} (hr : reach l n s = true) : reach l' n s = true := by
  unfold reach at *
  rw [Bool.and_eq_true] at *
  have := noted_pre h s
  exact ⟨heard_pre h hr.1, by have := of_decide_eq_true hr.2; simp; omega⟩

section
variable {i : Nat} {r r' : RVol}
theorem Kk.pen (h : Kk (i + 1) r) : ∃ p, r.pens[i]? = some p ∧ p.over = false ∧ PenInv r.pens r.wi ((i : Int) + 1) p := by
  have hil : i < r.pens.length := by rw [h.len]; omega
  have hp : r.pens[i]? = some r.pens[i] := List.getElem?_eq_getElem hil
  exact ⟨_, hp, h.saf.nov i _ hp h.len.symm, h.inv.pens i _ hp⟩
theorem Kk.seg {W : Nat} (h : Kk W r) (s : Nat) (hs : s < 6) : ∃ g, r.segs[s]? = some g ∧ g.up = true ∧ SegInv r.pens g ∧ g.epoch ≤ (W : Int) := by
  have hl : s < r.segs.length := by rw [h.inv.s6]; exact hs
  have hg : r.segs[s]? = some r.segs[s] := List.getElem?_eq_getElem hl
  have hm := List.getElem_mem hl
  exact ⟨_, hg, h.up _ hm, h.inv.segs _ hm, by have := (h.saf.ep _ hm).2; rw [h.len] at this; exact this⟩

/-- The newest writer has heard a fence of s, or has decided. -/
def Qf (i s : Nat) (r : RVol) : Prop := ∃ p, r.pens[i]? = some p ∧ (4 ≤ p.fenced.length ∨ heardIn p.fenced (s : Int) = true)
/-- The newest writer has heard of s that it is at n. -/
def Qs (i s : Nat) (n : Int) (r : RVol) : Prop := ∃ p, r.pens[i]? = some p ∧ reach p.status n (s : Int) = true
/-- A segment has the newest list, and a record of that number. -/
def Qh (i s : Nat) (n : Int) (r : RVol) : Prop := ∃ g, r.segs[s]? = some g ∧ topOf g.cuts = (i : Int) + 1 ∧ (plOf g.entries n).1 ≠ 0
def Qk (i s : Nat) (n : Int) (r : RVol) : Prop := ∃ g, r.segs[s]? = some g ∧ topOf g.cuts = (i : Int) + 1 ∧ (plOf g.entries n).1 = 2
def Qc (i s : Nat) (r : RVol) : Prop := ∃ g, r.segs[s]? = some g ∧ topOf g.cuts = (i : Int) + 1
theorem Qf.mo {s : Nat} (m : Mo r r') (h : Qf i s r) : Qf i s r' := by
  obtain ⟨p, hp, h⟩ := h
  obtain ⟨p', hp', a, b, c⟩ := m.pen i p hp
  refine ⟨p', hp', ?_⟩
  rcases h with h | h
  · exact .inl (by have := a.length_le; omega)
  · exact .inr (heard_pre a h)
theorem Qs.mo {s : Nat} {n : Int} (m : Mo r r') (h : Qs i s n r) : Qs i s n r' := by
  obtain ⟨p, hp, h⟩ := h
  obtain ⟨p', hp', a, b, c⟩ := m.pen i p hp
  exact ⟨p', hp', reach_pre b h⟩
theorem Qc.mo {s : Nat} (hl : r.pens.length = i + 1) (m : Mo r r') (h : Qc i s r) : Qc i s r' := by
  obtain ⟨g, hg, h1⟩ := h
  obtain ⟨g', hg', sg⟩ := m.seg s g hg
  exact ⟨g', hg', by rw [sg.cuts (by rw [h1, hl]; simp)]; exact h1⟩
theorem Qh.mo {s : Nat} {n : Int} (hl : r.pens.length = i + 1) (m : Mo r r') (h : Qh i s n r) : Qh i s n r' := by
  obtain ⟨g, hg, h1, h2⟩ := h
  obtain ⟨g', hg', sg⟩ := m.seg s g hg
  have ht : topOf g.cuts = (r.pens.length : Int) := by rw [h1, hl]; simp
  exact ⟨g', hg', by rw [sg.cuts ht]; exact h1, sg.has ht n h2⟩
theorem Qk.mo {s : Nat} {n : Int} (hl : r.pens.length = i + 1) (m : Mo r r') (h : Qk i s n r) : Qk i s n r' := by
  obtain ⟨g, hg, h1, h2⟩ := h
  obtain ⟨g', hg', sg⟩ := m.seg s g hg
  have ht : topOf g.cuts = (r.pens.length : Int) := by rw [h1, hl]; simp
  exact ⟨g', hg', by rw [sg.cuts ht]; exact h1, sg.kept ht n h2⟩
theorem Qk.has {s : Nat} {n : Int} (h : Qk i s n r) : Qh i s n r := by
  obtain ⟨g, a, b, c⟩ := h
  exact ⟨g, a, b, by rw [c]; decide⟩
theorem Qh.c {s : Nat} {n : Int} (h : Qh i s n r) : Qc i s r := by
  obtain ⟨g, a, b, c⟩ := h
  exact ⟨g, a, b⟩

theorem arr_seg (h : Kk (i + 1) r) {m : Msg} {s : Nat} (hs : s < 6) (hk : ¬ (m.kind = 2 ∨ m.kind = 4 ∨ m.kind = 5)) (ht : m.to_ = (s : Int)) : r.arrives m = r.sHears m := by
  obtain ⟨g, hg, hu, _⟩ := h.seg s hs
  unfold RVol.arrives
  rw [if_neg hk, ht, Int.toNat_natCast, hg]
  simp only [hu, if_true]
theorem fence_leads (hK : Kk (i + 1) r) {s : Nat} (hs : s < 6) (d : Dr r r') (h : ∃ m ∈ liveOf r.net, m.kind = 1 ∧ m.epoch = (i : Int) + 1 ∧ m.to_ = (s : Int)) : Qf i s r' := by
  refine leads (W := i + 1) (J := fun _ => True) (Q := Qf i s) (A1 := fun m => m.kind = 1 ∧ m.epoch = (i : Int) + 1 ∧ m.to_ = (s : Int)) (A2 := fun m => m.kind = 2 ∧ m.to_ = (i : Int) + 1 ∧ m.frm = (s : Int)) (fun _ _ _ _ _ => trivial) (fun _ _ _ m q => q.mo m) ?_ ?_ hK trivial d (.inr (.inr h))
  · intro r m hK _ hm hroom ⟨k1, hep, hto⟩
    right
    obtain ⟨g, hg, hu, hgi, hge⟩ := hK.seg s hs
    rw [arr_seg hK hs (by omega) hto]
    unfold RVol.sHears
    rw [hto, Int.toNat_natCast, hg]
    simp only
    rw [if_neg (by omega), if_neg (by omega), if_neg (by omega), if_pos k1]
    refine ⟨fencedMsg m g, live_sent (r := r.setSeg _ _) hroom, rfl, ?_, hto⟩
    have := (hm.wr (.inl k1)).1
    show m.frm = _
    omega
  · intro r m hK _ hm hroom ⟨k2, hto, hfr⟩
    obtain ⟨p, hp, ho, hpi⟩ := hK.pen
    unfold RVol.arrives
    rw [if_pos (.inl k2)]
    unfold RVol.wHears
    have et : m.to_.toNat - 1 = i := by omega
    rw [et, hp]
    simp only
    rw [if_neg (by omega), if_neg (by omega)]
    by_cases h4 : p.fenced.length < 4
    · have hph : p.stands.phase = 1 := by rw [stands_few ho h4]
      rw [if_pos ⟨k2, hph⟩]
      have hil := (List.getElem?_eq_some_iff.1 hp).1
      have hset : ∀ p', (r.setPen i p').pens[i]? = some p' := fun p' => by simp only [RVol.setPen]; exact List.getElem?_set_self hil
      have hhd : heardIn (p.fenced ++ [m]) (s : Int) = true := by rw [heardIn_snoc, hfr]; simp
      unfold RVol.heard
      split
      · rename_i hh; exact ⟨p, hp, .inr (by rw [hfr] at hh; exact hh)⟩
      · split
        · exact ⟨_, by rw [sendUp_eq, RVol.sendsUp_pens]; exact hset _, .inr hhd⟩
        · exact ⟨_, hset _, .inr hhd⟩
    · have hph : ¬ p.stands.phase = 1 := by
        rcases hpi.cases with ⟨h5, _⟩ | ⟨_, h5, _⟩ | ⟨_, _, _, h5⟩ | ⟨_, _, _, h5⟩
        · rw [ho] at h5; simp at h5
        · omega
        · rw [h5]; simp
        · rw [h5]; simp
      rw [if_neg (fun h => hph h.2)]
      exact ⟨p, hp, .inl (by omega)⟩
theorem status_hears (hK : Kk (i + 1) r) {m : Msg} {s : Nat} {n : Int} (hm : MsgInv r.pens m) (k : m.kind = 4) (hto : m.to_ = (i : Int) + 1) (hfr : m.frm = (s : Int)) (hn : n ≤ m.scl) : Qs i s n (r.arrives m) := by
  obtain ⟨p, hp, ho, hpi⟩ := hK.pen
  obtain ⟨_, q, ⟨j, hj, hjq, h4⟩, _⟩ := hm.k4 k
  have hji : j = i := by omega
  subst hji
  rw [hp] at hjq
  have := Option.some.inj hjq
  subst this
  unfold RVol.arrives
  rw [if_pos (.inr (.inl k))]
  unfold RVol.wHears
  have et : m.to_.toNat - 1 = j := by omega
  rw [et, hp]
  simp only
  have hp23 : p.stands.phase = 2 ∨ p.stands.phase = 3 := by
    rcases hpi.cases with ⟨h5, _⟩ | ⟨_, h5, _⟩ | ⟨_, _, _, h5⟩ | ⟨_, _, _, h5⟩
    · rw [ho] at h5; simp at h5
    · omega
    · left; rw [h5]
    · right; rw [h5]
  rw [if_neg (by omega), if_pos ⟨k, hp23⟩]
  have hil := (List.getElem?_eq_some_iff.1 hp).1
  refine ⟨_, by simp only [RVol.setPen]; exact List.getElem?_set_self hil, ?_⟩
  unfold reach
  rw [Bool.and_eq_true]
  refine ⟨by rw [heardIn_snoc, hfr]; simp, ?_⟩
  simp only [decide_eq_true_eq]
  rw [notedN_snoc]
  unfold noteStep
  rw [hfr]
  simp only [beq_self_eq_true, if_true]
  split <;> omega
theorem status_leads (hK : Kk (i + 1) r) {s : Nat} {n : Int} (d : Dr r r') (h : ∃ m ∈ liveOf r.net, m.kind = 4 ∧ m.to_ = (i : Int) + 1 ∧ m.frm = (s : Int) ∧ n ≤ m.scl) : Qs i s n r' := by
  refine leads (W := i + 1) (J := fun _ => True) (Q := Qs i s n) (A1 := fun _ => False) (A2 := fun m => m.kind = 4 ∧ m.to_ = (i : Int) + 1 ∧ m.frm = (s : Int) ∧ n ≤ m.scl) (fun _ _ _ _ _ => trivial) (fun _ _ _ m q => q.mo m) (fun _ _ _ _ _ _ f => f.elim) ?_ hK trivial d (.inr (.inl h))
  intro r m hK _ hm _ ⟨k, hto, hfr, hn⟩
  exact status_hears hK hm k hto hfr hn
theorem cut_leads (hK : Kk (i + 1) r) {s : Nat} (hs : s < 6) (d : Dr r r') (h : ∃ m ∈ liveOf r.net, m.kind = 3 ∧ m.epoch = (i : Int) + 1 ∧ m.to_ = (s : Int)) : Qs i s 0 r' := by
  refine leads (W := i + 1) (J := fun _ => True) (Q := Qs i s 0) (A1 := fun m => m.kind = 3 ∧ m.epoch = (i : Int) + 1 ∧ m.to_ = (s : Int)) (A2 := fun m => m.kind = 4 ∧ m.to_ = (i : Int) + 1 ∧ m.frm = (s : Int) ∧ 0 ≤ m.scl) (fun _ _ _ _ _ => trivial) (fun _ _ _ m q => q.mo m) ?_ (fun r m hK _ hm _ ⟨k, hto, hfr, hn⟩ => status_hears hK hm k hto hfr hn) hK trivial d (.inr (.inr h))
  intro r m hK _ hm hroom ⟨k3, hep, hto⟩
  right
  obtain ⟨g, hg, hu, hgi, hge⟩ := hK.seg s hs
  rw [arr_seg hK hs (by omega) hto]
  unfold RVol.sHears
  rw [hto, Int.toNat_natCast, hg]
  simp only
  rw [if_neg (by omega), if_neg (by omega), if_neg (by omega), if_neg (by omega), if_pos k3]
  obtain ⟨p, dd, hc⟩ := hm.k3 k3
  have htop : topOf m.cuts = m.epoch := by rw [hc, topOf_dec]
  obtain ⟨_, _, he'⟩ := hgi.afterCut m (by omega) hm.ct htop
  refine ⟨statusMsg s (g.afterCut m), live_sent (r := r.setSeg _ _) hroom, rfl, ?_, rfl, ?_⟩
  · show (g.afterCut m).epoch = _
    rw [he', hep]
  · show (0 : Int) ≤ ((sclOf _ : Nat) : Int)
    omega
theorem Qc.epoch {W : Nat} (hK : Kk W r) {s : Nat} {g : RSeg} (hg : r.segs[s]? = some g) (ht : topOf g.cuts = (W : Int)) : g.epoch = (W : Int) := by
  have hgm := List.mem_of_getElem? hg
  have h1 := (hK.inv.segs g hgm).top
  have h2 := (hK.saf.ep g hgm).2
  rw [hK.len] at h2
  omega
theorem come_has (g : RSeg) (m : Msg) : (plOf (g.coming m).entries m.lsn).1 ≠ 0 := by
  show (plOf (comeTo g.entries (m.lsn, m.epoch, m.value)) m.lsn).1 ≠ 0
  rw [come_pl]
  split
  · show (1 : Int) ≠ 0
    decide
  · rename_i hc
    intro h0
    exact hc ⟨rfl, h0⟩
theorem Qh.coming {s : Nat} {g : RSeg} (hg : r.segs[s]? = some g) (ht : topOf g.cuts = (i : Int) + 1) (m : Msg) : Qh i s m.lsn (r.setSeg s (g.coming m)) :=
  ⟨_, get_set hg, ht, come_has g m⟩
theorem write_leads (hK : Kk (i + 1) r) {s : Nat} (hs : s < 6) {n : Int} (hc : Qc i s r) (d : Dr r r') (h : ∃ m ∈ liveOf r.net, m.kind = 6 ∧ m.epoch = (i : Int) + 1 ∧ m.to_ = (s : Int) ∧ m.lsn = n) : Qh i s n r' := by
  refine leads (W := i + 1) (J := Qc i s) (Q := Qh i s n) (A1 := fun _ => False) (A2 := fun m => m.kind = 6 ∧ m.epoch = (i : Int) + 1 ∧ m.to_ = (s : Int) ∧ m.lsn = n) (fun _ _ k m q => q.mo k.len m) (fun _ _ k m q => q.mo k.len m) (fun _ _ _ _ _ _ f => f.elim) ?_ hK hc d (.inr (.inl h))
  intro r m hK ⟨g, hg, ht⟩ hm hroom ⟨k6, hep, hto, hl⟩
  have hge := Qc.epoch hK hg (by rw [ht]; simp)
  have hge : g.epoch = (i : Int) + 1 := by rw [hge]; simp
  rw [arr_seg hK hs (by omega) hto]
  unfold RVol.sHears
  rw [hto, Int.toNat_natCast, hg]
  simp only
  rw [if_neg (by omega), if_neg (by omega), if_neg (by omega), if_neg (by omega), if_neg (by omega), if_pos ⟨by omega, by omega⟩]
  cases hke : keptAt g.entries m.lsn with
  | none => simp only; rw [← hl]; exact Qh.coming hg ht m
  | some e =>
    simp only
    refine ⟨g, hg, ht, ?_⟩
    rw [← hl, (keptAt_eq hke).2.1]
    show (2 : Int) ≠ 0
    decide
theorem need_leads (hK : Kk (i + 1) r) {s t : Nat} (hs : s < 6) (ht : t < 6) {n : Int} (hc : Qc i s r) (hk : Qk i t n r) (d : Dr r r') (h : ∃ m ∈ liveOf r.net, m.kind = 7 ∧ m.frm = (s : Int) ∧ m.to_ = (t : Int) ∧ m.lsn = n) : Qh i s n r' := by
  obtain ⟨gt, hgt, htt, _⟩ := id hk
  obtain ⟨L, hL⟩ : ∃ L, L = gt.cuts := ⟨_, rfl⟩
  have htL : topOf L = (i : Int) + 1 := by rw [hL]; exact htt
  have hcL : CutsInv r.pens L := by rw [hL]; exact (hK.inv.segs gt (List.mem_of_getElem? hgt)).ct
  have hsL : ∃ g, r.segs[s]? = some g ∧ g.cuts = L := by
    obtain ⟨g, hg, hgt⟩ := hc
    exact ⟨g, hg, (hK.inv.segs g (List.mem_of_getElem? hg)).ct.uniq hcL (by rw [hgt, htL])⟩
  have stab : ∀ (x : Nat) (r r' : RVol), Kk (i + 1) r → Mo r r' → (∃ g, r.segs[x]? = some g ∧ g.cuts = L) → ∃ g, r'.segs[x]? = some g ∧ g.cuts = L := fun x r r' k m ⟨g, hg, e⟩ => by
    obtain ⟨g', hg', sg⟩ := m.seg x g hg
    exact ⟨g', hg', by rw [sg.cuts (by rw [e, htL, k.len]; simp)]; exact e⟩
  refine leads (W := i + 1) (J := fun r => (∃ g, r.segs[s]? = some g ∧ g.cuts = L) ∧ (∃ g, r.segs[t]? = some g ∧ g.cuts = L) ∧ Qk i t n r) (Q := Qh i s n) (A1 := fun m => m.kind = 7 ∧ m.frm = (s : Int) ∧ m.to_ = (t : Int) ∧ m.lsn = n) (A2 := fun m => m.kind = 8 ∧ m.to_ = (s : Int) ∧ m.lsn = n ∧ good L n m.epoch = true) (fun _ _ k m q => ⟨stab s _ _ k m q.1, stab t _ _ k m q.2.1, q.2.2.mo k.len m⟩) (fun _ _ k m q => q.mo k.len m) ?_ ?_ hK ⟨hsL, ⟨gt, hgt, hL.symm⟩, hk⟩ d (.inr (.inr h))
  · intro r m hK ⟨_, ⟨g2, hg2, e2⟩, ⟨g, hg, htp, hpl⟩⟩ hm hroom ⟨k7, hfr, hto, hl⟩
    right
    rw [hg] at hg2
    have := Option.some.inj hg2
    subst this
    rw [arr_seg hK ht (by omega) hto]
    unfold RVol.sHears
    rw [hto, Int.toNat_natCast, hg]
    simp only
    rw [if_pos k7]
    have hsome : (keptAt g.entries m.lsn).isSome = true := by rw [keptAt_pl, hl, hpl]; rfl
    cases hke : keptAt g.entries m.lsn with
    | none => rw [hke] at hsome; simp at hsome
    | some e =>
      simp only
      obtain ⟨q1, q2, q3, q4, _⟩ := keptAt_eq hke
      have hgd := ((hK.inv.segs g (List.mem_of_getElem? hg)).recs e q3 q4).2
      refine ⟨fillMsg m e, live_sent hroom, rfl, hfr, ?_, ?_⟩
      · show e.lsn = n
        rw [q1, hl]
      · show good L n e.epoch = true
        rw [← e2, ← hl, ← q1]; exact hgd
  · intro r m hK ⟨⟨g, hg, e1⟩, _, _⟩ hm hroom ⟨k8, hto, hl, hgd⟩
    rw [arr_seg hK hs (by omega) hto]
    unfold RVol.sHears
    rw [hto, Int.toNat_natCast, hg]
    simp only
    rw [if_neg (by omega), if_pos k8, if_pos (by rw [e1, hl]; exact hgd), ← hl]
    exact Qh.coming hg (by rw [e1]; exact htL) m
end
end Go.Proofs.Ytfpbkghcjaonlaa.Sim
