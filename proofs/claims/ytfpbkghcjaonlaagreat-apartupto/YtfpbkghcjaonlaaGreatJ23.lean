import Derived.Test.YtfpbkghcjaonlaaGreatJ22
/-
  The simulation: the program out of the document; what always holds.
-/
namespace Go.Proofs.YtfpbkghcjaonlaaGreat.Sim

def note3 (m : Msg) : Int × List (Int × Int) × List Int := (m.frm, m.cuts, m.marks)
def heardL (st : List Msg) : List Bool := (List.range 6).map fun (s : Nat) => heardIn st (s : Int)
def notedL (st : List Msg) : List Int := (List.range 6).map fun (s : Nat) => notedN st (s : Int)
/-- The program's writer, out of the document's. -/
def xpen (n : Int) (p : RPen) : XWr :=
  ⟨n, p.stands.phase, p.stands.base, p.stands.next, p.stands.dur, if p.over = true ∨ 4 ≤ p.fenced.length then [] else p.fenced.map note3,
    if p.over = true ∨ p.fenced.length < 4 then [] else decCuts p.fenced n, if p.over = true then [] else p.values, heardL p.status, notedL p.status⟩
/-- The program's volume, out of the document's. -/
def xvol (r : RVol) : XVol := ⟨r.wi, r.fl, liveOf r.net, r.segs.map xseg, r.pens.mapIdx fun i p => xpen ((i : Int) + 1) p⟩

/-- Writer number n has decided: it is p. -/
def Dec (pens : List RPen) (n : Int) (p : RPen) : Prop := ∃ i : Nat, n = (i : Int) + 1 ∧ pens[i]? = some p ∧ 4 ≤ p.fenced.length
def CutsInv (pens : List RPen) (l : List (Int × Int)) : Prop := l = [] ∨ ∃ n p, Dec pens n p ∧ l = decCuts p.fenced n
/-- A record that was appended. -/
def RecInv (pens : List RPen) (ep lsn v : Int) : Prop := 1 ≤ lsn ∧ lsn ≤ 40 ∧ ∃ p, Dec pens ep p ∧ (baseOf p.fenced : Int) < lsn ∧ p.values[(lsn - (baseOf p.fenced : Int) - 1).toNat]? = some v

/-- Pens only go on. -/
def PLe (pens pens' : List RPen) : Prop := pens.length ≤ pens'.length ∧ ∀ (i : Nat) (p : RPen), pens[i]? = some p → 4 ≤ p.fenced.length → ∃ p', pens'[i]? = some p' ∧ p'.fenced = p.fenced ∧ p.values <+: p'.values
theorem PLe.refl (pens : List RPen) : PLe pens pens := ⟨Nat.le_refl _, fun _ p h _ => ⟨p, h, rfl, List.prefix_refl _⟩⟩

structure MsgInv (pens : List RPen) (m : Msg) : Prop where
  to_ : MsgTo pens.length m
  kr : 1 ≤ m.kind ∧ m.kind ≤ 8
  ct : CutsInv pens m.cuts
  mrk : m.marks.length ≤ 40
  fr : m.kind = 2 ∨ m.kind = 4 ∨ m.kind = 5 ∨ m.kind = 7 → 0 ≤ m.frm ∧ m.frm < 6
  wr : m.kind = 1 ∨ m.kind = 3 ∨ m.kind = 6 → m.frm = m.epoch ∧ 1 ≤ m.epoch ∧ m.epoch ≤ (pens.length : Int)
  k2 : m.kind = 2 → topOf m.cuts ≤ m.to_
  k3 : m.kind = 3 → ∃ p, Dec pens m.epoch p ∧ m.cuts = decCuts p.fenced m.epoch
  k4 : m.kind = 4 → 0 ≤ m.scl ∧ ∃ p, Dec pens m.to_ p ∧ m.scl ≤ (baseOf p.fenced : Int) + (p.values.length : Int)
  k68 : m.kind = 6 ∨ m.kind = 8 → RecInv pens m.epoch m.lsn m.value

structure SegInv (pens : List RPen) (g : RSeg) : Prop where
  ents : EntsOk g.entries
  ct : CutsInv pens g.cuts
  top : topOf g.cuts ≤ g.epoch
  recs : ∀ e ∈ g.entries, e.gone = false → RecInv pens e.epoch e.lsn e.value ∧ good g.cuts e.lsn e.epoch = true

structure PenInv (pens : List RPen) (wi : Int) (n : Int) (p : RPen) : Prop where
  f4 : p.fenced.length ≤ 4
  fm : ∀ m ∈ p.fenced, CutsInv pens m.cuts ∧ m.marks.length ≤ 40 ∧ 0 ≤ m.frm ∧ m.frm < 6 ∧ topOf m.cuts ≤ n
  few : p.fenced.length < 4 → p.status = [] ∧ p.values = []
  sm : ∀ m ∈ p.status, 0 ≤ m.scl ∧ m.scl ≤ (baseOf p.fenced : Int) + (p.values.length : Int) ∧ 0 ≤ m.frm ∧ m.frm < 6
  ov : p.over = true → p.a0 = 4 ∧ 0 ≤ p.a1 ∧ p.a1 ≤ 40 ∧ 0 ≤ p.a3 ∧ p.a3 ≤ 40 ∧ 0 ≤ p.a2
  n40 : baseOf p.fenced + p.values.length ≤ 40
  shut : fourOf p.status (baseOf p.fenced : Int) = false → p.values = []
  win : 4 ≤ p.fenced.length → fourOf p.status (baseOf p.fenced : Int) = true → (baseOf p.fenced : Int) + (p.values.length : Int) ≤ (durUp p.status (baseOf p.fenced) (p.values.length + 1) : Int) + wi
  srt : 4 ≤ p.fenced.length → (decCuts p.fenced n).Pairwise (fun a b => a.1 < b.1)
  len : 4 ≤ p.fenced.length → ((decCuts p.fenced n).length : Int) ≤ n
  pos : 4 ≤ p.fenced.length → ∀ c ∈ decCuts p.fenced n, 1 ≤ c.1

structure Inv (r : RVol) : Prop where
  wi : 1 ≤ r.wi ∧ r.wi ≤ 8
  fl : 1 ≤ r.fl ∧ r.fl ≤ 200
  s6 : r.segs.length = 6
  p9 : r.pens.length ≤ 9
  net : ∀ q ∈ r.net, MsgInv r.pens q.1
  segs : ∀ g ∈ r.segs, SegInv r.pens g
  pens : ∀ (i : Nat) (p : RPen), r.pens[i]? = some p → PenInv r.pens r.wi ((i : Int) + 1) p
  fly : (flightOf r.net : Int) ≤ r.fl

theorem Dec.mono {pens pens' : List RPen} (h : PLe pens pens') {n : Int} {p : RPen} (d : Dec pens n p) : ∃ p', Dec pens' n p' ∧ p'.fenced = p.fenced ∧ p.values <+: p'.values := by
  obtain ⟨i, hn, hi, h4⟩ := d
  obtain ⟨p', h1, h2, h3⟩ := h.2 i p hi h4
  exact ⟨p', ⟨i, hn, h1, by rw [h2]; exact h4⟩, h2, h3⟩
theorem CutsInv.mono {pens pens' : List RPen} (h : PLe pens pens') {l : List (Int × Int)} (c : CutsInv pens l) : CutsInv pens' l := by
  rcases c with rfl | ⟨n, p, d, rfl⟩
  · exact .inl rfl
  · obtain ⟨p', d', hf, _⟩ := d.mono h
    exact .inr ⟨n, p', d', by rw [hf]⟩
theorem RecInv.mono {pens pens' : List RPen} (h : PLe pens pens') {ep lsn v : Int} (c : RecInv pens ep lsn v) : RecInv pens' ep lsn v := by
  obtain ⟨h1, h2, p, d, h3, h4⟩ := c
  obtain ⟨p', d', hf, hv⟩ := d.mono h
  refine ⟨h1, h2, p', d', by rw [hf]; exact h3, ?_⟩
  rw [hf]
  obtain ⟨t, ht⟩ := hv
  rw [← ht]
  obtain ⟨hl, he⟩ := List.getElem?_eq_some_iff.1 h4
  rw [List.getElem?_append_left hl]; exact h4
theorem MsgInv.mono {pens pens' : List RPen} (h : PLe pens pens') {m : Msg} (c : MsgInv pens m) : MsgInv pens' m := by
  refine ⟨?_, c.kr, c.ct.mono h, c.mrk, c.fr, fun hk => ?_, c.k2, fun hk => ?_, fun hk => ?_, fun hk => (c.k68 hk).mono h⟩
  · have := c.to_
    unfold MsgTo at *
    split
    · rename_i hk; rw [if_pos hk] at this; exact ⟨this.1, by have := h.1; omega⟩
    · rename_i hk; rw [if_neg hk] at this; exact this
  · have := c.wr hk
    exact ⟨this.1, this.2.1, by have := h.1; omega⟩
  · obtain ⟨p, d, hc⟩ := c.k3 hk
    obtain ⟨p', d', hf, _⟩ := d.mono h
    exact ⟨p', d', by rw [hf]; exact hc⟩
  · obtain ⟨h0, p, d, hc⟩ := c.k4 hk
    obtain ⟨p', d', hf, hv⟩ := d.mono h
    exact ⟨h0, p', d', by rw [hf]; have := hv.length_le; omega⟩
theorem SegInv.mono {pens pens' : List RPen} (h : PLe pens pens') {g : RSeg} (c : SegInv pens g) : SegInv pens' g := ⟨c.ents, c.ct.mono h, c.top, fun e he hg => ⟨(c.recs e he hg).1.mono h, (c.recs e he hg).2⟩⟩
theorem PenInv.mono {pens pens' : List RPen} (h : PLe pens pens') {wi n : Int} {p : RPen} (c : PenInv pens wi n p) : PenInv pens' wi n p :=
  ⟨c.f4, fun m hm => ⟨(c.fm m hm).1.mono h, (c.fm m hm).2⟩, c.few, c.sm, c.ov, c.n40, c.shut, c.win, c.srt, c.len, c.pos⟩

theorem Inv.pens_one {r : RVol} (h : Inv r) (i : Nat) (p : RPen) (hle : PLe r.pens (r.pens.set i p)) (hp : PenInv (r.pens.set i p) r.wi ((i : Int) + 1) p) : Inv { r with pens := r.pens.set i p } := by
  refine ⟨h.wi, h.fl, h.s6, by simpa using h.p9, fun q hq => (h.net q hq).mono hle, fun g hg => (h.segs g hg).mono hle, fun j q hq => ?_, h.fly⟩
  simp only at hq ⊢
  rw [List.getElem?_set] at hq
  by_cases e : i = j
  · subst e
    rw [if_pos rfl] at hq
    split at hq
    · have := Option.some.inj hq
      subst this
      exact hp
    · simp at hq
  · rw [if_neg e] at hq
    exact (h.pens j q hq).mono hle
theorem PLe.set {pens : List RPen} {i : Nat} {p p' : RPen} (hi : pens[i]? = some p) (h : 4 ≤ p.fenced.length → p'.fenced = p.fenced ∧ p.values <+: p'.values) : PLe pens (pens.set i p') := by
  refine ⟨by simp, fun j q hq h4 => ?_⟩
  rw [List.getElem?_set]
  by_cases e : i = j
  · subst e
    rw [hi] at hq
    have := Option.some.inj hq
    subst this
    rw [if_pos rfl, if_pos (List.getElem?_eq_some_iff.1 hi).1]
    exact ⟨p', rfl, h h4⟩
  · rw [if_neg e]
    exact ⟨q, hq, rfl, List.prefix_refl _⟩

theorem Inv.seg_one {r : RVol} (h : Inv r) (i : Nat) (g : RSeg) (hg : SegInv r.pens g) : Inv (r.setSeg i g) :=
  ⟨h.wi, h.fl, by simpa [RVol.setSeg] using h.s6, h.p9, h.net, fun q hq => by
    rcases List.mem_or_eq_of_mem_set hq with h1 | rfl
    · exact h.segs q h1
    · exact hg, h.pens, h.fly⟩
theorem fly_send {fl : Int} {net : List (Msg × Bool)} (h : (flightOf net : Int) ≤ fl) (m : Msg) : (flightOf (sendNet fl net m) : Int) ≤ fl := by
  rw [← liveOf_len, liveOf_send, liveOf_len]
  split
  · rw [liveOf_len]; exact h
  · rename_i h2
    simp only [List.length_append, List.length_singleton, liveOf_len]; omega
theorem flight_set (m : Msg) : ∀ (net : List (Msg × Bool)) (i : Nat), flightOf (net.set i (m, true)) ≤ flightOf net
  | [], _ => Nat.le_refl _
  | (a, b) :: r, 0 => by simp only [List.set_cons_zero, flightOf]; cases b <;> simp
  | (a, b) :: r, i + 1 => by
    have := flight_set m r i
    simp only [List.set_cons_succ, flightOf] at this ⊢
    cases b <;> simp <;> omega
theorem Inv.send {r : RVol} (h : Inv r) (m : Msg) (hm : MsgInv r.pens m) : Inv (r.send m) := by
  refine ⟨h.wi, h.fl, h.s6, h.p9, fun q hq => ?_, h.segs, h.pens, fly_send h.fly m⟩
  simp only [RVol.send] at hq
  unfold sendNet at hq
  split at hq
  · rcases List.mem_append.1 hq with h1 | h1
    · exact h.net q h1
    · rw [List.mem_singleton.1 h1]; exact hm
  · exact h.net q hq
theorem Inv.goneV {r : RVol} (h : Inv r) (i : Nat) : Inv (r.goneV i) := by
  have hf : (flightOf (goneAt r.net i) : Int) ≤ r.fl := by
    unfold goneAt
    split
    · rename_i p _
      have := flight_set p.1 r.net i
      have := h.fly
      omega
    · exact h.fly
  refine ⟨h.wi, h.fl, h.s6, h.p9, fun q hq => ?_, h.segs, h.pens, hf⟩
  simp only [RVol.goneV, goneAt] at hq
  split at hq
  · rename_i p hp
    rcases List.mem_or_eq_of_mem_set hq with h1 | rfl
    · exact h.net q h1
    · exact h.net p (List.mem_of_getElem? hp)
  · exact h.net q hq

theorem xvol_send (r : RVol) (m : Msg) : xvol (r.send m) = (xvol r).send m := by
  unfold xvol RVol.send XVol.send
  simp only [liveOf_send]
  split <;> rfl
theorem xvol_sendO (r : RVol) (o : Option Msg) : xvol (r.sendO o) = (xvol r).sendO o := by
  cases o with
  | none => rfl
  | some m => exact xvol_send r m
theorem XVol.sendAll_snoc (x : XVol) (l : List Msg) (m : Msg) : x.sendAll (l ++ [m]) = (x.sendAll l).send m := by unfold XVol.sendAll; rw [List.foldl_append]; rfl
theorem xvol_sendsUp (r : RVol) (f : Nat → Option Msg) : ∀ n, xvol (r.sendsUp f n) = (xvol r).sendAll ((List.range n).filterMap f)
  | 0 => rfl
  | n + 1 => by
    simp only [RVol.sendsUp]
    rw [xvol_sendO, xvol_sendsUp r f n, List.range_succ, List.filterMap_append]
    cases h : f n with
    | none => simp [h, XVol.sendO]
    | some m => simp only [List.filterMap_cons, h, List.filterMap_nil]; rw [XVol.sendAll_snoc]; rfl
theorem sendUp_eq (r : RVol) (f : Nat → Msg) : ∀ n, r.sendUp f n = r.sendsUp (fun s => some (f s)) n
  | 0 => rfl
  | n + 1 => by simp only [RVol.sendUp, RVol.sendsUp, sendUp_eq r f n]; rfl
theorem RVol.sendsUp_pens (r : RVol) (f : Nat → Option Msg) : ∀ n, (r.sendsUp f n).pens = r.pens
  | 0 => rfl
  | n + 1 => by
    simp only [RVol.sendsUp]
    cases f n with
    | none => exact RVol.sendsUp_pens r f n
    | some m => exact RVol.sendsUp_pens r f n
theorem Inv.sendsUp {r : RVol} (h : Inv r) (f : Nat → Option Msg) : ∀ n, (∀ s, s < n → ∀ m, f s = some m → MsgInv r.pens m) → Inv (r.sendsUp f n)
  | 0, _ => h
  | n + 1, hm => by
    have ih := Inv.sendsUp h f n (fun s hs => hm s (by omega))
    simp only [RVol.sendsUp]
    cases hf : f n with
    | none => exact ih
    | some m => exact ih.send m (by rw [RVol.sendsUp_pens]; exact hm n (by omega) m hf)

theorem xvol_seg (r : RVol) (i : Nat) (g : RSeg) : xvol (r.setSeg i g) = (xvol r).setSeg i (xseg g) := by
  unfold xvol RVol.setSeg XVol.setSeg; simp only [List.map_set]
theorem mapIdx_set {A B : Type} (f : Nat → A → B) (l : List A) (i : Nat) (a : A) : (l.set i a).mapIdx f = (l.mapIdx f).set i (f i a) := by
  apply List.ext_getElem?
  intro j
  rw [List.getElem?_mapIdx, List.getElem?_set, List.getElem?_set, List.getElem?_mapIdx]
  simp only [List.length_mapIdx]
  by_cases e : i = j
  · subst e
    rw [if_pos rfl, if_pos rfl]
    split <;> rfl
  · rw [if_neg e, if_neg e]
theorem xvol_pen (r : RVol) (i : Nat) (p : RPen) : xvol (r.setPen i p) = (xvol r).setWr i (xpen ((i : Int) + 1) p) := by
  unfold xvol RVol.setPen XVol.setWr; simp only [mapIdx_set]
theorem xvol_gone (r : RVol) (n : Int) (i : Nat) (h : placeE r.net n = some i) : xvol (r.goneV i) = (xvol r).taken n := by
  unfold placeE at h
  split at h
  · simp at h
  · obtain ⟨_, _, _, h3⟩ := (liveOf_place r.net n.toNat).1 i h
    unfold xvol RVol.goneV XVol.taken
    simp only [h3]
theorem xvol_look (r : RVol) (n : Int) : (xvol r).look n = (placeE r.net n).bind fun i => r.net[i]?.map (·.1) := by
  unfold XVol.look placeE xvol
  simp only
  split
  · rfl
  · cases hp : placeOf r.net n.toNat with
    | none => exact (liveOf_place r.net n.toNat).2 hp
    | some i =>
      obtain ⟨hi, h1, _, _⟩ := (liveOf_place r.net n.toNat).1 i hp
      rw [h1]; simp [hi]
theorem xvol_wrAt (r : RVol) (n : Int) : (xvol r).wrAt n = (writerAt r.pens n).map (xpen n) := by
  unfold XVol.wrAt writerAt xvol
  simp only
  split
  · rfl
  · rw [List.getElem?_mapIdx, show ((n.toNat - 1 : Nat) : Int) + 1 = n from by omega]
theorem xvol_segAt (r : RVol) (n : Int) : (xvol r).segAt n = (if n < 0 then none else r.segs[n.toNat]?).map xseg := by
  unfold XVol.segAt xvol
  simp only
  split
  · rfl
  · rw [List.getElem?_map]
end Go.Proofs.YtfpbkghcjaonlaaGreat.Sim

/-
  The simulation: lists of cuts, bases, what four reach.
-/
namespace Go.Proofs.YtfpbkghcjaonlaaGreat.Sim

theorem topOf_snoc (l : List (Int × Int)) (c : Int × Int) : topOf (l ++ [c]) = c.1 := by unfold topOf; simp
theorem topOf_dec (f : List Msg) (n : Int) : topOf (decCuts f n) = n := by unfold decCuts; rw [topOf_snoc]
theorem Dec.pos {pens : List RPen} {n : Int} {p : RPen} (d : Dec pens n p) : 1 ≤ n := by obtain ⟨i, h, _⟩ := d; omega
theorem Dec.uniq {pens : List RPen} {n : Int} {p q : RPen} (d : Dec pens n p) (e : Dec pens n q) : p = q := by
  obtain ⟨i, h, hi, _⟩ := d
  obtain ⟨j, h', hj, _⟩ := e
  have : i = j := by omega
  subst this
  rw [hi] at hj; exact Option.some.inj hj
theorem Dec.le {pens : List RPen} {n : Int} {p : RPen} (d : Dec pens n p) : n ≤ (pens.length : Int) := by
  obtain ⟨i, h, hi, _⟩ := d
  have := (List.getElem?_eq_some_iff.1 hi).1
  omega
theorem CutsInv.dec {pens : List RPen} {l : List (Int × Int)} (c : CutsInv pens l) (h : topOf l ≠ 0) : ∃ p, Dec pens (topOf l) p ∧ l = decCuts p.fenced (topOf l) := by
  rcases c with rfl | ⟨n, p, d, rfl⟩
  · exact absurd rfl h
  · exact ⟨p, by rw [topOf_dec]; exact d, by rw [topOf_dec]⟩
theorem CutsInv.zero {pens : List RPen} {l : List (Int × Int)} (c : CutsInv pens l) (h : topOf l = 0) : l = [] := by
  rcases c with rfl | ⟨n, p, d, rfl⟩
  · rfl
  · rw [topOf_dec] at h; have := d.pos; omega
theorem CutsInv.top0 {pens : List RPen} {l : List (Int × Int)} (c : CutsInv pens l) : 0 ≤ topOf l := by
  rcases c with rfl | ⟨n, p, d, rfl⟩
  · decide
  · rw [topOf_dec]; have := d.pos; omega
theorem CutsInv.uniq {pens : List RPen} {l l' : List (Int × Int)} (c : CutsInv pens l) (d : CutsInv pens l') (h : topOf l = topOf l') : l = l' := by
  by_cases h0 : topOf l = 0
  · rw [c.zero h0, d.zero (by omega)]
  · obtain ⟨p, d1, h1⟩ := c.dec h0
    obtain ⟨q, d2, h2⟩ := d.dec (by omega)
    rw [← h] at d2 h2
    rw [h1, h2, d1.uniq d2]

theorem newest_best {pens : List RPen} (f : List Msg) (hf : ∀ m ∈ f, CutsInv pens m.cuts) : newestOf (f.map note3) = f.foldl bestStep [] ∧ CutsInv pens (f.foldl bestStep []) := by
  unfold newestOf
  have key : ∀ (f : List Msg) (b : List (Int × Int)), (∀ m ∈ f, CutsInv pens m.cuts) → CutsInv pens b → (f.map note3).foldl newestStep b = f.foldl bestStep b ∧ CutsInv pens (f.foldl bestStep b) := by
    intro f
    induction f with
    | nil => intro b _ hb; exact ⟨rfl, hb⟩
    | cons m r ih =>
      intro b hf hb
      have hm := hf m List.mem_cons_self
      simp only [List.map_cons, List.foldl_cons]
      have e : newestStep b (note3 m) = bestStep b m := by
        unfold newestStep bestStep note3
        simp only
        by_cases h1 : topOf b < topOf m.cuts
        · rw [if_pos h1, if_pos (by omega)]
        · rw [if_neg h1]
          by_cases h2 : topOf b ≤ topOf m.cuts
          · rw [if_pos h2]; exact hb.uniq hm (by omega)
          · rw [if_neg h2]
      rw [e]
      refine ih _ (fun m' h' => hf m' (List.mem_cons_of_mem _ h')) ?_
      unfold bestStep
      split
      · exact hm
      · exact hb
  exact key f [] hf (.inl rfl)
theorem bestUp_all {f : List Msg} (h : f.length ≤ 4) : bestUp f 4 = f.foldl bestStep [] := by
  unfold bestUp; rw [List.take_of_length_le h]

theorem okUp_mono (l : List (Int × Int)) (ms : List Int) {a b : Nat} (h : a ≤ b) (hb : okUp l ms b = true) : okUp l ms a = true := by
  unfold okUp at *
  rw [List.all_eq_true] at *
  intro i hi
  exact hb i (by simp at *; omega)
theorem reach_spec (l : List (Int × Int)) (ms : List Int) : reachFrom l 0 ms ≤ ms.length ∧ okUp l ms (reachFrom l 0 ms) = true ∧ (reachFrom l 0 ms < ms.length → okUp l ms (reachFrom l 0 ms + 1) = false) := by
  have key : ∀ d j, j + d = ms.length → okUp l ms j = true → reachFrom l j (ms.drop j) ≤ ms.length ∧ okUp l ms (reachFrom l j (ms.drop j)) = true ∧ (reachFrom l j (ms.drop j) < ms.length → okUp l ms (reachFrom l j (ms.drop j) + 1) = false) := by
    intro d
    induction d with
    | zero =>
      intro j h1 h2
      rw [List.drop_eq_nil_of_le (by omega)]
      exact ⟨by simp only [reachFrom]; omega, by simpa only [reachFrom] using h2, fun h => by simp only [reachFrom] at h; omega⟩
    | succ d ih =>
      intro j h1 h2
      have hj : j < ms.length := by omega
      rw [reachFrom_drop l ms j hj]
      have hs : okUp l ms (j + 1) = (okUp l ms j && good l ((j : Int) + 1) (ms.getD j 0)) := by
        unfold okUp; rw [List.range_succ, List.all_append]; simp
      have hg : ms.getD j 0 = ms[j] := by rw [List.getD_eq_getElem?_getD, List.getElem?_eq_getElem hj]; rfl
      rw [hg, h2, Bool.true_and] at hs
      cases hgo : good l ((j : Int) + 1) ms[j] with
      | true =>
        rw [hgo] at hs
        exact ih (j + 1) (by omega) hs
      | false =>
        rw [hgo] at hs
        exact ⟨by simp; omega, by simpa using h2, fun _ => by simpa using hs⟩
  have := key ms.length 0 (by omega) (by simp [okUp])
  simpa using this
theorem baseUp_eq (l : List (Int × Int)) (ms : List Int) (b0 : Nat) : baseUp l ms b0 ms.length = if b0 < reachFrom l 0 ms then reachFrom l 0 ms else b0 := by
  obtain ⟨h1, h2, h3⟩ := reach_spec l ms
  generalize reachFrom l 0 ms = R at *
  have key : ∀ n, n ≤ ms.length → baseUp l ms b0 n = if b0 < min n R then min n R else b0 := by
    intro n
    induction n with
    | zero => intro _; simp [baseUp]
    | succ n ih =>
      intro hn
      simp only [baseUp]
      rw [ih (by omega)]
      by_cases hr : n + 1 ≤ R
      · rw [okUp_mono l ms hr h2]
        rw [show min n R = n from by omega, show min (n + 1) R = n + 1 from by omega]
        by_cases hb : b0 < n
        · rw [if_pos hb, if_pos (show b0 < n + 1 by omega)]; simp
        · rw [if_neg hb]
          by_cases hb2 : b0 < n + 1
          · simp [hb2]
          · simp [hb2]
      · have hf : okUp l ms (n + 1) = false := by
          cases ho : okUp l ms (n + 1) with
          | false => rfl
          | true =>
            have := okUp_mono l ms (show R + 1 ≤ n + 1 by omega) ho
            rw [h3 (by omega)] at this
            simp at this
        rw [hf]
        simp only [Bool.false_and, Bool.false_eq_true, if_false]
        rw [show min (n + 1) R = min n R from by omega]
  have := key ms.length (Nat.le_refl _)
  rw [this, show min ms.length R = R from by omega]
theorem baseAll_eq (l : List (Int × Int)) (f : List Msg) : ∀ n, n ≤ f.length → baseAll l f n = ((f.take n).map note3).foldl (baseStep l) 0
  | 0, _ => rfl
  | n + 1, h => by
    rw [show baseAll l f (n + 1) = baseUp l f[n].marks (baseAll l f n) f[n].marks.length from by simp only [baseAll]; rw [List.getElem?_eq_getElem (by omega)]]
    rw [baseUp_eq, baseAll_eq l f n (by omega), List.take_succ_eq_append_getElem (by omega), List.map_append, List.foldl_append]
    rfl
theorem base_eq {f : List Msg} (h : f.length = 4) : (f.map note3).foldl (baseStep (bestUp f 4)) 0 = baseOf f := by
  unfold baseOf
  rw [baseAll_eq _ f 4 (by omega), List.take_of_length_le (by omega)]
theorem baseOf_le40 {f : List Msg} (hf : ∀ m ∈ f, m.marks.length ≤ 40) : baseOf f ≤ 40 := by
  unfold baseOf
  have : ∀ n, baseAll (bestUp f 4) f n ≤ 40 := by
    intro n
    induction n with
    | zero => simp [baseAll]
    | succ n ih =>
      simp only [baseAll]
      cases hn : f[n]? with
      | none => exact ih
      | some m =>
        simp only
        rw [baseUp_eq]
        have h1 := (reach_spec (bestUp f 4) m.marks).1
        have h2 := hf m (List.mem_of_getElem? hn)
        split <;> omega
  exact this 4

theorem heardIn_snoc (st : List Msg) (m : Msg) (s : Int) : heardIn (st ++ [m]) s = (heardIn st s || (m.frm == s)) := by unfold heardIn; simp
theorem notedN_snoc (st : List Msg) (m : Msg) (s : Int) : notedN (st ++ [m]) s = noteStep s (notedN st s) m := by unfold notedN; rw [List.foldl_append]; rfl
theorem heardL_get (st : List Msg) (s : Nat) (h : s < 6) : (heardL st).getD s false = heardIn st (s : Int) := by
  unfold heardL; rw [List.getD_eq_getElem?_getD, List.getElem?_map, List.getElem?_range h]; rfl
theorem notedL_get (st : List Msg) (s : Nat) (h : s < 6) : (notedL st).getD s 0 = notedN st (s : Int) := by
  unfold notedL; rw [List.getD_eq_getElem?_getD, List.getElem?_map, List.getElem?_range h]; rfl
theorem heardL_snoc (st : List Msg) (m : Msg) (h0 : 0 ≤ m.frm) (h6 : m.frm < 6) : heardL (st ++ [m]) = (heardL st).set m.frm.toNat true := by
  unfold heardL
  apply List.ext_getElem?
  intro i
  rw [List.getElem?_set]
  simp only [List.getElem?_map, List.length_map, List.length_range]
  by_cases e : m.frm.toNat = i
  · subst e
    rw [if_pos rfl, if_pos (by omega), List.getElem?_range (by omega)]
    simp only [Option.map_some, heardIn_snoc]
    rw [show ((m.frm.toNat : Nat) : Int) = m.frm from by omega]; simp
  · rw [if_neg e]
    by_cases hi : i < 6
    · rw [List.getElem?_range hi]
      simp only [Option.map_some, heardIn_snoc]
      rw [show (m.frm == (i : Int)) = false from by simp; omega]; simp
    · rw [List.getElem?_eq_none (by simp; omega)]; rfl
theorem notedL_snoc (st : List Msg) (m : Msg) (h0 : 0 ≤ m.frm) (h6 : m.frm < 6) : notedL (st ++ [m]) = if (notedL st).getD m.frm.toNat 0 < m.scl then (notedL st).set m.frm.toNat m.scl else notedL st := by
  have ef : ((m.frm.toNat : Nat) : Int) = m.frm := by omega
  rw [notedL_get st _ (by omega), ef]
  have key : notedL (st ++ [m]) = (notedL st).set m.frm.toNat (if notedN st m.frm < m.scl then m.scl else notedN st m.frm) := by
    unfold notedL
    apply List.ext_getElem?
    intro i
    rw [List.getElem?_set]
    simp only [List.getElem?_map, List.length_map, List.length_range]
    by_cases e : m.frm.toNat = i
    · subst e
      rw [if_pos rfl, if_pos (by omega), List.getElem?_range (by omega)]
      simp only [Option.map_some, notedN_snoc, noteStep, ef]; simp
    · rw [if_neg e]
      by_cases hi : i < 6
      · rw [List.getElem?_range hi]
        simp only [Option.map_some, notedN_snoc, noteStep]
        rw [show (m.frm == (i : Int)) = false from by simp; omega]; simp
      · rw [List.getElem?_eq_none (by simp; omega)]; rfl
  rw [key]
  split
  · rfl
  · apply List.ext_getElem?
    intro i
    rw [List.getElem?_set]
    by_cases e : m.frm.toNat = i
    · subst e
      rw [if_pos rfl, if_pos (by simp [notedL]; omega)]
      unfold notedL
      rw [List.getElem?_map, List.getElem?_range (by omega), Option.map_some, ef]
    · rw [if_neg e]

theorem readyN_eq (x : XWr) (st : List Msg) (h1 : x.heard = heardL st) (h2 : x.noted = notedL st) : x.readyN = reachUp st x.base 6 := by
  unfold XWr.readyN reachUp
  congr 1
  apply List.filter_congr
  intro s hs
  have hs6 : s < 6 := by simpa using hs
  rw [h1, h2, heardL_get st s hs6, notedL_get st s hs6]; rfl

theorem notedN_nonneg (st : List Msg) (s : Int) : 0 ≤ notedN st s := by
  unfold notedN
  have : ∀ (l : List Msg) (b : Int), 0 ≤ b → 0 ≤ l.foldl (noteStep s) b := by
    intro l
    induction l with
    | nil => intro b hb; exact hb
    | cons a r ih =>
      intro b hb
      refine ih _ ?_
      unfold noteStep
      split
      · split <;> omega
      · exact hb
  exact this st 0 (Int.le_refl 0)
theorem notedN_le (st : List Msg) (s B : Int) (hB : 0 ≤ B) (h : ∀ m ∈ st, m.scl ≤ B) : notedN st s ≤ B := by
  unfold notedN
  have : ∀ (l : List Msg) (b : Int), (∀ m ∈ l, m.scl ≤ B) → b ≤ B → l.foldl (noteStep s) b ≤ B := by
    intro l
    induction l with
    | nil => intro b _ hb; exact hb
    | cons a r ih =>
      intro b hl hb
      refine ih _ (fun m hm => hl m (List.mem_cons_of_mem _ hm)) ?_
      have := hl a List.mem_cons_self
      unfold noteStep
      split
      · split <;> omega
      · exact hb
  exact this st 0 h hB
theorem notedN_heard (st : List Msg) (s : Int) (h : 1 ≤ notedN st s) : heardIn st s = true := by
  cases hh : heardIn st s with
  | true => rfl
  | false =>
    exfalso
    have : ∀ (l : List Msg) (b : Int), (l.any fun m => m.frm == s) = false → l.foldl (noteStep s) b = b := by
      intro l
      induction l with
      | nil => intro b _; rfl
      | cons a r ih =>
        intro b hl
        rw [List.any_cons, Bool.or_eq_false_iff] at hl
        rw [List.foldl_cons, ih _ hl.2]
        unfold noteStep
        rw [hl.1]; rfl
    have h2 := this st 0 hh
    unfold notedN at h
    rw [h2] at h
    omega
theorem notedN_mono (st : List Msg) (m : Msg) (s : Int) : notedN st s ≤ notedN (st ++ [m]) s := by
  rw [notedN_snoc]; unfold noteStep
  split
  · split <;> omega
  · omega
theorem fourOf_mono (st : List Msg) (m : Msg) (n : Int) (h : fourOf st n = true) : fourOf (st ++ [m]) n = true := by
  unfold fourOf at *
  simp only [decide_eq_true_eq] at *
  refine Nat.le_trans h ?_
  unfold reachUp
  rw [← List.countP_eq_length_filter, ← List.countP_eq_length_filter]
  apply List.countP_mono_left
  intro s _ hs
  unfold reach at *
  rw [Bool.and_eq_true, decide_eq_true_eq] at *
  have := notedN_mono st m (s : Int)
  refine ⟨?_, by omega⟩
  rw [heardIn_snoc, hs.1]; rfl

/-- The greatest number that four reach. -/
theorem durUp_spec (st : List Msg) (base : Nat) : ∀ j, fourOf st (base : Int) = true → base ≤ durUp st base (j + 1) ∧ durUp st base (j + 1) ≤ base + j ∧ fourOf st (durUp st base (j + 1) : Int) = true ∧ ∀ n : Nat, base ≤ n → n ≤ base + j → fourOf st (n : Int) = true → n ≤ durUp st base (j + 1)
  | 0, h => by
    have e : durUp st base 1 = base := by simp only [durUp]; rw [if_pos (by simpa using h)]; rfl
    rw [e]
    exact ⟨Nat.le_refl _, Nat.le_refl _, h, fun n a b _ => by omega⟩
  | j + 1, h => by
    obtain ⟨h1, h2, h3, h4⟩ := durUp_spec st base j h
    by_cases hf : fourOf st ((base + (j + 1) : Nat) : Int) = true
    · have e : durUp st base (j + 1 + 1) = base + (j + 1) := by
        rw [show durUp st base (j + 1 + 1) = if fourOf st ((base + (j + 1) : Nat) : Int) then base + (j + 1) else durUp st base (j + 1) from rfl, if_pos hf]
      rw [e]
      exact ⟨by omega, by omega, hf, fun n a b _ => by omega⟩
    · have e : durUp st base (j + 1 + 1) = durUp st base (j + 1) := by
        rw [show durUp st base (j + 1 + 1) = if fourOf st ((base + (j + 1) : Nat) : Int) then base + (j + 1) else durUp st base (j + 1) from rfl, if_neg hf]
      rw [e]
      refine ⟨h1, by omega, h3, fun n a b c => ?_⟩
      by_cases hn : n = base + (j + 1)
      · subst hn; exact absurd c hf
      · exact h4 n a (by omega) c

theorem reaching_eq (x : XWr) (st : List Msg) (h2 : x.noted = notedL st) (n : Int) : x.reaching n = ((List.range 6).filter fun (s : Nat) => decide (n ≤ notedN st (s : Int))).length := by
  unfold XWr.reaching
  rw [h2]; unfold notedL
  rw [List.filter_map, List.length_map]
  rfl
theorem four_reaching (x : XWr) (st : List Msg) (h2 : x.noted = notedL st) (n : Int) (hn : 1 ≤ n) : fourOf st n = decide (4 ≤ x.reaching n) := by
  rw [reaching_eq x st h2]
  unfold fourOf reachUp
  congr 2
  congr 1
  apply List.filter_congr
  intro s _
  unfold reach
  by_cases h : n ≤ notedN st (s : Int)
  · rw [notedN_heard st s (by omega)]; simp
  · simp [h]
theorem agreed_spec (x : XWr) : (x.agreed = 0 ∨ (x.agreed ∈ x.noted ∧ 4 ≤ x.reaching x.agreed ∧ 0 < x.agreed)) ∧ ∀ n ∈ x.noted, 4 ≤ x.reaching n → n ≤ x.agreed := by
  unfold XWr.agreed
  have key : ∀ (l : List Int) (b : Int), (∀ n ∈ l, n ∈ x.noted) → (b = 0 ∨ (b ∈ x.noted ∧ 4 ≤ x.reaching b ∧ 0 < b)) → ((l.foldl (agreedStep x) b) = 0 ∨ ((l.foldl (agreedStep x) b) ∈ x.noted ∧ 4 ≤ x.reaching (l.foldl (agreedStep x) b) ∧ 0 < l.foldl (agreedStep x) b)) ∧ b ≤ l.foldl (agreedStep x) b ∧ ∀ n ∈ l, 4 ≤ x.reaching n → n ≤ l.foldl (agreedStep x) b := by
    intro l
    induction l with
    | nil => intro b _ hb; exact ⟨hb, Int.le_refl _, fun n hn => by simp at hn⟩
    | cons a r ih =>
      intro b hl hb
      simp only [List.foldl_cons]
      have hs : (agreedStep x b a = 0 ∨ (agreedStep x b a ∈ x.noted ∧ 4 ≤ x.reaching (agreedStep x b a) ∧ 0 < agreedStep x b a)) ∧ b ≤ agreedStep x b a ∧ (4 ≤ x.reaching a → a ≤ agreedStep x b a) := by
        unfold agreedStep
        split
        · rename_i h
          exact ⟨.inr ⟨hl a List.mem_cons_self, h.2, by rcases hb with hb | hb <;> omega⟩, by omega, fun _ => Int.le_refl _⟩
        · rename_i h
          exact ⟨hb, Int.le_refl _, fun h4 => by
            by_cases hba : b < a
            · exact absurd ⟨hba, h4⟩ h
            · omega⟩
      obtain ⟨h1, h2, h3⟩ := ih (agreedStep x b a) (fun n hn => hl n (List.mem_cons_of_mem _ hn)) hs.1
      refine ⟨h1, Int.le_trans hs.2.1 h2, fun n hn h4 => ?_⟩
      rcases List.mem_cons.1 hn with rfl | hn
      · exact Int.le_trans (hs.2.2 h4) h2
      · exact h3 n hn h4
  obtain ⟨h1, _, h3⟩ := key x.noted 0 (fun _ h => h) (.inl rfl)
  exact ⟨h1, h3⟩
theorem reach_down (x : XWr) (D : Int) (h : 4 ≤ x.reaching D) : ∃ n ∈ x.noted, D ≤ n ∧ 4 ≤ x.reaching n := by
  unfold XWr.reaching at *
  have hne : x.noted.filter (fun m => decide (D ≤ m)) ≠ [] := by
    intro h0; rw [h0] at h; simp at h
  have key : ∀ l : List Int, l ≠ [] → ∃ n ∈ l, ∀ m ∈ l, n ≤ m := by
    intro l
    induction l with
    | nil => intro h; exact absurd rfl h
    | cons a r ih =>
      intro _
      by_cases hr : r = []
      · subst hr; exact ⟨a, List.mem_cons_self, fun m hm => by rw [List.mem_singleton.1 hm]; exact Int.le_refl _⟩
      · obtain ⟨n, hn, hm⟩ := ih hr
        by_cases hl : n ≤ a
        · exact ⟨n, List.mem_cons_of_mem _ hn, fun m h => by rcases List.mem_cons.1 h with rfl | h; exact hl; exact hm m h⟩
        · exact ⟨a, List.mem_cons_self, fun m h => by
            rcases List.mem_cons.1 h with rfl | h
            · exact Int.le_refl _
            · have := hm m h; omega⟩
  obtain ⟨n, hn, hm⟩ := key _ hne
  obtain ⟨h1, h2⟩ := List.mem_filter.1 hn
  refine ⟨n, h1, by simpa using h2, Nat.le_trans h ?_⟩
  have e : x.noted.filter (fun m => decide (D ≤ m)) = (x.noted.filter (fun m => decide (n ≤ m))).filter (fun m => decide (D ≤ m)) := by
    rw [List.filter_filter]
    apply List.filter_congr
    intro m hmm
    by_cases hd : D ≤ m
    · have := hm m (List.mem_filter.2 ⟨hmm, by simpa using hd⟩)
      simp [hd, this]
    · simp [hd]
  rw [e]
  exact List.length_filter_le _ _

theorem agreed_eq (x : XWr) (st : List Msg) (h2 : x.noted = notedL st) (base len : Nat) (hf : fourOf st (base : Int) = true) (hB : ∀ m ∈ st, m.scl ≤ (base : Int) + (len : Int)) : x.agreed = (durUp st base (len + 1) : Int) := by
  obtain ⟨d1, d2, d3, d4⟩ := durUp_spec st base len hf
  obtain ⟨a1, a2⟩ := agreed_spec x
  generalize hD : durUp st base (len + 1) = D at *
  have le1 : (D : Int) ≤ x.agreed := by
    by_cases h0 : D = 0
    · subst h0
      rcases a1 with h | h <;> omega
    · rw [four_reaching x st h2 _ (by omega)] at d3
      obtain ⟨n, hn, hd, h4⟩ := reach_down x (D : Int) (by simpa using d3)
      have := a2 n hn h4
      omega
  have le2 : x.agreed ≤ (D : Int) := by
    rcases a1 with h | ⟨hm, h4, hp⟩
    · omega
    · have hA : x.agreed ≤ (base : Int) + (len : Int) := by
        rw [h2] at hm
        unfold notedL at hm
        obtain ⟨s, _, hs⟩ := List.mem_map.1 hm
        rw [← hs]
        exact notedN_le st _ _ (by omega) hB
      by_cases hb : x.agreed < (base : Int)
      · omega
      · have h5 := d4 x.agreed.toNat (by omega) (by omega) (by
          rw [show ((x.agreed.toNat : Nat) : Int) = x.agreed from by omega, four_reaching x st h2 _ (by omega)]
          simpa using h4)
        omega
  omega
end Go.Proofs.YtfpbkghcjaonlaaGreat.Sim

/-
  The simulation: MStatus.
-/
namespace Go.Proofs.YtfpbkghcjaonlaaGreat.Sim

theorem stands_over {p : RPen} (h : p.over = true) : p.stands = ⟨p.a0, p.a1, p.a2, p.a3⟩ := by unfold RPen.stands; rw [h]; rfl
theorem stands_few {p : RPen} (h : p.over = false) (h4 : p.fenced.length < 4) : p.stands = ⟨1, 0, 0, 0⟩ := by unfold RPen.stands; rw [h]; simp [h4]
theorem stands_cut {p : RPen} (h : p.over = false) (h4 : 4 ≤ p.fenced.length) (hf : fourOf p.status (baseOf p.fenced : Int) = false) : p.stands = ⟨2, (baseOf p.fenced : Int), (baseOf p.fenced : Int) + (p.values.length : Int), 0⟩ := by
  unfold RPen.stands; rw [h, hf]; simp [show ¬ p.fenced.length < 4 by omega]
theorem stands_open {p : RPen} (h : p.over = false) (h4 : 4 ≤ p.fenced.length) (hf : fourOf p.status (baseOf p.fenced : Int) = true) : p.stands = ⟨3, (baseOf p.fenced : Int), (baseOf p.fenced : Int) + (p.values.length : Int), (durUp p.status (baseOf p.fenced) (p.values.length + 1) : Int)⟩ := by
  unfold RPen.stands; rw [h, hf]; simp [show ¬ p.fenced.length < 4 by omega]

theorem wr_ext {a b : XWr} (h0 : a.number = b.number) (h1 : a.phase = b.phase) (h2 : a.base = b.base) (h3 : a.next = b.next) (h4 : a.dur = b.dur) (h5 : a.notes = b.notes) (h6 : a.cuts = b.cuts) (h7 : a.values = b.values) (h8 : a.heard = b.heard) (h9 : a.noted = b.noted) : a = b := by
  cases a; cases b; simp at *; exact ⟨h0, h1, h2, h3, h4, h5, h6, h7, h8, h9⟩

/-- What phase a writer is at. -/
theorem PenInv.cases {pens : List RPen} {wi n : Int} {p : RPen} (h : PenInv pens wi n p) :
    (p.over = true ∧ p.stands.phase = 4) ∨ (p.over = false ∧ p.fenced.length < 4 ∧ p.stands = ⟨1, 0, 0, 0⟩) ∨
    (p.over = false ∧ p.fenced.length = 4 ∧ fourOf p.status (baseOf p.fenced : Int) = false ∧ p.stands = ⟨2, (baseOf p.fenced : Int), (baseOf p.fenced : Int) + (p.values.length : Int), 0⟩) ∨
    (p.over = false ∧ p.fenced.length = 4 ∧ fourOf p.status (baseOf p.fenced : Int) = true ∧ p.stands = ⟨3, (baseOf p.fenced : Int), (baseOf p.fenced : Int) + (p.values.length : Int), (durUp p.status (baseOf p.fenced) (p.values.length + 1) : Int)⟩) := by
  have hf := h.f4
  cases ho : p.over with
  | true => exact .inl ⟨rfl, by rw [stands_over ho]; exact (h.ov ho).1⟩
  | false =>
    by_cases h4 : p.fenced.length < 4
    · exact .inr (.inl ⟨rfl, h4, stands_few ho h4⟩)
    · cases hs : fourOf p.status (baseOf p.fenced : Int) with
      | false => exact .inr (.inr (.inl ⟨rfl, by omega, rfl, stands_cut ho (by omega) hs⟩))
      | true => exact .inr (.inr (.inr ⟨rfl, by omega, rfl, stands_open ho (by omega) hs⟩))

theorem ended_over (p : RPen) : p.ended.over = true := by
  unfold RPen.ended
  cases h : p.over with
  | true => simp [h]
  | false => simp
theorem ended_same (p : RPen) : p.ended.fenced = p.fenced ∧ p.ended.status = p.status ∧ p.ended.values = p.values := by
  unfold RPen.ended; split <;> exact ⟨rfl, rfl, rfl⟩
theorem ended_a (p : RPen) (h : p.over = true → p.a0 = 4) : p.ended.a0 = 4 ∧ p.ended.a1 = p.stands.base ∧ p.ended.a2 = p.stands.next ∧ p.ended.a3 = p.stands.dur := by
  unfold RPen.ended
  cases ho : p.over with
  | true => rw [stands_over ho]; simp [h ho]
  | false => simp
theorem xpen_stop (n : Int) (p : RPen) (h : p.over = true → p.a0 = 4) : (xpen n p).stop = xpen n p.ended := by
  have ho := ended_over p
  obtain ⟨s1, s2, s3⟩ := ended_same p
  obtain ⟨a0, a1, a2, a3⟩ := ended_a p h
  have hs := stands_over ho
  rw [a0, a1, a2, a3] at hs
  unfold xpen XWr.stop
  rw [hs]
  simp only [ho, s2, true_or, if_true]
/-- How great base and durable are. -/
theorem PenInv.bounds {pens : List RPen} {wi n : Int} {p : RPen} (h : PenInv pens wi n p) : 0 ≤ p.stands.base ∧ p.stands.base ≤ 40 ∧ 0 ≤ p.stands.dur ∧ p.stands.dur ≤ 40 ∧ 0 ≤ p.stands.next := by
  have h40 := h.n40
  cases ho : p.over with
  | true => rw [stands_over ho]; exact (h.ov ho).2
  | false =>
    by_cases h4 : p.fenced.length < 4
    · rw [stands_few ho h4]; exact ⟨by decide, by decide, by decide, by decide, by decide⟩
    · cases hs : fourOf p.status (baseOf p.fenced : Int) with
      | false => rw [stands_cut ho (by omega) hs]; simp only; omega
      | true =>
        rw [stands_open ho (by omega) hs]
        have := (durUp_spec p.status (baseOf p.fenced) p.values.length hs).2.1
        simp only; omega
theorem PenInv.ended {pens : List RPen} {wi n : Int} {p : RPen} (h : PenInv pens wi n p) : PenInv pens wi n p.ended := by
  obtain ⟨s1, s2, s3⟩ := ended_same p
  obtain ⟨a0, a1, a2, a3⟩ := ended_a p (fun ho => (h.ov ho).1)
  refine ⟨by rw [s1]; exact h.f4, by rw [s1]; exact h.fm, by rw [s1, s2, s3]; exact h.few, by rw [s1, s2, s3]; exact h.sm, fun _ => ⟨a0, by rw [a1, a2, a3]; exact h.bounds⟩, by rw [s1, s3]; exact h.n40, by rw [s1, s2, s3]; exact h.shut, by rw [s1, s2, s3]; exact h.win, by rw [s1]; exact h.srt, by rw [s1]; exact h.len, by rw [s1]; exact h.pos⟩

/-- MStatus arrives at a writer that has decided. -/
theorem xpen_status {pens : List RPen} {wi n : Int} {p : RPen} (h : PenInv pens wi n p) (ho : p.over = false) (h4 : p.fenced.length = 4) (m : Msg) (hs0 : 0 ≤ m.scl) (hs1 : m.scl ≤ (baseOf p.fenced : Int) + (p.values.length : Int)) (hf0 : 0 ≤ m.frm) (hf6 : m.frm < 6) (hwi : 0 ≤ wi) :
    (xpen n p).hearStatus m = xpen n { p with status := p.status ++ [m] } ∧ PenInv pens wi n { p with status := p.status ++ [m] } := by
  have hB : ∀ q ∈ p.status ++ [m], q.scl ≤ (baseOf p.fenced : Int) + (p.values.length : Int) := fun q hq => by
    rcases List.mem_append.1 hq with h1 | h1
    · exact (h.sm q h1).2.1
    · rw [List.mem_singleton.1 h1]; exact hs1
  constructor
  · cases hf : fourOf p.status (baseOf p.fenced : Int) with
    | true =>
      have hf2 := fourOf_mono p.status m _ hf
      have st1 := stands_open ho (by omega) hf
      have st2 := stands_open (p := { p with status := p.status ++ [m] }) ho (show 4 ≤ p.fenced.length by omega) hf2
      unfold XWr.hearStatus
      rw [if_pos (by right; unfold xpen; rw [st1])]
      have e1 : ((xpen n p).noteS m).phase = 3 := by unfold XWr.noteS xpen; rw [st1]
      have e2 : ((xpen n p).noteS m).opens = (xpen n p).noteS m := by unfold XWr.opens; rw [if_neg (by rw [e1]; simp)]
      have hn : ((xpen n p).noteS m).noted = notedL (p.status ++ [m]) := by unfold XWr.noteS xpen; simp only; rw [notedL_snoc _ _ hf0 hf6]
      have ha := agreed_eq ((xpen n p).noteS m) _ hn (baseOf p.fenced) p.values.length hf2 hB
      rw [e2]
      unfold XWr.durs
      rw [if_pos e1]
      refine wr_ext rfl ?_ ?_ ?_ ?_ ?_ ?_ ?_ ?_ ?_
      · simp only [e1]; unfold xpen; rw [st2]
      · unfold xpen XWr.noteS; rw [st1, st2]
      · unfold xpen XWr.noteS; rw [st1, st2]
      · simp only [ha]; unfold xpen; rw [st2]
      · rfl
      · rfl
      · rfl
      · unfold xpen XWr.noteS; simp only; rw [heardL_snoc _ _ hf0 hf6]
      · exact hn
    | false =>
      have st1 := stands_cut ho (by omega) hf
      unfold XWr.hearStatus
      rw [if_pos (by left; unfold xpen; rw [st1])]
      have e1 : ((xpen n p).noteS m).phase = 2 := by unfold XWr.noteS xpen; rw [st1]
      have hb : ((xpen n p).noteS m).base = (baseOf p.fenced : Int) := by unfold XWr.noteS xpen; rw [st1]
      have hn : ((xpen n p).noteS m).noted = notedL (p.status ++ [m]) := by unfold XWr.noteS xpen; simp only; rw [notedL_snoc _ _ hf0 hf6]
      have hh : ((xpen n p).noteS m).heard = heardL (p.status ++ [m]) := by unfold XWr.noteS xpen; simp only; rw [heardL_snoc _ _ hf0 hf6]
      have hr := readyN_eq _ _ hh hn
      rw [hb] at hr
      cases hf2 : fourOf (p.status ++ [m]) (baseOf p.fenced : Int) with
      | false =>
        have st2 := stands_cut (p := { p with status := p.status ++ [m] }) ho (show 4 ≤ p.fenced.length by omega) hf2
        have hr4 : ¬ 4 ≤ ((xpen n p).noteS m).readyN := by rw [hr]; unfold fourOf at hf2; simpa using hf2
        have e2 : ((xpen n p).noteS m).opens = (xpen n p).noteS m := by unfold XWr.opens; rw [if_neg (fun h => hr4 h.2)]
        rw [e2]
        unfold XWr.durs
        rw [if_neg (by rw [e1]; decide)]
        refine wr_ext rfl ?_ ?_ ?_ ?_ rfl rfl rfl hh hn
        · rw [e1]; unfold xpen; rw [st2]
        · unfold xpen XWr.noteS; rw [st1, st2]
        · unfold xpen XWr.noteS; rw [st1, st2]
        · unfold xpen XWr.noteS; rw [st1, st2]
      | true =>
        have st2 := stands_open (p := { p with status := p.status ++ [m] }) ho (show 4 ≤ p.fenced.length by omega) hf2
        have hr4 : 4 ≤ ((xpen n p).noteS m).readyN := by rw [hr]; unfold fourOf at hf2; simpa using hf2
        have e2 : ((xpen n p).noteS m).opens = { (xpen n p).noteS m with phase := 3 } := by unfold XWr.opens; rw [if_pos ⟨e1, hr4⟩]
        have ha := agreed_eq { (xpen n p).noteS m with phase := 3 } _ hn (baseOf p.fenced) p.values.length hf2 hB
        rw [e2]
        unfold XWr.durs
        rw [if_pos rfl]
        refine wr_ext rfl ?_ ?_ ?_ ?_ rfl rfl rfl hh hn
        · unfold xpen; rw [st2]
        · unfold xpen XWr.noteS; rw [st1, st2]
        · unfold xpen XWr.noteS; rw [st1, st2]
        · rw [ha]; unfold xpen; rw [st2]
  · refine ⟨h.f4, h.fm, fun h' => by simp only at h'; omega, fun q hq => ?_, h.ov, h.n40, fun hf => ?_, fun _ hf => ?_, h.srt, h.len, h.pos⟩
    · rcases List.mem_append.1 hq with h1 | h1
      · exact h.sm q h1
      · rw [List.mem_singleton.1 h1]; exact ⟨hs0, hs1, hf0, hf6⟩
    · refine h.shut ?_
      cases hf2 : fourOf p.status (baseOf p.fenced : Int) with
      | false => rfl
      | true => rw [fourOf_mono p.status m _ hf2] at hf; simp at hf
    · have hn2 := durUp_spec (p.status ++ [m]) (baseOf p.fenced) p.values.length hf
      simp only
      cases hf2 : fourOf p.status (baseOf p.fenced : Int) with
      | false =>
        have hv := h.shut hf2
        have h1 := hn2.1
        rw [hv] at h1 ⊢
        simp only [List.length_nil] at h1 ⊢
        omega
      | true =>
        have hw := h.win (by omega) hf2
        obtain ⟨d1, d2, d3, d4⟩ := durUp_spec p.status (baseOf p.fenced) p.values.length hf2
        have := hn2.2.2.2 _ d1 d2 (fourOf_mono _ m _ d3)
        omega
end Go.Proofs.YtfpbkghcjaonlaaGreat.Sim
