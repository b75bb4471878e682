import Derived.Test.YtfpbkghcjaonlaaJ29
import Derived.Test.YtfpbkghcjaonlaaJ26
/-
  Liveness: a round.
-/
namespace Go.Proofs.Ytfpbkghcjaonlaa.Sim

structure Op where
  g : Bool
  a : Nat
  b : Nat
def Op.gos (a b : Nat) : Op := ⟨true, a, b⟩
def Op.syn (s : Nat) : Op := ⟨false, s, 0⟩
def Op.run (o : Op) (r : RVol) : RVol × Int := cond o.g (r.gossip o.a o.b) (r.sync o.a)
def Ops : List Op → RVol → RVol → Prop
  | [], r, r' => r' = r
  | o :: l, r, r' => ∃ r1, Dr (o.run r).1 r1 ∧ Ops l r1 r'
theorem Ops.append : ∀ {l1 l2 : List Op} {r r' : RVol}, Ops (l1 ++ l2) r r' ↔ ∃ rm, Ops l1 r rm ∧ Ops l2 rm r'
  | [], l2, r, r' => ⟨fun h => ⟨r, rfl, h⟩, fun ⟨rm, e, h⟩ => by rw [e] at h; exact h⟩
  | o :: l1, l2, r, r' => by
    constructor
    · rintro ⟨r1, d, h⟩
      obtain ⟨rm, a, b⟩ := Ops.append.1 h
      exact ⟨rm, ⟨r1, d, a⟩, b⟩
    · rintro ⟨rm, ⟨r1, d, a⟩, b⟩
      exact ⟨r1, d, Ops.append.2 ⟨rm, a, b⟩⟩
theorem Ops.snoc {l : List Op} {o : Op} {r r1 r2 : RVol} (h : Ops l r r1) (d : Dr (o.run r1).1 r2) : Ops (l ++ [o]) r r2 := Ops.append.2 ⟨r1, h, r2, d, rfl⟩

theorem mo_gossip (r : RVol) (a b : Int) : Mo r (r.gossip a b).1 := by
  unfold RVol.gossip
  split
  · exact Mo.refl r
  · split
    · exact Mo.refl r
    · split
      · exact Mo.send _ _
      · exact Mo.refl r
theorem mo_sync {r : RVol} (h : Inv r) (n : Int) : Mo r (r.sync n).1 := by
  unfold RVol.sync
  split
  · exact Mo.refl r
  · cases hg : r.segs[n.toNat]? with
    | none => exact Mo.refl r
    | some g =>
      simp only
      split
      · have hsy : r.synced n.toNat = r.setSeg n.toNat { g with entries := g.entries.map syncE } := by unfold RVol.synced; rw [hg]; rfl
        have G := Mo.setSeg hg (sync_sgo (r.pens.length : Int) (h.segs g (List.mem_of_getElem? hg)).ents)
        simp only
        rw [hsy]
        unfold RVol.after
        rw [get_set hg]
        simp only
        split
        · exact G.trans (Mo.send _ _)
        · exact G
      · exact Mo.refl r
theorem mo_resend (r : RVol) (n : Int) : Mo r (r.resend n).1 := by
  unfold RVol.resend
  split
  · exact Mo.refl r
  · split
    · exact Mo.refl r
    · exact Mo.sendsUp _ _ 6
section
variable {W : Nat} {r r' : RVol}
theorem Kk.op (h : Kk W r) (o : Op) : Mo r (o.run r).1 ∧ Kk W (o.run r).1 := by
  obtain ⟨g, a, b⟩ := o
  cases g with
  | true => exact ⟨mo_gossip r a b, h.mo (mo_gossip r a b) (sim_gossip h.inv a b).2 (goes_gossip h.saf a b).saf⟩
  | false => exact ⟨mo_sync h.inv a, h.mo (mo_sync h.inv a) (sim_sync h.inv a).2 (goes_sync h.inv h.saf a).saf⟩
theorem Kk.resend (h : Kk W r) (n : Int) : Mo r (r.resend n).1 ∧ Kk W (r.resend n).1 :=
  ⟨mo_resend r n, h.mo (mo_resend r n) (sim_resend h.inv n).2 (goes_resend h.saf n).saf⟩
theorem Kk.ops : ∀ {l : List Op} {r r' : RVol}, Kk W r → liveOf r.net = [] → Ops l r r' → Mo r r' ∧ Kk W r' ∧ liveOf r'.net = []
  | [], r, r', h, hl, e => by rw [e]; exact ⟨Mo.refl r, h, hl⟩
  | o :: l, r, r', h, hl, ⟨r1, d, t⟩ => by
    obtain ⟨m1, k1⟩ := h.op o
    obtain ⟨m2, k2⟩ := k1.dl d.1
    obtain ⟨m3, k3, l3⟩ := Kk.ops k2 d.2 t
    exact ⟨(m1.trans m2).trans m3, k3, l3⟩
end
def gosUp (x n : Nat) : List Op := ((List.range n).filter (fun b => decide (x ≠ b))).map (Op.gos x)
def gosAll : Nat → List Op
  | 0 => []
  | n + 1 => gosAll n ++ gosUp n 6
def synUp (n : Nat) : List Op := (List.range n).map Op.syn
theorem gosUp_succ (x n : Nat) : gosUp x (n + 1) = gosUp x n ++ (if x = n then [] else [Op.gos x n]) := by
  unfold gosUp
  rw [List.range_succ, List.filter_append, List.map_append]
  by_cases h : x = n
  · simp [h]
  · simp [h]
theorem synUp_succ (n : Nat) : synUp (n + 1) = synUp n ++ [Op.syn n] := by
  unfold synUp; rw [List.range_succ, List.map_append]; rfl
theorem gos_mem {a b : Nat} : ∀ {n : Nat}, a < n → b < 6 → a ≠ b → Op.gos a b ∈ gosAll n
  | 0, h, _, _ => by omega
  | n + 1, h, hb, hne => by
    unfold gosAll
    by_cases e : a = n
    · subst e
      refine List.mem_append_right _ ?_
      unfold gosUp
      exact List.mem_map_of_mem (List.mem_filter.2 ⟨by simpa using hb, by simpa using hne⟩)
    · exact List.mem_append_left _ (gos_mem (by omega) hb hne)
theorem syn_mem {s : Nat} (h : s < 6) : Op.syn s ∈ synUp 6 := List.mem_map_of_mem (by simpa using h)
/-- A round. -/
def Rnd (W : Int) (r r' : RVol) : Prop := ∃ r1 r2, Dr (r.resend W).1 r1 ∧ Ops (gosAll 6) r1 r2 ∧ Ops (synUp 6) r2 r'

theorem pl_cases (l : List Ent) (n : Int) : (plOf l n).1 = 0 ∨ (plOf l n).1 = 1 ∨ (plOf l n).1 = 2 := by
  unfold plOf
  split
  · exact .inl rfl
  · simp only
    split
    · exact .inr (.inr rfl)
    · exact .inr (.inl rfl)

section
variable {i : Nat} {r r' : RVol}
/-- A segment keeps all, and tells. -/
theorem sync_tells (hK : Kk (i + 1) r) (hl : liveOf r.net = []) {s : Nat} (hs : s < 6) {n : Nat} (hc : Qc i s r) (hh : ∀ j : Nat, 1 ≤ j → j ≤ n → Qh i s (j : Int) r) (d : Dr (r.sync (s : Int)).1 r') : Qs i s (n : Int) r' := by
  obtain ⟨g, hg, ht⟩ := hc
  have hgm := List.mem_of_getElem? hg
  have hgi := hK.inv.segs g hgm
  have hge := Qc.epoch hK hg (by rw [ht]; simp)
  have hge : g.epoch = (i : Int) + 1 := by rw [hge]; simp
  have hK' := (hK.op (.syn s)).2
  refine status_leads (s := s) (n := (n : Int)) hK' d ?_
  show ∃ m ∈ liveOf (r.sync (s : Int)).1.net, _
  unfold RVol.sync
  rw [if_neg (by omega), Int.toNat_natCast, hg]
  simp only
  rw [if_pos (hK.up g hgm)]
  have hsy : r.synced s = r.setSeg s { g with entries := g.entries.map syncE } := by unfold RVol.synced; rw [hg]; rfl
  simp only
  rw [hsy]
  unfold RVol.after
  rw [get_set hg]
  simp only
  have he2 : ({ g with entries := g.entries.map syncE } : RSeg).epoch = (i : Int) + 1 := hge
  have ht2 : topOf ({ g with entries := g.entries.map syncE } : RSeg).cuts = (i : Int) + 1 := ht
  rw [if_pos ⟨by rw [he2]; omega, by rw [he2, ht2]⟩]
  have hfl := hK.inv.fl
  refine ⟨statusMsg s { g with entries := g.entries.map syncE }, live_sent (r := r.setSeg s _) (by show ((liveOf r.net).length : Int) < r.fl; rw [hl]; simp; omega), rfl, he2, rfl, ?_⟩
  show (n : Int) ≤ ((sclOf (g.entries.map syncE) : Nat) : Int)
  have := scl_ge (l := g.entries.map syncE) (N := n) (fun j h1 h2 => by
    obtain ⟨g', hg', _, hp⟩ := hh j h1 h2
    rw [hg] at hg'
    have := Option.some.inj hg'
    subst this
    rw [sync_pl hgi.ents]
    unfold syncAt
    rcases pl_cases g.entries (j : Int) with h | h | h
    · exact absurd h hp
    · rw [if_pos h]
    · rw [if_neg (by rw [h]; decide)]; exact h)
  omega
theorem syncs_tell (hK : Kk (i + 1) r) (hl : liveOf r.net = []) {s : Nat} (hs : s < 6) {n : Nat} (hc : Qc i s r) (hh : ∀ j : Nat, 1 ≤ j → j ≤ n → Qh i s (j : Int) r) (d : Ops (synUp 6) r r') : Qs i s (n : Int) r' := by
  obtain ⟨a, b, e⟩ := List.append_of_mem (syn_mem hs)
  rw [e] at d
  obtain ⟨ra, d1, rb, d2, d3⟩ := Ops.append.1 d
  obtain ⟨m1, k1, l1⟩ := Kk.ops hK hl d1
  have h1 := sync_tells k1 l1 hs (hc.mo hK.len m1) (fun j x y => (hh j x y).mo hK.len m1) d2
  obtain ⟨_, k2⟩ := (k1.op (.syn s)).2.dl d2.1
  exact h1.mo (Kk.ops k2 d2.2 d3).1
theorem scl_of_k {s : Nat} {g : RSeg} (hg : r.segs[s]? = some g) {n : Nat} (hk : ∀ j : Nat, 1 ≤ j → j ≤ n → Qk i s (j : Int) r) : n ≤ sclOf g.entries :=
  scl_ge (fun j h1 h2 => by
    obtain ⟨g', hg', _, hp⟩ := hk j h1 h2
    rw [hg] at hg'
    rw [Option.some.inj hg']; exact hp)
/-- A segment asks another one for what it lacks. -/
theorem gossip_has (hK : Kk (i + 1) r) (hl : liveOf r.net = []) {s t : Nat} (hs : s < 6) (ht : t < 6) (hne : s ≠ t) {n : Nat} (h1 : 1 ≤ n) (hc : Qc i s r) (hk : ∀ j : Nat, 1 ≤ j → j < n → Qk i s (j : Int) r) (hkt : Qk i t (n : Int) r) (d : Dr (r.gossip (s : Int) (t : Int)).1 r') : Qh i s (n : Int) r' := by
  obtain ⟨mo, k⟩ := hK.op (.gos s t)
  obtain ⟨g, hg, htp⟩ := id hc
  have hgm := List.mem_of_getElem? hg
  have hgi := hK.inv.segs g hgm
  have hs1 := scl_of_k (n := n - 1) hg (fun j a b => hk j a (by omega))
  by_cases hn : n ≤ sclOf g.entries
  · have : Qk i s (n : Int) r := ⟨g, hg, htp, scl_pl g hgi.ents n h1 hn⟩
    exact this.has.mo hK.len (mo.trans (k.dl d.1).1)
  · refine need_leads k hs ht (hc.mo hK.len mo) (hkt.mo hK.len mo) d ?_
    show ∃ m ∈ liveOf (r.gossip (s : Int) (t : Int)).1.net, _
    unfold RVol.gossip
    rw [if_neg (by omega), Int.toNat_natCast, hg]
    simp only
    rw [if_pos (hK.up g hgm)]
    have hfl := hK.inv.fl
    refine ⟨needMsg s t (sclOf g.entries), live_sent (by rw [hl]; simp; omega), rfl, rfl, rfl, ?_⟩
    show ((sclOf g.entries : Nat) : Int) + 1 = _
    omega
/-- In a round every segment of the newest list comes one further, where another one has the record. -/
theorem round_up (hK : Kk (i + 1) r) (d : Rnd ((i : Int) + 1) r r') {s t : Nat} (hs : s < 6) (ht : t < 6) {n : Nat} (h1 : 1 ≤ n) (hc : Qc i s r) (hk : ∀ j : Nat, 1 ≤ j → j < n → Qk i s (j : Int) r) (hkt : Qk i t (n : Int) r) : Qs i s (n : Int) r' := by
  obtain ⟨r1, r2, d1, d2, d3⟩ := d
  obtain ⟨m0, k0⟩ := hK.resend ((i : Int) + 1)
  obtain ⟨m1, k1⟩ := k0.dl d1.1
  have m1 := m0.trans m1
  by_cases e : s = t
  · subst e
    obtain ⟨m2, k2, l2⟩ := Kk.ops k1 d1.2 d2
    have m2 := m1.trans m2
    refine syncs_tell k2 l2 hs (hc.mo hK.len m2) (fun j a b => ?_) d3
    by_cases hj : j = n
    · subst hj; exact (hkt.mo hK.len m2).has
    · exact ((hk j a (by omega)).mo hK.len m2).has
  · obtain ⟨a, b, ea⟩ := List.append_of_mem (gos_mem hs ht e)
    rw [ea] at d2
    obtain ⟨ra, da, rb, db, dc⟩ := Ops.append.1 d2
    obtain ⟨ma, ka, la⟩ := Kk.ops k1 d1.2 da
    have ma := m1.trans ma
    have h := gossip_has ka la hs ht e h1 (hc.mo hK.len ma) (fun j x y => (hk j x y).mo hK.len ma) (hkt.mo hK.len ma) db
    obtain ⟨mb0, kb0⟩ := ka.op (.gos s t)
    obtain ⟨mb, kb⟩ := kb0.dl db.1
    have mb := ma.trans (mb0.trans mb)
    obtain ⟨m2, k2, l2⟩ := Kk.ops kb db.2 dc
    have h := h.mo kb.len m2
    have m2 := mb.trans m2
    refine syncs_tell k2 l2 hs (hc.mo hK.len m2) (fun j x y => ?_) d3
    by_cases hj : j = n
    · subst hj; exact h
    · exact ((hk j x (by omega)).mo hK.len m2).has
theorem Rnd.mo (hK : Kk (i + 1) r) (d : Rnd ((i : Int) + 1) r r') : Mo r r' ∧ Kk (i + 1) r' ∧ liveOf r'.net = [] := by
  obtain ⟨r1, r2, d1, d2, d3⟩ := d
  obtain ⟨m0, k0⟩ := hK.resend ((i : Int) + 1)
  obtain ⟨m1, k1⟩ := k0.dl d1.1
  obtain ⟨m2, k2, l2⟩ := Kk.ops k1 d1.2 d2
  obtain ⟨m3, k3, l3⟩ := Kk.ops k2 l2 d3
  exact ⟨((m0.trans m1).trans m2).trans m3, k3, l3⟩

/-- The first of the messages that are sent gets through. -/
theorem first_sent {r : RVol} (hl : liveOf r.net = []) (hfl : 1 ≤ r.fl) {f : Nat → Option Msg} {s0 : Nat} {m : Msg} (hm : f s0 = some m) (hno : ∀ s, s < s0 → f s = none) : ∀ n, s0 < n → m ∈ liveOf (r.sendsUp f n).net
  | 0, h => by omega
  | n + 1, h => by
    show m ∈ liveOf ((r.sendsUp f n).sendO (f n)).net
    by_cases e : s0 = n
    · subst e
      have key : ∀ k, k ≤ s0 → r.sendsUp f k = r := by
        intro k
        induction k with
        | zero => intro _; rfl
        | succ k ih =>
          intro hk
          show (r.sendsUp f k).sendO (f k) = r
          rw [hno k (by omega), ih (by omega)]; rfl
      rw [key s0 (Nat.le_refl _), hm]
      exact live_sent (by rw [hl]; simp; omega)
    · have h1 := first_sent hl hfl hm hno n (by omega)
      cases f n with
      | none => exact h1
      | some x => exact live_send h1
theorem least {P : Nat → Prop} : ∀ {n : Nat}, P n → ∃ k, k ≤ n ∧ P k ∧ ∀ j, j < k → ¬ P j := by
  intro n
  induction n using Nat.strongRecOn with
  | ind n ih =>
    intro hn
    by_cases h : ∃ j, j < n ∧ P j
    · obtain ⟨j, hj, hp⟩ := h
      obtain ⟨k, h1, h2, h3⟩ := ih j hj hp
      exact ⟨k, by omega, h2, h3⟩
    · exact ⟨n, Nat.le_refl _, hn, fun j hj hp => h ⟨j, hj, hp⟩⟩
theorem resend_eq (hK : Kk (i + 1) r) {p : RPen} (hp : r.pens[i]? = some p) : r.resend ((i : Int) + 1) = (r.sendsUp (resMsg p p.stands ((i : Int) + 1)) 6, 0) := by
  obtain ⟨p', hp', ho, hpi⟩ := hK.pen
  rw [hp] at hp'
  have := Option.some.inj hp'
  subst this
  have hph : ¬ p.stands.phase = 4 := by
    rcases hpi.cases with ⟨h5, _⟩ | ⟨_, _, h5⟩ | ⟨_, _, _, h5⟩ | ⟨_, _, _, h5⟩
    · rw [ho] at h5; simp at h5
    · rw [h5]; simp
    · rw [h5]; simp
    · rw [h5]; simp
  have et : ((i : Int) + 1).toNat - 1 = i := by omega
  have hmay : r.may ((i : Int) + 1) = (p.stands, 0) := by
    unfold RVol.may writerAt
    rw [if_neg (by omega), et, hp]
    simp only
    rw [if_neg hph]
  unfold RVol.resend
  rw [hmay, et, hp]
  simp
/-- Where a writer has told of s, s has its list. -/
theorem heard_c (hK : Kk (i + 1) r) {p : RPen} (hp : r.pens[i]? = some p) {s : Nat} (hs : s < 6) (hh : heardIn p.status (s : Int) = true) : Qc i s r := by
  unfold heardIn at hh
  rw [List.any_eq_true] at hh
  obtain ⟨m, hm, he⟩ := hh
  have he : m.frm = (s : Int) := by simpa using he
  obtain ⟨⟨q, hq, rfl⟩, hk, hto⟩ := hK.saf.snet i p hp m hm
  obtain ⟨g, hg, _, hgi, hge⟩ := hK.seg s hs
  have h1 := (hK.saf.told q hq hk g (by rw [he, Int.toNat_natCast]; exact hg)).top
  have h2 := hgi.top
  exact ⟨g, hg, by omega⟩
theorem noted_k (hK : Kk (i + 1) r) {p : RPen} (hp : r.pens[i]? = some p) {s : Nat} (hs : s < 6) {j : Nat} (hr : reach p.status (j : Int) (s : Int) = true) (h1 : 1 ≤ j) : Qk i s (j : Int) r := by
  unfold reach at hr
  rw [Bool.and_eq_true] at hr
  obtain ⟨g, hg, ht⟩ := heard_c hK hp hs hr.1
  obtain ⟨_, _, _, hgi, _⟩ := hK.seg s hs
  have hgi := hK.inv.segs g (List.mem_of_getElem? hg)
  obtain ⟨m, hm, he, hsc⟩ := heard_mem hr.1 (fun q hq => ((hK.inv.pens i p hp).sm q hq).1) (n := (j : Int)) (by simpa using hr.2)
  obtain ⟨⟨q, hq, rfl⟩, hk, hto⟩ := hK.saf.snet i p hp m hm
  have h2 := (hK.saf.told q hq hk g (by rw [he, Int.toNat_natCast]; exact hg)).scl j hsc (fun t pt dt a b => by omega)
  exact ⟨g, hg, ht, scl_pl g hgi.ents j h1 h2⟩
theorem reach_down' {st : List Msg} {n m s : Int} (h : reach st n s = true) (hm : m ≤ n) : reach st m s = true := by
  unfold reach at *
  rw [Bool.and_eq_true] at *
  exact ⟨h.1, by have := of_decide_eq_true h.2; simp; omega⟩
theorem noted_ks (hK : Kk (i + 1) r) {p : RPen} (hp : r.pens[i]? = some p) {s : Nat} (hs : s < 6) {n : Nat} (hr : reach p.status (n : Int) (s : Int) = true) : Qc i s r ∧ ∀ j : Nat, 1 ≤ j → j ≤ n → Qk i s (j : Int) r :=
  ⟨heard_c hK hp hs (by unfold reach at hr; rw [Bool.and_eq_true] at hr; exact hr.1), fun j a b => noted_k hK hp hs (reach_down' hr (by omega)) a⟩
theorem few_heard {l : List Msg} (h : l.length < 4) : ∃ s : Nat, s < 6 ∧ heardIn l (s : Int) = false := by
  apply Classical.byContradiction
  intro hno
  have all : ∀ s : Nat, s < 6 → heardIn l (s : Int) = true := fun s hs => by
    cases hh : heardIn l (s : Int) with
    | true => rfl
    | false => exact absurd ⟨s, hs, hh⟩ hno
  have h0 := all 0 (by omega)
  have h1 := all 1 (by omega)
  have h2 := all 2 (by omega)
  have h3 := all 3 (by omega)
  match l, h with
  | [], _ => simp [heardIn] at h0
  | [a], _ => simp [heardIn] at h0 h1; omega
  | [a, b], _ => simp [heardIn] at h0 h1 h2; omega
  | [a, b, c], _ => simp [heardIn] at h0 h1 h2 h3; omega
/-- A round while the writer is fencing. -/
theorem round_fence (hK : Kk (i + 1) r) (hl : liveOf r.net = []) (d : Rnd ((i : Int) + 1) r r') {p : RPen} (hp : r.pens[i]? = some p) (h4 : p.fenced.length < 4) : ∃ p', r'.pens[i]? = some p' ∧ p.fenced.length + 1 ≤ p'.fenced.length := by
  obtain ⟨p', hp', ho, hpi⟩ := hK.pen
  rw [hp] at hp'
  have := Option.some.inj hp'
  subst this
  have hst := stands_few ho h4
  obtain ⟨s1, hs1, hh1⟩ := few_heard h4
  obtain ⟨s, hs, hh, hno⟩ := least (P := fun s => heardIn p.fenced ((s : Nat) : Int) = false) hh1
  have hs6 : s < 6 := by omega
  obtain ⟨r1, r2, d1, d2, d3⟩ := id d
  obtain ⟨m0, k0⟩ := hK.resend ((i : Int) + 1)
  obtain ⟨m1, k1⟩ := k0.dl d1.1
  obtain ⟨m2, k2, l2⟩ := Kk.ops k1 d1.2 d2
  obtain ⟨m3, k3, l3⟩ := Kk.ops k2 l2 d3
  have hq : Qf i s r1 := by
    refine fence_leads k0 hs6 d1 ⟨fenceMsg ((i : Int) + 1) s, ?_, rfl, rfl, rfl⟩
    rw [resend_eq hK hp]
    refine first_sent (s0 := s) hl hK.inv.fl.1 ?_ (fun s' hs' => ?_) 6 hs6
    · unfold resMsg; rw [hst]; simp [hh]
    · have := hno s' hs'
      unfold resMsg; rw [hst]; simp [this]
  obtain ⟨p1, hp1, hq⟩ := hq
  obtain ⟨p1', hp1', a1, _⟩ := (m0.trans m1).pen i p hp
  rw [hp1] at hp1'
  have := Option.some.inj hp1'
  subst this
  obtain ⟨p2, hp2, a2, _⟩ := (m2.trans m3).pen i p1 hp1
  refine ⟨p2, hp2, ?_⟩
  have := a2.length_le
  have : p.fenced.length + 1 ≤ p1.fenced.length := by
    rcases hq with h | h
    · omega
    · have := a1.length_le
      apply Classical.byContradiction
      intro hlt
      have := a1.eq_of_length (by omega)
      rw [← this, hh] at h
      simp at h
  omega
/-- A round, when it has decided: the first that it sends again to. -/
theorem round_first (hK : Kk (i + 1) r) (hl : liveOf r.net = []) (d : Rnd ((i : Int) + 1) r r') {p : RPen} (hp : r.pens[i]? = some p) (h4 : 4 ≤ p.fenced.length) {s1 : Nat} (hs1 : s1 < 6) (hsome : resMsg p p.stands ((i : Int) + 1) s1 ≠ none) :
    ∃ s : Nat, s < 6 ∧ ((heardIn p.status (s : Int) = false ∧ Qs i s 0 r') ∨ (heardIn p.status (s : Int) = true ∧ Qs i s (notedN p.status (s : Int) + 1) r' ∧ p.stands.base ≤ notedN p.status (s : Int) ∧ notedN p.status (s : Int) + 1 ≤ p.stands.next)) := by
  obtain ⟨p', hp', ho, hpi⟩ := hK.pen
  rw [hp] at hp'
  have := Option.some.inj hp'
  subst this
  obtain ⟨s, hs, hh, hno⟩ := least (P := fun s => resMsg p p.stands ((i : Int) + 1) s ≠ none) hsome
  have hs6 : s < 6 := by omega
  refine ⟨s, hs6, ?_⟩
  obtain ⟨r1, r2, d1, d2, d3⟩ := id d
  obtain ⟨m0, k0⟩ := hK.resend ((i : Int) + 1)
  obtain ⟨m1, k1⟩ := k0.dl d1.1
  obtain ⟨m2, k2, l2⟩ := Kk.ops k1 d1.2 d2
  obtain ⟨m3, k3, l3⟩ := Kk.ops k2 l2 d3
  cases hm : resMsg p p.stands ((i : Int) + 1) s with
  | none => exact absurd hm hh
  | some m =>
    have hin : m ∈ liveOf (r.resend ((i : Int) + 1)).1.net := by
      rw [resend_eq hK hp]
      refine first_sent (s0 := s) hl hK.inv.fl.1 hm (fun s' hs' => ?_) 6 hs6
      have := hno s' hs'
      cases hx : resMsg p p.stands ((i : Int) + 1) s' with
      | none => rfl
      | some y => exact absurd (by rw [hx]; simp) this
    have hph : ¬ p.stands.phase = 1 := by
      rcases hpi.cases with ⟨h5, _⟩ | ⟨_, h5, _⟩ | ⟨_, _, _, h5⟩ | ⟨_, _, _, h5⟩
      · rw [ho] at h5; simp at h5
      · omega
      · rw [h5]; simp
      · rw [h5]; simp
    unfold resMsg at hm
    rw [if_neg hph] at hm
    split at hm
    · rename_i hhd
      have := Option.some.inj hm
      subst this
      left
      exact ⟨hhd, (cut_leads k0 hs6 d1 ⟨_, hin, rfl, rfl, rfl⟩).mo (m2.trans m3)⟩
    · rename_i hhd
      have hhd : heardIn p.status (s : Int) = true := by simpa using hhd
      split at hm
      · rename_i hc
        have := Option.some.inj hm
        subst this
        right
        have hn0 := notedN_nonneg p.status (s : Int)
        obtain ⟨x, hx⟩ : ∃ x : Nat, notedN p.status (s : Int) = (x : Int) := ⟨(notedN p.status (s : Int)).toNat, by omega⟩
        have hr : reach p.status (x : Int) (s : Int) = true := by unfold reach; rw [hhd, hx]; simp
        obtain ⟨hQc, hQk⟩ := noted_ks hK hp hs6 hr
        have hw := write_leads k0 hs6 (n := notedN p.status (s : Int) + 1) (hQc.mo hK.len m0) d1 ⟨_, hin, rfl, rfl, rfl, rfl⟩
        have hw := hw.mo k1.len m2
        refine ⟨hhd, ?_, by omega, by omega⟩
        rw [hx] at hw ⊢
        have e1 : ((x : Int) + 1) = ((x + 1 : Nat) : Int) := by omega
        rw [e1] at hw ⊢
        refine syncs_tell k2 l2 hs6 (hQc.mo hK.len ((m0.trans m1).trans m2)) (fun j a b => ?_) d3
        by_cases hj : j = x + 1
        · subst hj; exact hw
        · exact ((hQk j a (by omega)).mo hK.len ((m0.trans m1).trans m2)).has
      · simp at hm
end
end Go.Proofs.Ytfpbkghcjaonlaa.Sim

/-
  Liveness: there are not too many rounds.
-/
namespace Go.Proofs.Ytfpbkghcjaonlaa.Sim

def sumTo (f : Nat → Nat) : Nat → Nat
  | 0 => 0
  | n + 1 => sumTo f n + f n
theorem sumTo_le {f g : Nat → Nat} : ∀ {N : Nat}, (∀ n, n < N → f n ≤ g n) → sumTo f N ≤ sumTo g N
  | 0, _ => Nat.le_refl _
  | N + 1, h => by
    have h1 := sumTo_le (f := f) (g := g) (N := N) (fun n hn => h n (by omega))
    have h2 := h N (by omega)
    simp only [sumTo]; omega
theorem sumTo_lt {f g : Nat → Nat} : ∀ {N : Nat}, (∀ n, n < N → f n ≤ g n) → ∀ {k : Nat}, k < N → f k < g k → sumTo f N + 1 ≤ sumTo g N
  | 0, _, _, h, _ => by omega
  | N + 1, h, k, hk, hlt => by
    have h2 := h N (by omega)
    simp only [sumTo]
    by_cases e : k = N
    · subst e
      have h1 := sumTo_le (f := f) (g := g) (N := k) (fun n hn => h n (by omega))
      omega
    · have h1 := sumTo_lt (f := f) (g := g) (N := N) (fun n hn => h n (by omega)) (k := k) (by omega) hlt
      omega
theorem sumTo_top {f : Nat → Nat} {c : Nat} : ∀ {N : Nat}, (∀ n, n < N → f n ≤ c) → sumTo f N ≤ c * N
  | 0, _ => by simp [sumTo]
  | N + 1, h => by
    have h1 := sumTo_top (f := f) (c := c) (N := N) (fun n hn => h n (by omega))
    have h2 := h N (by omega)
    simp only [sumTo]
    rw [Nat.mul_succ]; omega
theorem sumTo_low {f : Nat → Nat} {c k : Nat} : ∀ {N : Nat}, k ≤ N → (∀ n, n < k → c ≤ f n) → c * k ≤ sumTo f N
  | 0, hk, _ => by
    have : k = 0 := by omega
    subst this; simp
  | N + 1, hk, h => by
    simp only [sumTo]
    by_cases e : k = N + 1
    · subst e
      have h1 := sumTo_low (f := f) (c := c) (k := N) (N := N) (Nat.le_refl _) (fun n hn => h n (by omega))
      have := h N (by omega)
      rw [Nat.mul_succ]; omega
    · have h1 := sumTo_low (f := f) (c := c) (k := k) (N := N) (by omega) h
      omega
theorem sumTo_cut {f : Nat → Nat} {c k : Nat} : ∀ {N : Nat}, (∀ n, n < k → f n ≤ c) → (∀ n, k ≤ n → f n = 0) → sumTo f N ≤ c * k
  | 0, _, _ => by simp [sumTo]
  | N + 1, h1, h2 => by
    by_cases e : N < k
    · have a := sumTo_top (f := f) (c := c) (N := N + 1) (fun n hn => h1 n (by omega))
      have : c * (N + 1) ≤ c * k := Nat.mul_le_mul_left c (by omega)
      omega
    · have a := sumTo_cut (f := f) (c := c) (k := k) (N := N) h1 h2
      simp only [sumTo]
      rw [h2 N (by omega)]; omega
theorem filter_len_le {A : Type} {p q : A → Bool} : ∀ {l : List A}, (∀ a ∈ l, p a = true → q a = true) → (l.filter p).length ≤ (l.filter q).length
  | [], _ => Nat.le_refl _
  | a :: t, h => by
    have ih := filter_len_le (p := p) (q := q) (l := t) (fun x hx => h x (List.mem_cons_of_mem _ hx))
    have ha := h a List.mem_cons_self
    cases hp : p a with
    | true => rw [List.filter_cons_of_pos hp, List.filter_cons_of_pos (ha hp)]; simpa using ih
    | false =>
      rw [List.filter_cons_of_neg (by simp [hp])]
      cases hq : q a with
      | true => rw [List.filter_cons_of_pos hq]; simp; omega
      | false => rw [List.filter_cons_of_neg (by simp [hq])]; exact ih
theorem filter_len_lt {A : Type} {p q : A → Bool} : ∀ {l : List A}, (∀ a ∈ l, p a = true → q a = true) → ∀ {x : A}, x ∈ l → p x = false → q x = true → (l.filter p).length + 1 ≤ (l.filter q).length
  | [], _, _, hx, _, _ => by simp at hx
  | a :: t, h, x, hx, h1, h2 => by
    have ha := h a List.mem_cons_self
    have ht : ∀ y ∈ t, p y = true → q y = true := fun y hy => h y (List.mem_cons_of_mem _ hy)
    rcases List.mem_cons.1 hx with rfl | hx
    · have := filter_len_le ht
      rw [List.filter_cons_of_neg (by simp [h1]), List.filter_cons_of_pos h2]
      simpa using this
    · have ih := filter_len_lt ht hx h1 h2
      cases hp : p a with
      | true => rw [List.filter_cons_of_pos hp, List.filter_cons_of_pos (ha hp)]; simpa using ih
      | false =>
        rw [List.filter_cons_of_neg (by simp [hp])]
        cases hq : q a with
        | true => rw [List.filter_cons_of_pos hq]; simp; omega
        | false => rw [List.filter_cons_of_neg (by simp [hq])]; exact ih

/-- So many segments are known to be at n. -/
def cntR (st : List Msg) (n : Nat) : Nat := reachUp st (n : Int) 6
theorem cntR_le (st : List Msg) (n : Nat) : cntR st n ≤ 6 := by
  unfold cntR reachUp
  have := List.length_filter_le (fun (s : Nat) => reach st (n : Int) s) (List.range 6)
  simpa using this
theorem cntR_pre {st st' : List Msg} (h : st <+: st') (n : Nat) : cntR st n ≤ cntR st' n := filter_len_le (fun _ _ hr => reach_pre h hr)
theorem cntR_lt {st st' : List Msg} (h : st <+: st') {n s : Nat} (hs : s < 6) (h1 : reach st (n : Int) (s : Int) = false) (h2 : reach st' (n : Int) (s : Int) = true) : cntR st n + 1 ≤ cntR st' n :=
  filter_len_lt (l := List.range 6) (fun _ _ hr => reach_pre h hr) (x := s) (by simpa using hs) h1 h2
theorem cntR_all {st : List Msg} {n : Nat} (h : ∀ s : Nat, s < 6 → reach st (n : Int) (s : Int) = true) : cntR st n = 6 := by
  unfold cntR reachUp
  rw [List.filter_eq_self.2 (fun s hs => h s (by simpa using hs))]; rfl
theorem cntR_six {st : List Msg} {n : Nat} (h : 6 ≤ cntR st n) (s : Nat) (hs : s < 6) : reach st (n : Int) (s : Int) = true := by
  cases hr : reach st (n : Int) (s : Int) with
  | true => rfl
  | false =>
    have := filter_len_lt (p := fun (s : Nat) => reach st (n : Int) s) (q := fun _ => true) (l := List.range 6) (fun _ _ _ => rfl) (x := s) (by simpa using hs) hr rfl
    unfold cntR reachUp at h
    have e : ((List.range 6).filter fun _ => true).length = 6 := rfl
    rw [e] at this
    omega
theorem four_cnt (st : List Msg) (n : Nat) : fourOf st (n : Int) = decide (4 ≤ cntR st n) := rfl
theorem cntR_zero {st : List Msg} {n : Nat} (h : ∀ s : Nat, s < 6 → reach st (n : Int) (s : Int) = false) : cntR st n = 0 := by
  unfold cntR reachUp
  rw [List.filter_eq_nil_iff.2 (fun s hs => by rw [h s (by simpa using hs)]; simp)]; rfl
theorem cntR_anti (st : List Msg) {n m : Nat} (h : n ≤ m) : cntR st m ≤ cntR st n := filter_len_le (fun _ _ hr => reach_down' hr (by omega))

def mu2 (p : RPen) : Nat := p.fenced.length + cntR p.status 0 + sumTo (fun n => if 6 ≤ cntR p.status (n + 1) then 1 else 0) 40
def gg (c : Nat) : Nat := min c 1 + (min c 6 - 3)
theorem gg_mono {a b : Nat} (h : a ≤ b) : gg a ≤ gg b := by unfold gg; omega
theorem gg_lt {a b : Nat} (h : a < b) (h2 : a = 0 ∨ (a < 4 ∧ 4 ≤ b) ∨ 4 ≤ a) (hb : b ≤ 6) : gg a < gg b := by unfold gg; omega
theorem gg_le (a : Nat) : gg a ≤ 4 := by unfold gg; omega
def mu3 (st : List Msg) : Nat := sumTo (fun n => gg (cntR st n)) 41
theorem mu2_le {pens : List RPen} {wi n : Int} {p : RPen} (h : PenInv pens wi n p) : mu2 p ≤ 50 := by
  have h1 := h.f4
  have h2 := cntR_le p.status 0
  have h3 := sumTo_top (f := fun n => if 6 ≤ cntR p.status (n + 1) then 1 else 0) (c := 1) (N := 40) (fun n _ => by split <;> omega)
  unfold mu2; omega
theorem sum2_pre {st st' : List Msg} (h : st <+: st') : sumTo (fun n => if 6 ≤ cntR st (n + 1) then 1 else 0) 40 ≤ sumTo (fun n => if 6 ≤ cntR st' (n + 1) then 1 else 0) 40 :=
  sumTo_le (fun n _ => by
    have := cntR_pre h (n + 1)
    split <;> split <;> omega)

section
variable {i : Nat} {r r' : RVol}
/-- The newest writer's Base: a segment that it heard has kept all up to it. -/
theorem baseFold_mem (l : List (Int × Int)) : ∀ (ns : List (Int × List (Int × Int) × List Int)) (b : Nat), ns.foldl (baseStep l) b = b ∨ ∃ x ∈ ns, ns.foldl (baseStep l) b = reachFrom l 0 x.2.2
  | [], b => .inl rfl
  | a :: t, b => by
    rw [List.foldl_cons]
    rcases baseFold_mem l t (baseStep l b a) with h | ⟨x, hx, h⟩
    · rw [h]
      unfold baseStep
      split
      · exact .inr ⟨a, List.mem_cons_self, rfl⟩
      · exact .inl rfl
    · exact .inr ⟨x, List.mem_cons_of_mem _ hx, h⟩
theorem holder (hK : Kk (i + 1) r) {p : RPen} (hp : r.pens[i]? = some p) (h4 : p.fenced.length = 4) (hc : ∀ s : Nat, s < 6 → Qc i s r) {n : Nat} (h1 : 1 ≤ n) (hn : n ≤ baseOf p.fenced) : ∃ t : Nat, t < 6 ∧ Qk i t (n : Int) r := by
  have hpi := hK.inv.pens i p hp
  have hb := base_eq h4
  rcases baseFold_mem (bestUp p.fenced 4) (p.fenced.map note3) 0 with h | ⟨x, hx, h⟩
  · omega
  · obtain ⟨m, hm, rfl⟩ := List.mem_map.1 hx
    have hm4 := hpi.fm m hm
    obtain ⟨⟨q, hq, hqe⟩, hk2, hto⟩ := hK.saf.fnet i p hp m hm
    obtain ⟨q1, q2, _⟩ := reach_spec (bestUp p.fenced 4) m.marks
    have hreach : baseOf p.fenced = reachFrom (bestUp p.fenced 4) 0 m.marks := by rw [← hb, h]; rfl
    obtain ⟨t, ht⟩ : ∃ t : Nat, m.frm = (t : Int) := ⟨m.frm.toNat, by omega⟩
    have ht6 : t < 6 := by omega
    obtain ⟨g, hg, htp⟩ := hc t ht6
    have hgi := hK.inv.segs g (List.mem_of_getElem? hg)
    obtain ⟨pt, dt, hL⟩ := hgi.ct.dec (by omega)
    rw [htp] at dt hL
    have hpt : pt = p := dt.uniq ⟨i, rfl, hp, by omega⟩
    subst hpt
    have hnl : n - 1 < m.marks.length := by omega
    have hok := okUp_mono _ _ (show n ≤ reachFrom (bestUp pt.fenced 4) 0 m.marks by omega) q2
    have hgb : good (bestUp pt.fenced 4) (n : Int) m.marks[n - 1] = true := by
      unfold okUp at hok
      rw [List.all_eq_true] at hok
      have := hok (n - 1) (by simp; omega)
      rw [List.getD_eq_getElem?_getD, List.getElem?_eq_getElem hnl, Option.getD_some, show ((n - 1 : Nat) : Int) + 1 = (n : Int) from by omega] at this
      exact this
    have hgd : good g.cuts (n : Int) m.marks[n - 1] = true := by
      rw [hL]
      obtain ⟨⟨c, hc1, hc2⟩, hc3⟩ := good_mem hgb
      unfold decCuts
      refine good_of ⟨c, List.mem_append_left _ hc1, hc2⟩ (fun c' hc' hlt => ?_)
      rcases List.mem_append.1 hc' with h' | h'
      · exact hc3 c' h' hlt
      · rw [List.mem_singleton.1 h']
        show (n : Int) ≤ ((baseOf pt.fenced : Nat) : Int)
        omega
    have hH := hK.saf.hold q hq (by rw [hqe]; exact hk2) (by rw [hqe, hto, hK.len]; simp) g (by rw [hqe, ht, Int.toNat_natCast]; exact hg)
    rw [hqe] at hH
    have := (hH.kept (n - 1) hnl (by rw [show ((n - 1 : Nat) : Int) + 1 = (n : Int) from by omega]; exact hgd)).1
    rw [show ((n - 1 : Nat) : Int) + 1 = (n : Int) from by omega] at this
    exact ⟨t, ht6, g, hg, htp, this⟩
theorem reach_of {st : List Msg} {s : Nat} {n : Int} (hh : heardIn st (s : Int) = true) (hn : n ≤ notedN st (s : Int)) : reach st n (s : Int) = true := by
  unfold reach; rw [hh]; simpa using hn
theorem reach0 (st : List Msg) (s : Nat) : reach st ((0 : Nat) : Int) (s : Int) = heardIn st (s : Int) := by
  unfold reach
  have := notedN_nonneg st (s : Int)
  rw [show decide (((0 : Nat) : Int) ≤ notedN st (s : Int)) = true from by simp; omega, Bool.and_true]
/-- While it has appended nothing. -/
theorem prog2 (hK : Kk (i + 1) r) (hl : liveOf r.net = []) (d : Rnd ((i : Int) + 1) r r') {p : RPen} (hp : r.pens[i]? = some p) (hv : p.values = []) (hno : p.fenced.length < 4 ∨ fourOf p.status (baseOf p.fenced : Int) = false) : ∃ p', r'.pens[i]? = some p' ∧ mu2 p + 1 ≤ mu2 p' := by
  obtain ⟨mo, _, _⟩ := d.mo hK
  obtain ⟨p', hp', a1, a2, a3⟩ := mo.pen i p hp
  refine ⟨p', hp', ?_⟩
  have hpi := hK.inv.pens i p hp
  have f1 := a1.length_le
  have f2 := cntR_pre a2 0
  have f3 := sum2_pre a2
  unfold mu2
  by_cases h4 : p.fenced.length < 4
  · obtain ⟨p2, hp2, hlt⟩ := round_fence hK hl d hp h4
    rw [hp'] at hp2
    rw [← Option.some.inj hp2] at hlt
    omega
  · have h44 : p.fenced.length = 4 := by have := hpi.f4; omega
    obtain ⟨_, hpo, ho, _⟩ := hK.pen
    rw [hp] at hpo
    rw [← Option.some.inj hpo] at ho
    have hf : fourOf p.status (baseOf p.fenced : Int) = false := by
      rcases hno with h | h
      · omega
      · exact h
    have hst := stands_cut ho (by omega) hf
    by_cases hall : ∀ s : Nat, s < 6 → heardIn p.status (s : Int) = true
    · -- the least that is known of all
      have hex : ∃ n : Nat, ¬ (∀ s : Nat, s < 6 → reach p.status (n : Int) (s : Int) = true) := by
        refine ⟨baseOf p.fenced, fun h => ?_⟩
        rw [four_cnt, cntR_all h] at hf
        simp at hf
      obtain ⟨n0, hn0⟩ := hex
      obtain ⟨n, hnn, hn, hless⟩ := least (P := fun n => ¬ (∀ s : Nat, s < 6 → reach p.status ((n : Nat) : Int) (s : Int) = true)) hn0
      have hn1 : 1 ≤ n := by
        apply Classical.byContradiction
        intro h
        have : n = 0 := by omega
        subst this
        exact hn (fun s hs => by rw [reach0]; exact hall s hs)
      have hprev : ∀ s : Nat, s < 6 → reach p.status ((n - 1 : Nat) : Int) (s : Int) = true := by
        have := hless (n - 1) (by omega)
        exact Classical.byContradiction (fun h => this h)
      have hnb : n ≤ baseOf p.fenced := by
        apply Classical.byContradiction
        intro h
        have h2 : ∀ s : Nat, s < 6 → reach p.status (baseOf p.fenced : Int) (s : Int) = true := fun s hs => reach_down' (hprev s hs) (by omega)
        rw [four_cnt, cntR_all h2] at hf
        simp at hf
      have hb40 : baseOf p.fenced ≤ 40 := by have := hpi.n40; omega
      obtain ⟨t, ht, hQt⟩ := holder hK hp h44 (fun s hs => heard_c hK hp hs (hall s hs)) hn1 hnb
      have hnew : ∀ s : Nat, s < 6 → reach p'.status (n : Int) (s : Int) = true := fun s hs => by
        obtain ⟨c1, c2⟩ := noted_ks hK hp hs (hprev s hs)
        obtain ⟨p2, hp2, hr⟩ := round_up hK d hs ht hn1 c1 (fun j a b => c2 j a (by omega)) hQt
        rw [hp'] at hp2
        rw [Option.some.inj hp2]; exact hr
      have := sumTo_lt (f := fun n => if 6 ≤ cntR p.status (n + 1) then 1 else 0) (g := fun n => if 6 ≤ cntR p'.status (n + 1) then 1 else 0) (N := 40) (fun k _ => by
        have := cntR_pre a2 (k + 1)
        split <;> split <;> omega) (k := n - 1) (by omega) (by
        rw [show n - 1 + 1 = n from by omega, if_neg (fun h => hn (cntR_six h)), if_pos (by rw [cntR_all hnew]; exact Nat.le_refl _)]
        omega)
      omega
    · obtain ⟨s1, hs1⟩ := Classical.not_forall.1 hall
      obtain ⟨hs6, hh1⟩ := Classical.not_imp.1 hs1
      have hh1 : heardIn p.status (s1 : Int) = false := by simpa using hh1
      obtain ⟨s, hs, h⟩ := round_first hK hl d hp (by omega) hs6 (by
        unfold resMsg; rw [hst]; simp [hh1])
      rcases h with ⟨hh, p2, hp2, hr⟩ | ⟨_, _, hb, hx⟩
      · rw [hp'] at hp2
        rw [← Option.some.inj hp2] at hr
        have := cntR_lt a2 (n := 0) hs (by rw [reach0]; exact hh) hr
        omega
      · rw [hst] at hb hx
        simp only [hv, List.length_nil] at hb hx
        omega
/-- While it is open, and not all is durable. -/
theorem prog3 (hK : Kk (i + 1) r) (hl : liveOf r.net = []) (d : Rnd ((i : Int) + 1) r r') {p : RPen} (hp : r.pens[i]? = some p) (h4 : p.fenced.length = 4) (hf : fourOf p.status (baseOf p.fenced : Int) = true) (hno : p.stands.dur ≠ p.stands.next) : ∃ p', r'.pens[i]? = some p' ∧ mu3 p.status + 1 ≤ mu3 p'.status := by
  obtain ⟨mo, _, _⟩ := d.mo hK
  obtain ⟨p', hp', a1, a2, a3⟩ := mo.pen i p hp
  refine ⟨p', hp', ?_⟩
  have hpi := hK.inv.pens i p hp
  obtain ⟨_, hpo, ho, _⟩ := hK.pen
  rw [hp] at hpo
  rw [← Option.some.inj hpo] at ho
  have hst := stands_open ho (by omega) hf
  obtain ⟨dd, hdd⟩ : ∃ x, x = durUp p.status (baseOf p.fenced) (p.values.length + 1) := ⟨_, rfl⟩
  obtain ⟨e1, e2, e3, e4⟩ := durUp_spec p.status (baseOf p.fenced) p.values.length hf
  rw [← hdd] at e1 e2 e3 e4 hst
  have h40 := hpi.n40
  have hlt : dd < baseOf p.fenced + p.values.length := by
    rw [hst] at hno
    simp only at hno
    omega
  have hge4 : 4 ≤ cntR p.status dd := by rw [four_cnt] at e3; simpa using e3
  have hlt4 : cntR p.status (dd + 1) < 4 := by
    apply Classical.byContradiction
    intro h
    have := e4 (dd + 1) (by omega) (by omega) (by rw [four_cnt]; simp; omega)
    omega
  have up : ∀ {k : Nat}, k ≤ 40 → gg (cntR p.status k) < gg (cntR p'.status k) → mu3 p.status + 1 ≤ mu3 p'.status := fun {k} hk h =>
    sumTo_lt (f := fun n => gg (cntR p.status n)) (g := fun n => gg (cntR p'.status n)) (N := 41) (fun n _ => gg_mono (cntR_pre a2 n)) (k := k) (by omega) h
  by_cases hA : ∃ t : Nat, t < 6 ∧ Qk i t ((dd + 1 : Nat) : Int) r
  · obtain ⟨t, ht, hQt⟩ := hA
    have hall : ∀ s : Nat, s < 6 → reach p.status (dd : Int) (s : Int) = true → reach p'.status ((dd + 1 : Nat) : Int) (s : Int) = true := fun s hs hr => by
      obtain ⟨c1, c2⟩ := noted_ks hK hp hs hr
      obtain ⟨p2, hp2, hr⟩ := round_up hK d hs ht (by omega) c1 (fun j a b => c2 j a (by omega)) hQt
      rw [hp'] at hp2
      rw [Option.some.inj hp2]; exact hr
    have h1 : cntR p.status dd ≤ cntR p'.status (dd + 1) := filter_len_le (fun s hs hr => hall s (by simpa using hs) hr)
    exact up (k := dd + 1) (by omega) (gg_lt (by omega) (.inr (.inl ⟨hlt4, by omega⟩)) (cntR_le _ _))
  · have hno1 : ∀ s : Nat, s < 6 → reach p.status ((dd + 1 : Nat) : Int) (s : Int) = false := fun s hs => by
      cases hr : reach p.status ((dd + 1 : Nat) : Int) (s : Int) with
      | false => rfl
      | true => exact absurd ⟨s, hs, noted_k hK hp hs hr (by omega)⟩ hA
    obtain ⟨s1, hs1, hr1⟩ : ∃ s : Nat, s < 6 ∧ reach p.status (dd : Int) (s : Int) = true := by
      apply Classical.byContradiction
      intro h
      have := cntR_zero (st := p.status) (n := dd) (fun s hs => by
        cases hr : reach p.status (dd : Int) (s : Int) with
        | false => rfl
        | true => exact absurd ⟨s, hs, hr⟩ h)
      omega
    have hb1 : heardIn p.status (s1 : Int) = true ∧ (dd : Int) ≤ notedN p.status (s1 : Int) := by
      unfold reach at hr1
      rw [Bool.and_eq_true] at hr1
      exact ⟨hr1.1, by simpa using hr1.2⟩
    have hno2 : ∀ s : Nat, s < 6 → heardIn p.status (s : Int) = true → notedN p.status (s : Int) ≤ (dd : Int) := fun s hs hh => by
      apply Classical.byContradiction
      intro h
      have := hno1 s hs
      rw [reach_of hh (by omega)] at this
      simp at this
    have hsome : resMsg p p.stands ((i : Int) + 1) s1 ≠ none := by
      have := hno2 s1 hs1 hb1.1
      have hnn : notedN p.status (s1 : Int) = (dd : Int) := by omega
      unfold resMsg
      rw [hst]
      simp only
      rw [if_neg (by omega), if_neg (by rw [hb1.1]; simp), if_pos (by rw [hnn]; omega)]
      simp
    obtain ⟨s, hs, h⟩ := round_first hK hl d hp (by omega) hs1 hsome
    rcases h with ⟨hh, p2, hp2, hr⟩ | ⟨hh, ⟨p2, hp2, hr⟩, hb, hx⟩
    · rw [hp'] at hp2
      rw [← Option.some.inj hp2] at hr
      have h1 := cntR_lt a2 (n := 0) hs (by rw [reach0]; exact hh) hr
      have h2 := cntR_anti p.status (Nat.zero_le dd)
      exact up (k := 0) (by omega) (gg_lt (by omega) (.inr (.inr (by omega))) (cntR_le _ _))
    · rw [hp'] at hp2
      rw [← Option.some.inj hp2] at hr
      have hn0 := notedN_nonneg p.status (s : Int)
      have hnd := hno2 s hs hh
      obtain ⟨x, hxe⟩ : ∃ x : Nat, notedN p.status (s : Int) = (x : Int) := ⟨(notedN p.status (s : Int)).toNat, by omega⟩
      rw [hxe] at hr hnd
      rw [show ((x : Int) + 1) = ((x + 1 : Nat) : Int) from by omega] at hr
      have hnr : reach p.status ((x + 1 : Nat) : Int) (s : Int) = false := by
        unfold reach
        rw [hxe]
        rw [show decide (((x + 1 : Nat) : Int) ≤ (x : Int)) = false from by simp; omega, Bool.and_false]
      have h1 := cntR_lt a2 hs hnr hr
      by_cases hxd : x = dd
      · subst hxd
        have h0 := cntR_zero hno1
        exact up (k := x + 1) (by omega) (gg_lt (by omega) (.inl h0) (cntR_le _ _))
      · have h2 := cntR_anti p.status (show x + 1 ≤ dd by omega)
        exact up (k := x + 1) (by omega) (gg_lt (by omega) (.inr (.inr (by omega))) (cntR_le _ _))
theorem mu3_top {pens : List RPen} {wi n : Int} {p : RPen} (h : PenInv pens wi n p) : mu3 p.status ≤ 4 * (baseOf p.fenced + p.values.length + 1) := by
  refine sumTo_cut (f := fun n => gg (cntR p.status n)) (fun n _ => gg_le _) (fun k hk => ?_)
  have : cntR p.status k = 0 := cntR_zero (fun s hs => by
    have h1 := notedN_le p.status (s : Int) ((baseOf p.fenced : Int) + (p.values.length : Int)) (by omega) (fun m hm => (h.sm m hm).2.1)
    unfold reach
    rw [show decide ((k : Int) ≤ notedN p.status (s : Int)) = false from by simp; omega, Bool.and_false])
  simp only [this]; rfl
theorem mu3_low {st : List Msg} {d : Nat} (h : fourOf st (d : Int) = true) (h40 : d ≤ 40) : 2 * (d + 1) ≤ mu3 st := by
  refine sumTo_low (f := fun n => gg (cntR st n)) (by omega) (fun n hn => ?_)
  have h1 : 4 ≤ cntR st d := by rw [four_cnt] at h; simpa using h
  have h2 := cntR_anti st (show n ≤ d by omega)
  have := gg_mono (show 4 ≤ cntR st n by omega)
  exact Nat.le_trans (by decide) this
end
end Go.Proofs.Ytfpbkghcjaonlaa.Sim

/-
  sixfoldlaw's player: drain.
-/
namespace Go.Proofs.Ytfpbkghcjaonlaa.Sim
open Go.RowKit

set_option maxRecDepth 3000 in
set_option maxHeartbeats 4000000 in
theorem pl_drain {k : Nat → Nat} {w : World} {b px : Nat} {P : PSt} (h : Pl k w b px P) :
    Calls Try.prog 40 #[.pointer (some ⟨b, 0, none⟩)] w fun e w' => e = .returned (.bool true) ∧ ∃ r' k', Dr P.r r' ∧ Evo k k' cPS w w' ∧ Pl k' w' b px (P.vol r') := by
  have H0 := hide (ASt.start h)
  have HI := hide (phi_le h.2.inv)
  clear h
  go_enter Try.func40, Try.ntmps40
  go_wp2_with fail
  go_loopw [3] (fun v wr => ∃ j : Nat, j ≤ 3000 ∧ v = .int .i64 j ∧ ∃ r', Hid (ASt k w wr b px (P.vol r') [] ∧ Dl P.r r' ∧ phi r' + j ≤ phi P.r)) (fun v _ => 3000 - (intOf v).toNat)
  case atStart => exact ⟨0, by omega, rfl, P.r, hide ⟨H0.out, .nil _, Nat.le_refl _⟩⟩
  case round =>
    obtain ⟨j, hj, rfl, r', hst⟩ := hrel
    obtain ⟨z0, hbl⟩ := hst.out.1.ptr
    have hlt : j < 3000 := by have := HI.out; have := hst.out.2.2; omega
    have hd : decide ((j : Int) < 3000) = true := by simp; omega
    have HF : Hid (Calls Try.prog 55 #[.pointer (some ⟨px, 0, none⟩)] wr fun e w' => e = .returned (.int .i64 (flightOf r'.net)) ∧ w' = wr) := hide hst.out.1.flight
    have hw : IntKind.i64.wrap ((j : Int) + 1) = ((j + 1 : Nat) : Int) := by rw [IntKind.wrap_i64] <;> omega
    by_cases hn : flightOf r'.net = 0
    · rw [hn] at HF
      have HR : Hid (Dr P.r r') := hide ⟨hst.out.2.1, List.length_eq_zero_iff.1 (by rw [liveOf_len]; exact hn)⟩
      clear hn
      go_wp2_with fail
      refine HF.out.mono ?_
      rintro e2 w2 ⟨rfl, hw2⟩
      subst hw2
      go_wp2_with fail
      go_ret
      obtain ⟨k', ev, hp, _⟩ := hst.out.1
      exact ⟨rfl, r', k', HR.out, ev, hp⟩
    · have hne : liveOf r'.net ≠ [] := fun e => hn (by rw [← liveOf_len, e]; rfl)
      obtain ⟨q1, q2⟩ := phi_deliver hst.out.1.inv.inv hne
      have HD : Hid (Calls Try.prog 56 #[.pointer (some ⟨px, 0, none⟩), .int .i64 0] wr fun e w' => e = .returned (.int .i64 0) ∧ ASt k w w' b px (P.vol (r'.deliver 0).1) []) := hide (by
        have := hst.out.1.vol (fun k' W hW => pl_deliver hW 0)
        have e : ((P.vol r').r.deliver 0).2 = 0 := q2
        rw [e] at this
        exact this)
      have HN : Hid (Dl P.r (r'.deliver 0).1 ∧ phi (r'.deliver 0).1 + (j + 1) ≤ phi P.r) := hide ⟨hst.out.2.1.snoc hne, by
        have := hst.out.2.2
        have q1 : phi (r'.deliver 0).1 + 1 ≤ phi r' := q1
        omega⟩
      have dn : ((flightOf r'.net : Int) == 0) = false := by simpa using hn
      generalize flightOf r'.net = f at *
      clear q1 q2 hne hn hst
      go_wp2_with fail
      refine HF.out.mono ?_
      rintro e2 w2 ⟨rfl, hw2⟩
      subst hw2
      go_wp2_with fail
      refine HD.out.mono ?_
      rintro e3 w3 ⟨rfl, h3⟩
      have H3 := hide h3
      clear h3
      go_wp2_with fail
      go_roundw
      case rel => exact ⟨j + 1, by omega, by go_num, _, hide ⟨H3.out, HN.out.1, HN.out.2⟩⟩
      case measure => simp [intOf]; omega
theorem ASt.drain {k : Nat → Nat} {w wr : World} {b px : Nat} {P : PSt} {X : List (Nat × Nat × List Value)} (h : ASt k w wr b px P X) :
    Calls Try.prog 40 #[.pointer (some ⟨b, 0, none⟩)] wr fun e w' => e = .returned (.bool true) ∧ ∃ r', Dr P.r r' ∧ ASt k w w' b px (P.vol r') X := by
  refine (h.call (Q := fun e P' => e = .returned (.bool true) ∧ ∃ r', Dr P.r r' ∧ P' = P.vol r') (fun _ _ hW => (pl_drain hW).mono (fun _ _ ⟨e1, r', k2, e2, e3, e4⟩ => ⟨P.vol r', k2, ⟨e1, r', e2, rfl⟩, e3, e4⟩))).mono ?_
  rintro e w' ⟨P', ⟨e1, r', e2, rfl⟩, h2⟩
  exact ⟨e1, r', e2, h2⟩
end Go.Proofs.Ytfpbkghcjaonlaa.Sim
