import Derived.Test.YtfpbkghcjaonlaaJ13
/-
  Safety: every call keeps it; every writer goes on.
-/
namespace Go.Proofs.Ytfpbkghcjaonlaa.Sim

theorem sclUp_ge (l : List Ent) : ∀ f n, n ≤ sclUp l f n
  | 0, n => Nat.le_refl _
  | f + 1, n => by
    simp only [sclUp]
    split
    · have := sclUp_ge l f (n + 1); omega
    · exact Nat.le_refl _
theorem sclUp_more (l : List Ent) (N : Nat) (h : ∀ i : Nat, 1 ≤ i → i ≤ N → (keptAt l (i : Int)).isSome = true) : ∀ f n, N ≤ n + f → N ≤ sclUp l f n
  | 0, n, hn => by simp only [sclUp]; omega
  | f + 1, n, hn => by
    by_cases hN : N ≤ n
    · exact Nat.le_trans hN (sclUp_ge l _ n)
    · simp only [sclUp]
      have := h (n + 1) (by omega) (by omega)
      rw [if_pos (by simpa using this)]
      exact sclUp_more l N h f (n + 1) (by omega)
theorem scl_ge {l : List Ent} {N : Nat} (h : ∀ i : Nat, 1 ≤ i → i ≤ N → (plOf l (i : Int)).1 = 2) : N ≤ sclOf l := by
  have hk : ∀ i : Nat, 1 ≤ i → i ≤ N → (keptAt l (i : Int)).isSome = true := fun i h1 h2 => by rw [keptAt_pl, h i h1 h2]; rfl
  exact sclUp_more l N hk l.length 0 (by have := kept_bound hk; omega)
theorem scl_pl (g : RSeg) (h : EntsOk g.entries) (i : Nat) (h1 : 1 ≤ i) (hi : i ≤ sclOf g.entries) : (plOf g.entries (i : Int)).1 = 2 := by
  obtain ⟨e, he⟩ := scl_kept g h i h1 hi
  rw [(keptAt_eq he).2.1]
theorem scl_mono {g : RSeg} (h : EntsOk g.entries) {l : List Ent} (hl : ∀ n : Int, (plOf g.entries n).1 = 2 → (plOf l n).1 = 2) : sclOf g.entries ≤ sclOf l :=
  scl_ge (fun i h1 h2 => hl _ (scl_pl g h i h1 h2))

theorem Told.same {pens : List RPen} {m : Msg} {g g' : RSeg} (t : Told pens m g) (hc : g'.cuts = g.cuts) (hs : sclOf g.entries ≤ sclOf g'.entries) : Told pens m g' :=
  ⟨by rw [hc]; exact t.top, fun n hn hx => Nat.le_trans (t.scl n hn (by rw [hc] at hx; exact hx)) hs⟩

theorem come_scl {g : RSeg} (h : EntsOk g.entries) (x : Int × Int × Int) : sclOf g.entries ≤ sclOf (comeTo g.entries x) := by
  refine scl_mono h (fun n hn => ?_)
  obtain ⟨a, b, c⟩ := x
  rw [come_pl]
  split
  · rename_i hc
    rw [hc.1] at hn
    rw [hc.2] at hn
    simp at hn
  · exact hn
theorem sync_scl {g : RSeg} (h : EntsOk g.entries) : sclOf g.entries ≤ sclOf (g.entries.map syncE) := by
  refine scl_mono h (fun n hn => ?_)
  rw [sync_pl h]; unfold syncAt; rw [if_neg (by rw [hn]; decide)]; exact hn
theorem crash_scl {g : RSeg} (h : EntsOk g.entries) : sclOf g.entries ≤ sclOf (g.entries.map crashE) := by
  refine scl_mono h (fun n hn => ?_)
  rw [crash_pl h]; unfold crashAt; rw [if_neg (by rw [hn]; decide)]; exact hn

theorem Told.afterCut {r : RVol} (h : Inv r) {m : Msg} {g : RSeg} (hg : SegInv r.pens g) (hm : MsgInv r.pens m) (hk : m.kind = 4) (t : Told r.pens m g) {c : Msg} {pc : RPen} (dc : Dec r.pens c.epoch pc) (hc : c.cuts = decCuts pc.fenced c.epoch) (he : g.epoch ≤ c.epoch) : Told r.pens m (g.afterCut c) := by
  unfold RSeg.afterCut
  by_cases h0 : topOf g.cuts = c.epoch
  · rw [if_pos h0]
    exact t.same rfl (Nat.le_refl _)
  · rw [if_neg h0]
    have htop := hg.top
    have ht1 := t.top
    have htc : topOf c.cuts = c.epoch := by rw [hc, topOf_dec]
    obtain ⟨_, p, d, _⟩ := hm.k4 hk
    have hpos := d.pos
    refine ⟨by rw [cutBy_cuts, htc]; omega, fun n hn hx => ?_⟩
    rw [cutBy_cuts, htc] at hx
    have hs := t.scl n hn (hx.less (by omega))
    obtain ⟨p1, q1, dp1, dq1, hx1, hx2⟩ := hx c.epoch pc dc (by omega) (Int.le_refl _)
    rw [dp1.uniq d, dq1.uniq dc] at hx1
    rw [dq1.uniq dc] at hx2
    refine scl_ge (fun i h1 h2 => ?_)
    obtain ⟨e, hke⟩ := scl_kept g hg.ents i h1 (by omega)
    obtain ⟨hl, hpl, hmem, hgo, _⟩ := keptAt_eq hke
    obtain ⟨hr, hgd⟩ := hg.recs e hmem hgo
    rw [hl] at hr hgd
    obtain ⟨pt, dt, hL⟩ := hg.ct.dec (by omega)
    rw [hL] at hgd
    have hge : good (decCuts p.fenced m.to_) (i : Int) e.epoch = true := by
      by_cases het : topOf g.cuts = m.to_
      · rw [het] at hgd dt
        rw [dt.uniq d] at hgd
        exact hgd
      · obtain ⟨p2, q2, dp2, dq2, hy1, hy2⟩ := hx _ pt dt (by omega) (by omega)
        rw [dp2.uniq d, dq2.uniq dt] at hy1
        rw [dq2.uniq dt] at hy2
        exact good_down h dt hy1 hy2 (by omega) hgd hr
    have hgc := good_up h dc hx1 hx2 (i := (i : Int)) (by omega) hge
    rw [← hc] at hgc
    show (plOf (g.entries.map (siftBy c.cuts)) (i : Int)).1 = 2
    have := sift_pl hg.ents c.cuts (i - 1)
    rw [show ((i - 1 : Nat) : Int) + 1 = (i : Int) from by omega] at this
    rw [this, hpl]
    unfold forgetAt
    rw [show ((i - 1 : Nat) : Int) + 1 = (i : Int) from by omega, if_pos hgc]

theorem Hold.same {m : Msg} {g g' : RSeg} (t : Hold m g) (hc : g'.cuts = g.cuts) (hs : ∀ n : Int, (plOf g.entries n).1 = 2 → plOf g'.entries n = plOf g.entries n) : Hold m g' :=
  ⟨by rw [hc]; exact t.cuts, fun i hi hg => by
    rw [hc] at hg
    have := t.kept i hi hg
    rw [hs _ this.1]; exact this⟩
theorem come_same (l : List Ent) (x : Int × Int × Int) (n : Int) (hn : (plOf l n).1 = 2) : plOf (comeTo l x) n = plOf l n := by
  obtain ⟨a, b, c⟩ := x
  rw [come_pl]
  split
  · rename_i hc
    rw [hc.1] at hn
    rw [hc.2] at hn
    simp at hn
  · rfl
theorem Hold.afterCut {pens : List RPen} {m : Msg} {g : RSeg} (hg : SegInv pens g) (hm : MarksOk pens m) (t : Hold m g) {c : Msg} (htc : topOf c.cuts = c.epoch) (he : m.to_ = c.epoch) : Hold m (g.afterCut c) := by
  unfold RSeg.afterCut
  by_cases h0 : topOf g.cuts = c.epoch
  · rw [if_pos h0]
    exact t.same rfl (fun _ _ => rfl)
  · rw [if_neg h0]
    refine ⟨.inr (by rw [cutBy_cuts, htc, he]), fun i hi hgd => ?_⟩
    rw [cutBy_cuts] at hgd
    have hgc : g.cuts = m.cuts := by
      rcases t.cuts with h | h
      · exact h
      · exact absurd (h.trans he) h0
    have := t.kept i hi (by rw [hgc]; exact (hm i hi).1)
    have hs := sift_pl hg.ents c.cuts i
    show (plOf (g.entries.map (siftBy c.cuts)) ((i : Int) + 1)).1 = 2 ∧ (plOf (g.entries.map (siftBy c.cuts)) ((i : Int) + 1)).2.1 = m.marks[i]
    rw [hs]
    unfold forgetAt
    rw [this.2, if_pos hgd]
    exact this
theorem marks_get (g : RSeg) (i : Nat) (h : i < (marksOf g.entries).length) : (marksOf g.entries)[i] = epochAt g.entries ((i : Int) + 1) := by
  have e : marksOf g.entries = (List.range (sclOf g.entries)).map fun (i : Nat) => epochAt g.entries ((i : Int) + 1) := rfl
  have : (marksOf g.entries)[i]? = some (epochAt g.entries ((i : Int) + 1)) := by
    rw [marksOf_len] at h
    rw [e, List.getElem?_map, List.getElem?_range h]; rfl
  rw [List.getElem?_eq_getElem h] at this
  exact Option.some.inj this
theorem fenced_marks {pens : List RPen} {g : RSeg} (hg : SegInv pens g) (m : Msg) : MarksOk pens (fencedMsg m g) := by
  intro i hi
  show good g.cuts _ (marksOf g.entries)[i] = true ∧ _
  have hi' : i < (marksOf g.entries).length := hi
  show good g.cuts _ (marksOf g.entries)[i] = true ∧ ∃ v, RecInv pens (marksOf g.entries)[i] _ v
  rw [marks_get g i hi']
  rw [marksOf_len] at hi'
  obtain ⟨e, he⟩ := scl_kept g hg.ents (i + 1) (by omega) (by omega)
  obtain ⟨hl, _, hmem, hgo, _⟩ := keptAt_eq he
  obtain ⟨hr, hgd⟩ := hg.recs e hmem hgo
  have e1 : epochAt g.entries ((i : Int) + 1) = e.epoch := by unfold epochAt; rw [show ((i : Int) + 1) = ((i + 1 : Nat) : Int) by omega, he]; rfl
  rw [e1, show ((i : Int) + 1) = e.lsn by rw [hl]; omega]
  exact ⟨hgd, _, hr⟩

theorem get_set {r : RVol} {i : Nat} {g g' : RSeg} (hi : r.segs[i]? = some g) : (r.setSeg i g').segs[i]? = some g' := by
  simp only [RVol.setSeg]; exact List.getElem?_set_self (List.getElem?_eq_some_iff.1 hi).1
/-- A segment tells its writer how far it is. -/
theorem MSaf.status {r : RVol} {s : Nat} {g : RSeg} (sf : Saf r) (hi : r.segs[s]? = some g) (ht : topOf g.cuts = g.epoch) : MSaf r (statusMsg s g) := by
  refine ⟨fun _ => ⟨fun g' hg' => ?_, fun q hq hk e1 e2 => ?_⟩, fun hk => by simp [statusMsg] at hk, fun hk => by simp [statusMsg] at hk, fun hk => by simp [statusMsg] at hk⟩
  · have hg' : r.segs[((s : Int)).toNat]? = some g' := hg'
    rw [Int.toNat_natCast, hi] at hg'
    have := Option.some.inj hg'
    subst this
    exact ⟨by rw [ht]; exact Int.le_refl _, fun n hn _ => by simp only [statusMsg] at hn; omega⟩
  · have e1 : (s : Int) = q.1.frm := e1
    have e2 : g.epoch < q.1.to_ := e2
    have := sf.f0 q hq hk g (by rw [← e1, Int.toNat_natCast]; exact hi)
    omega

theorem goes_sHears {r : RVol} (h : Inv r) (sf : Saf r) (m : Msg) (hm : MsgInv r.pens m) (hk : ¬ (m.kind = 2 ∨ m.kind = 4 ∨ m.kind = 5)) (g : RSeg) (hi : r.segs[m.to_.toNat]? = some g) (hup : g.up = true) : Goes r (r.sHears m) := by
  have hgm := List.mem_of_getElem? hi
  have hg := h.segs g hgm
  have hgp := sf.ep g hgm
  have ht := hm.to_
  unfold MsgTo at ht
  rw [if_neg hk] at ht
  have hkr := hm.kr
  unfold RVol.sHears
  rw [hi]
  simp only
  have come : ∀ e : Int, Goes r (r.setSeg m.to_.toNat (g.coming m)) := fun _ => by
    refine Goes.setSeg sf h hi (Int.le_refl _) hgp.2 (fun hu => ?_) (fun x _ _ t => t.same rfl (come_scl hg.ents _)) (fun x _ _ _ _ _ t => t.same rfl (come_same _ _))
    have hu : g.up = false := hu
    rw [hup] at hu; simp at hu
  by_cases k7 : m.kind = 7
  · rw [if_pos k7]
    cases keptAt g.entries m.lsn with
    | none => exact Goes.refl sf
    | some e => exact Goes.send sf (MSaf.other (by simp [fillMsg]) (by simp [fillMsg]) (by simp [fillMsg]))
  · rw [if_neg k7]
    by_cases k8 : m.kind = 8
    · rw [if_pos k8]
      split
      · exact come 0
      · exact Goes.refl sf
    · rw [if_neg k8]
      have hk136 : m.kind = 1 ∨ m.kind = 3 ∨ m.kind = 6 := by omega
      have hw := hm.wr hk136
      by_cases hlt : m.epoch < g.epoch
      · rw [if_pos hlt]
        exact Goes.send sf ⟨fun h4 => by simp [refusedMsg] at h4, fun h4 => by simp [refusedMsg] at h4, fun h4 => by simp [refusedMsg] at h4, fun _ => by show m.frm < _; omega⟩
      · rw [if_neg hlt]
        by_cases k1 : m.kind = 1
        · rw [if_pos k1]
          have hee : (g.epochUp m.epoch).epoch = m.epoch := epochUp_epoch _ _
          have G := Goes.setSeg sf h hi (g' := g.epochUp m.epoch) (by rw [hee]; omega) (by rw [hee]; omega) (fun hu => by
            have hu : g.up = false := hu
            rw [hup] at hu; simp at hu) (fun x _ _ t => t.same rfl (Nat.le_refl _)) (fun x _ _ _ _ _ t => t.same rfl (fun _ _ => rfl))
          refine G.trans (Goes.send G.saf ⟨fun hk4 => by simp [fencedMsg] at hk4, fun _ => ⟨fun g' hg' => ?_, fenced_marks hg m, fun q hq hk4 e1 e2 => ?_⟩, fun _ _ g' hg' => ?_, fun h5 => by simp [fencedMsg] at h5⟩)
          · have hg' : (r.setSeg m.to_.toNat (g.epochUp m.epoch)).segs[m.to_.toNat]? = some g' := hg'
            rw [get_set hi] at hg'
            rw [← Option.some.inj hg', hee]
            show m.frm ≤ m.epoch
            omega
          · have e1 : q.1.frm = m.to_ := e1
            have ht := sf.told q hq hk4 g (by rw [e1]; exact hi)
            refine ⟨ht.top, fun n hn hx => ?_⟩
            have := ht.scl n hn hx
            show n ≤ (marksOf g.entries).length
            rw [marksOf_len]; exact this
          · have hg' : (r.setSeg m.to_.toNat (g.epochUp m.epoch)).segs[m.to_.toNat]? = some g' := hg'
            rw [get_set hi] at hg'
            rw [← Option.some.inj hg']
            refine ⟨.inl rfl, fun i hil _ => ?_⟩
            have hil' : i < (marksOf g.entries).length := hil
            show (plOf g.entries ((i : Int) + 1)).1 = 2 ∧ (plOf g.entries ((i : Int) + 1)).2.1 = (marksOf g.entries)[i]
            rw [marks_get g i hil']
            rw [marksOf_len] at hil'
            obtain ⟨e, he⟩ := scl_kept g hg.ents (i + 1) (by omega) (by omega)
            rw [show ((i : Int) + 1) = ((i + 1 : Nat) : Int) by omega]
            rw [(keptAt_eq he).2.1]
            refine ⟨rfl, ?_⟩
            unfold epochAt
            rw [he]; rfl
        · rw [if_neg k1]
          by_cases k3 : m.kind = 3
          · rw [if_pos k3]
            obtain ⟨p, d, hc⟩ := hm.k3 k3
            have htop : topOf m.cuts = m.epoch := by rw [hc, topOf_dec]
            obtain ⟨hi', ht', he'⟩ := hg.afterCut m (by omega) hm.ct htop
            have G := Goes.setSeg sf h hi (g' := g.afterCut m) (by rw [he']; omega) (by rw [he']; omega) (fun hu => by
              have hu : (g.afterCut m).up = false := hu
              have : (g.afterCut m).up = g.up := by unfold RSeg.afterCut; split <;> rfl
              rw [this, hup] at hu; simp at hu) (fun x hx hx4 t => t.afterCut h hg hx hx4 d hc (by omega)) (fun x _ _ hl hf hmk t => t.afterCut hg hmk htop (by omega))
            exact G.trans (Goes.send G.saf (MSaf.status G.saf (get_set hi) (by rw [ht', he'])))
          · rw [if_neg k3]
            by_cases hc : m.epoch = g.epoch ∧ topOf g.cuts = g.epoch
            · rw [if_pos hc]
              cases keptAt g.entries m.lsn with
              | some e => exact Goes.send sf (MSaf.status sf hi hc.2)
              | none => exact come 0
            · rw [if_neg hc]; exact Goes.refl sf

theorem ended_go {pens : List RPen} {wi n : Int} {p : RPen} (h : PenInv pens wi n p) : WGo p.stands p.ended.stands := by
  obtain ⟨a0, a1, a2, a3⟩ := ended_a p (fun ho => (h.ov ho).1)
  rw [stands_over (ended_over p), a0, a1, a2, a3]
  refine ⟨?_, Int.le_refl _, Int.le_refl _, Int.le_refl _, fun _ => rfl⟩
  simp only
  rcases h.cases with ⟨_, h5⟩ | ⟨_, _, h5⟩ | ⟨_, _, _, h5⟩ | ⟨_, _, _, h5⟩ <;> rw [h5] <;> (try simp only) <;> omega
theorem ended_ov {pens : List RPen} {wi n : Int} {p : RPen} (h : PenInv pens wi n p) (ho : OvInv p) : OvInv p.ended := by
  obtain ⟨s1, s2, s3⟩ := ended_same p
  obtain ⟨a0, a1, a2, a3⟩ := ended_a p (fun ho => (h.ov ho).1)
  rcases h.cases with ⟨h5, _⟩ | ⟨h5, h6, h7⟩ | ⟨h5, h6, h8, h7⟩ | ⟨h5, h6, h8, h7⟩
  · have : p.ended = p := by unfold RPen.ended; rw [h5]; rfl
    rw [this]; exact ho
  · exact ⟨fun _ _ => by rw [a1, a2, a3, h7]; exact ⟨rfl, rfl, rfl⟩, fun _ h4 => by rw [s1] at h4; omega⟩
  · exact ⟨fun _ h4 => by rw [s1] at h4; omega, fun _ _ => by rw [a1, a2, a3, h7, s1, s3]; exact ⟨rfl, rfl, .inl rfl⟩⟩
  · refine ⟨fun _ h4 => by rw [s1] at h4; omega, fun _ _ => ?_⟩
    rw [a1, a2, a3, h7, s1, s2, s3]
    have := durUp_spec p.status (baseOf p.fenced) p.values.length h8
    exact ⟨rfl, rfl, .inr ⟨by simp only; omega, by simp only; omega, this.2.2.1⟩⟩
theorem goes_ends {r : RVol} (h : Inv r) (sf : Saf r) {i : Nat} {p : RPen} (hp : r.pens[i]? = some p) (hlt : i + 1 < r.pens.length) : Goes r (r.setPen i p.ended) := by
  obtain ⟨s1, s2, s3⟩ := ended_same p
  have hpi := h.pens i p hp
  refine Goes.setPen sf h hp (fun _ => s1) s3 ?_ ?_ ?_ (ended_ov hpi (sf.ov p (List.mem_of_getElem? hp))) (fun _ => .inr hlt) (ended_go hpi)
  · rw [s1]; exact sf.fdis i p hp
  · rw [s1]; exact sf.fnet i p hp
  · rw [s2]; exact sf.snet i p hp

theorem dis_snoc {f : List Msg} {m : Msg} (h : f.Pairwise (fun a b => a.frm ≠ b.frm)) (hh : heardIn f m.frm = false) : (f ++ [m]).Pairwise (fun a b => a.frm ≠ b.frm) := by
  rw [List.pairwise_append]
  refine ⟨h, List.pairwise_singleton _ _, fun a ha b hb => ?_⟩
  rw [List.mem_singleton.1 hb]
  intro he
  unfold heardIn at hh
  rw [List.any_eq_false] at hh
  exact hh a ha (by simp [he])

theorem goes_wHears {r : RVol} (h : Inv r) (sf : Saf r) (m : Msg) (hm : MsgInv r.pens m) (hin : ∃ q ∈ r.net, q.1 = m) (hk : m.kind = 2 ∨ m.kind = 4 ∨ m.kind = 5) : Goes r (r.wHears m) := by
  have ht := hm.to_
  unfold MsgTo at ht
  rw [if_pos hk] at ht
  have hfr := hm.fr (by omega)
  obtain ⟨i, hi⟩ : ∃ i : Nat, m.to_ = (i : Int) + 1 := ⟨(m.to_ - 1).toNat, by omega⟩
  have et : m.to_.toNat - 1 = i := by omega
  have hil : i < r.pens.length := by omega
  obtain ⟨p, hp⟩ : ∃ p, r.pens[i]? = some p := ⟨r.pens[i], List.getElem?_eq_getElem hil⟩
  have hpi := h.pens i p hp
  have hpo := sf.ov p (List.mem_of_getElem? hp)
  unfold RVol.wHears
  rw [et, hp]
  simp only
  rcases hk with k | k | k
  · rw [if_neg (show ¬ m.kind = 5 by omega), if_neg (show ¬ (m.kind = 4 ∧ (p.stands.phase = 2 ∨ p.stands.phase = 3)) by omega)]
    by_cases hp1 : p.stands.phase = 1
    · rw [if_pos ⟨k, hp1⟩]
      have hcase : p.over = false ∧ p.fenced.length < 4 := by
        rcases hpi.cases with ⟨_, h5⟩ | ⟨ho, h4, h5⟩ | ⟨_, _, _, h5⟩ | ⟨_, _, _, h5⟩
        · rw [hp1] at h5; simp at h5
        · exact ⟨ho, h4⟩
        · rw [h5] at hp1; simp at hp1
        · rw [h5] at hp1; simp at hp1
      obtain ⟨ho, h4⟩ := hcase
      obtain ⟨hst, hvl⟩ := hpi.few h4
      unfold RVol.heard
      cases hh : heardIn p.fenced m.frm with
      | true => simp only [if_true]; exact Goes.refl sf
      | false =>
        simp only [Bool.false_eq_true, if_false]
        have hle : 4 ≤ p.fenced.length → ({ p with fenced := p.fenced ++ [m] } : RPen).fenced = p.fenced := fun h' => by omega
        have G : Goes r (r.setPen i { p with fenced := p.fenced ++ [m] }) := by
          refine Goes.setPen sf h hp hle rfl (dis_snoc (sf.fdis i p hp) hh) (fun x hx => ?_) (sf.snet i p hp) ⟨fun hov => by rw [ho] at hov; simp at hov, fun hov => by rw [ho] at hov; simp at hov⟩ (fun hov => .inl hov) ?_
          · rcases List.mem_append.1 hx with hx | hx
            · exact sf.fnet i p hp x hx
            · rw [List.mem_singleton.1 hx]; exact ⟨hin, k, hi⟩
          · rw [stands_few ho h4]
            by_cases h3 : p.fenced.length + 1 = 4
            · rw [stands_cut (p := { p with fenced := p.fenced ++ [m] }) ho (by simp; omega) (by simp only [hst]; exact four_nil _)]
              exact ⟨by simp, by simp, by simp only; omega, by simp, fun h2 => by simp at h2⟩
            · rw [stands_few (p := { p with fenced := p.fenced ++ [m] }) ho (by simp; omega)]
              exact WGo.refl _
        by_cases h3 : p.fenced.length + 1 = 4
        · rw [if_pos h3]
          exact G.trans (Goes.sendUp G.saf _ 6 (fun _ => ⟨by simp [cutMsg], by simp [cutMsg], by simp [cutMsg]⟩))
        · rw [if_neg h3]; exact G
    · rw [if_neg (fun h' => hp1 h'.2)]; exact Goes.refl sf
  · rw [if_neg (show ¬ m.kind = 5 by omega)]
    obtain ⟨hs0, q, ⟨j, hj, hjq, h4⟩, hs1⟩ := hm.k4 k
    have hji : j = i := by omega
    subst hji
    rw [hp] at hjq
    have := Option.some.inj hjq
    subst this
    by_cases ho : p.over = true
    · have hp4 : p.stands.phase = 4 := by rw [stands_over ho]; exact (hpi.ov ho).1
      rw [if_neg (by rw [hp4]; simp), if_neg (by omega)]; exact Goes.refl sf
    · have ho' : p.over = false := by simpa using ho
      have hp23 : p.stands.phase = 2 ∨ p.stands.phase = 3 := by
        rcases hpi.cases with ⟨h5, _⟩ | ⟨_, h5, _⟩ | ⟨_, _, _, h5⟩ | ⟨_, _, _, h5⟩
        · exact absurd h5 ho
        · omega
        · left; rw [h5]
        · right; rw [h5]
      rw [if_pos ⟨k, hp23⟩]
      refine Goes.setPen sf h hp (fun _ => rfl) rfl (sf.fdis j p hp) (sf.fnet j p hp) (fun x hx => ?_) ⟨fun hov => by rw [ho'] at hov; simp at hov, fun hov => by rw [ho'] at hov; simp at hov⟩ (fun hov => .inl hov) ?_
      · rcases List.mem_append.1 hx with hx | hx
        · exact sf.snet j p hp x hx
        · rw [List.mem_singleton.1 hx]; exact ⟨hin, k, hj⟩
      · cases hf : fourOf p.status (baseOf p.fenced : Int) with
        | false =>
          rw [stands_cut ho' h4 hf]
          cases hf' : fourOf (p.status ++ [m]) (baseOf p.fenced : Int) with
          | false => rw [stands_cut (p := { p with status := p.status ++ [m] }) ho' h4 hf']; exact WGo.refl _
          | true =>
            rw [stands_open (p := { p with status := p.status ++ [m] }) ho' h4 hf']
            exact ⟨by simp, Int.le_refl _, Int.le_refl _, by simp, fun _ => rfl⟩
        | true =>
          have hf' := fourOf_mono p.status m _ hf
          rw [stands_open ho' h4 hf, stands_open (p := { p with status := p.status ++ [m] }) ho' h4 hf']
          have a := durUp_spec p.status (baseOf p.fenced) p.values.length hf
          have b := durUp_spec (p.status ++ [m]) (baseOf p.fenced) p.values.length hf'
          have := b.2.2.2 _ a.1 a.2.1 (fourOf_mono p.status m _ a.2.2.1)
          exact ⟨Int.le_refl _, Int.le_refl _, Int.le_refl _, by simp only; omega, fun _ => rfl⟩
  · rw [if_pos k]
    obtain ⟨q, hq, rfl⟩ := hin
    have := sf.ref q hq k
    exact goes_ends h sf hp (by omega)

theorem goes_arrives {r : RVol} (h : Inv r) (sf : Saf r) (m : Msg) (hm : MsgInv r.pens m) (hin : ∃ q ∈ r.net, q.1 = m) : Goes r (r.arrives m) := by
  unfold RVol.arrives
  by_cases hk : m.kind = 2 ∨ m.kind = 4 ∨ m.kind = 5
  · rw [if_pos hk]; exact goes_wHears h sf m hm hin hk
  · rw [if_neg hk]
    cases hg : r.segs[m.to_.toNat]? with
    | none => exact Goes.refl sf
    | some g =>
      simp only
      cases hu : g.up with
      | true => simp only [if_true]; exact goes_sHears h sf m hm hk g hg hu
      | false => simp only [Bool.false_eq_true, if_false]; exact Goes.refl sf
theorem goes_deliver {r : RVol} (h : Inv r) (sf : Saf r) (n : Int) : Goes r (r.deliver n).1 := by
  unfold RVol.deliver
  cases hp : placeE r.net n with
  | none => exact Goes.refl sf
  | some i =>
    simp only
    cases hn : r.net[i]? with
    | none => exact Goes.refl sf
    | some q =>
      simp only
      have hq := List.mem_of_getElem? hn
      have G := Goes.gone sf i
      exact G.trans (goes_arrives (h.goneV i) G.saf q.1 (h.net q hq) (G.net q hq))
theorem goes_drop {r : RVol} (sf : Saf r) (n : Int) : Goes r (r.drop n) := by
  unfold RVol.drop
  cases hp : placeE r.net n with
  | none => exact Goes.refl sf
  | some i => exact Goes.gone sf i
theorem goes_copy {r : RVol} (sf : Saf r) (n : Int) : Goes r (r.copy n) := by
  unfold RVol.copy
  cases hp : messageAt r.net n with
  | none => exact Goes.refl sf
  | some m =>
    simp only
    have hin : ∃ q ∈ r.net, q.1 = m := by
      unfold messageAt at hp
      split at hp
      · simp at hp
      · obtain ⟨i, _, h2⟩ := Option.bind_eq_some_iff.1 hp
        obtain ⟨q, h3, h4⟩ := Option.map_eq_some_iff.1 h2
        exact ⟨q, List.mem_of_getElem? h3, h4⟩
    obtain ⟨q, hq, rfl⟩ := hin
    exact Goes.send sf ⟨fun hk => ⟨sf.told q hq hk, sf.saw q hq hk⟩, fun hk => ⟨sf.f0 q hq hk, sf.mrk q hq hk, fun q' hq' hk' => sf.saw q' hq' hk' q hq hk⟩, fun hk he => sf.hold q hq hk he, fun hk => sf.ref q hq hk⟩
theorem goes_open {r : RVol} (h : Inv r) (sf : Saf r) : Goes r r.open_.1 := by
  unfold RVol.open_
  split
  · exact Goes.refl sf
  · simp only
    have get : ∀ (i : Nat) (p : RPen), r.opened.pens[i]? = some p → (r.pens[i]? = some p) ∨ p = pen0 := by
      intro i p hp
      simp only [RVol.opened] at hp
      by_cases hl : i < r.pens.length
      · rw [List.getElem?_append_left hl] at hp; exact .inl hp
      · rw [List.getElem?_append_right (by omega)] at hp
        have := List.mem_of_getElem? hp
        exact .inr (List.mem_singleton.1 this)
    have hle := PLe.snoc r.pens pen0
    have S : Saf r.opened := by
      refine sf.pens h hle (fun i p hp => ?_)
      rcases get i p hp with hp | rfl
      · exact ⟨sf.fdis i p hp, sf.fnet i p hp, sf.snet i p hp, sf.ov p (List.mem_of_getElem? hp), fun hl => by
          have := (List.getElem?_eq_some_iff.1 hp).1
          simp at hl
          omega⟩
      · exact ⟨List.Pairwise.nil, fun m hm => by simp [pen0] at hm, fun m hm => by simp [pen0] at hm, ⟨fun hov => by simp [pen0] at hov, fun hov => by simp [pen0] at hov⟩, fun _ => rfl⟩
    have G : Goes r r.opened := by
      refine ⟨⟨S, hle, fun q hq => ⟨q, hq, rfl⟩, fun i p hp => ?_, rfl, rfl⟩, fun i p p' hp hp' => ?_⟩
      · exact ⟨p, by simp only [RVol.opened]; rw [List.getElem?_append_left (List.getElem?_eq_some_iff.1 hp).1]; exact hp, WGo.refl _⟩
      · simp only [RVol.opened] at hp'
        rw [List.getElem?_append_left (List.getElem?_eq_some_iff.1 hp).1, hp] at hp'
        rw [Option.some.inj hp']
    exact G.trans (Goes.sendUp G.saf _ 6 (fun _ => ⟨by simp [fenceMsg], by simp [fenceMsg], by simp [fenceMsg]⟩))
theorem res_kind {p : RPen} {x : WSt} {n : Int} {s : Nat} {m : Msg} (h : resMsg p x n s = some m) : m.kind ≠ 4 ∧ m.kind ≠ 2 ∧ m.kind ≠ 5 := by
  unfold resMsg at h
  split at h
  · split at h
    · simp at h
    · have := Option.some.inj h; subst this; simp [fenceMsg]
  · split at h
    · have := Option.some.inj h; subst this; simp [cutMsg]
    · split at h
      · have := Option.some.inj h; subst this; simp [writeMsg]
      · simp at h
theorem goes_resend {r : RVol} (sf : Saf r) (n : Int) : Goes r (r.resend n).1 := by
  unfold RVol.resend
  split
  · exact Goes.refl sf
  · cases hp : r.pens[n.toNat - 1]? with
    | none => exact Goes.refl sf
    | some p => exact Goes.sendsUp sf _ 6 (fun i _ m hm => res_kind hm)
theorem goes_sync {r : RVol} (h : Inv r) (sf : Saf r) (n : Int) : Goes r (r.sync n).1 := by
  unfold RVol.sync
  split
  · exact Goes.refl sf
  · cases hg : r.segs[n.toNat]? with
    | none => exact Goes.refl sf
    | some g =>
      simp only
      split
      · rename_i hu
        have hgm := List.mem_of_getElem? hg
        have hgi := h.segs g hgm
        have hsy : r.synced n.toNat = r.setSeg n.toNat { g with entries := g.entries.map syncE } := by unfold RVol.synced; rw [hg]; rfl
        have G : Goes r (r.setSeg n.toNat { g with entries := g.entries.map syncE }) := Goes.setSeg sf h hg (Int.le_refl _) (sf.ep g hgm).2 (fun hu' => by
          have hu' : g.up = false := hu'
          rw [hu] at hu'; simp at hu') (fun x _ _ t => t.same rfl (sync_scl hgi.ents)) (fun x _ _ _ _ _ t => t.same rfl (fun n hn => by
            show plOf (g.entries.map syncE) n = _
            rw [sync_pl hgi.ents]; unfold syncAt; rw [if_neg (by rw [hn]; decide)]))
        simp only
        rw [hsy]
        unfold RVol.after
        rw [get_set hg]
        simp only
        split
        · rename_i hc
          exact G.trans (Goes.send G.saf (MSaf.status G.saf (get_set hg) hc.2))
        · exact G
      · exact Goes.refl sf
theorem goes_gossip {r : RVol} (sf : Saf r) (a b : Int) : Goes r (r.gossip a b).1 := by
  unfold RVol.gossip
  split
  · exact Goes.refl sf
  · cases hg : r.segs[a.toNat]? with
    | none => exact Goes.refl sf
    | some g =>
      simp only
      split
      · exact Goes.send sf (MSaf.other (by simp [needMsg]) (by simp [needMsg]) (by simp [needMsg]))
      · exact Goes.refl sf
theorem goes_crash {r : RVol} (h : Inv r) (sf : Saf r) (n : Int) : Goes r (r.crash n).1 := by
  unfold RVol.crash
  split
  · exact Goes.refl sf
  · cases hg : r.segs[n.toNat]? with
    | none => exact Goes.refl sf
    | some g =>
      simp only
      split
      · have hgm := List.mem_of_getElem? hg
        have hgi := h.segs g hgm
        refine Goes.setSeg (g' := { g with up := false, entries := g.entries.map crashE }) sf h hg (Int.le_refl _) (sf.ep g hgm).2 (fun _ e he hgo => ?_) (fun x _ _ t => t.same rfl (crash_scl hgi.ents)) (fun x _ _ _ _ _ t => t.same rfl (fun n hn => by
          show plOf (g.entries.map crashE) n = _
          rw [crash_pl hgi.ents]; unfold crashAt; rw [if_neg (by rw [hn]; decide)]))
        obtain ⟨e0, _, rfl⟩ := List.mem_map.1 he
        unfold crashE at hgo ⊢
        split at hgo
        · rename_i hk; rw [if_pos hk]; exact hk
        · simp at hgo
      · exact Goes.refl sf
theorem goes_restart {r : RVol} (h : Inv r) (sf : Saf r) (n : Int) : Goes r (r.restart n).1 := by
  unfold RVol.restart
  split
  · exact Goes.refl sf
  · cases hg : r.segs[n.toNat]? with
    | none => exact Goes.refl sf
    | some g =>
      simp only
      split
      · exact Goes.refl sf
      · have hgm := List.mem_of_getElem? hg
        exact Goes.setSeg (g' := { g with up := true }) sf h hg (Int.le_refl _) (sf.ep g hgm).2 (fun hu => by simp at hu) (fun x _ _ t => t.same rfl (Nat.le_refl _)) (fun x _ _ _ _ _ t => t.same rfl (fun _ _ => rfl))
theorem goes_read {r : RVol} (h : Inv r) (sf : Saf r) (n lsn : Int) : Goes r (r.read n lsn).1 := by
  unfold RVol.read
  split
  · exact Goes.refl sf
  · split
    · exact Goes.refl sf
    · split
      · exact Goes.refl sf
      · cases hp : r.pens[n.toNat - 1]? with
        | none => exact Goes.refl sf
        | some p =>
          simp only
          unfold RVol.readOf
          split
          · exact Goes.refl sf
          · split
            · rename_i g hpk hlt
              obtain ⟨s, _, hs⟩ := Option.bind_eq_some_iff.1 hpk
              have := (sf.ep g (List.mem_of_getElem? hs)).2
              unfold RVol.ends
              rw [hp]
              exact goes_ends h sf hp (by omega)
            · exact Goes.refl sf
theorem goes_append {r : RVol} (h : Inv r) (sf : Saf r) (n v : Int) : ((r.append n v).2.2 ≠ 0 → (r.append n v).1 = r ∧ (r.append n v).2.1 = 0 ∧ ((r.append n v).2.2 = 3 ∨ (r.append n v).2.2 = 4 ∨ (r.append n v).2.2 = 5 ∨ (r.append n v).2.2 = 6 ∨ (r.append n v).2.2 = 7)) ∧ Goes0 r (r.append n v).1 ∧
    ((r.append n v).2.2 = 0 → ∃ (i : Nat) (p : RPen), n = (i : Int) + 1 ∧ r.pens[i]? = some p ∧ p.over = false ∧ p.fenced.length = 4 ∧ fourOf p.status (baseOf p.fenced : Int) = true ∧ (baseOf p.fenced : Int) + (p.values.length : Int) < 40 ∧ (r.append n v).2.1 = (baseOf p.fenced : Int) + (p.values.length : Int) + 1 ∧ (r.append n v).1.pens = r.pens.set i { p with values := p.values ++ [v] }) := by
  unfold RVol.append
  by_cases h1 : (r.may n).2 ≠ 0
  · rw [if_pos h1]
    refine ⟨fun _ => ⟨rfl, rfl, ?_⟩, Goes0.refl sf, fun h0 => absurd h0 h1⟩
    simp only
    unfold RVol.may at h1 ⊢
    split
    · exact .inl rfl
    · simp only
      split
      · exact .inr (.inl rfl)
      · rename_i p hw hp
        simp only [hw] at h1
        rw [if_neg hp] at h1
        exact absurd rfl h1
  · rw [if_neg h1]
    have h1' : (r.may n).2 = 0 := by omega
    obtain ⟨i, hil, hn, hmay, hov⟩ := RVol.may_ok h1' (fun p hp => by
      obtain ⟨j, hj, rfl⟩ := List.getElem_of_mem hp
      exact fun ho => ((h.pens j _ (List.getElem?_eq_getElem hj)).ov ho).1)
    have hi : r.pens[i]? = some r.pens[i] := List.getElem?_eq_getElem hil
    generalize r.pens[i] = p at *
    have hpi := h.pens i p hi
    rw [hmay]
    simp only
    by_cases h2 : p.stands.phase ≠ 3
    · rw [if_pos h2]; exact ⟨fun _ => ⟨rfl, rfl, by simp⟩, Goes0.refl sf, fun h0 => by simp at h0⟩
    · rw [if_neg h2]
      have h2 : p.stands.phase = 3 := by omega
      by_cases h3 : p.stands.next = 40
      · rw [if_pos h3]; exact ⟨fun _ => ⟨rfl, rfl, by simp⟩, Goes0.refl sf, fun h0 => by simp at h0⟩
      · rw [if_neg h3]
        by_cases h4 : p.stands.next = p.stands.dur + r.wi
        · rw [if_pos h4]; exact ⟨fun _ => ⟨rfl, rfl, by simp⟩, Goes0.refl sf, fun h0 => by simp at h0⟩
        · rw [if_neg h4]
          obtain ⟨hf4, hfour, hst⟩ : p.fenced.length = 4 ∧ fourOf p.status (baseOf p.fenced : Int) = true ∧ p.stands = ⟨3, (baseOf p.fenced : Int), (baseOf p.fenced : Int) + (p.values.length : Int), (durUp p.status (baseOf p.fenced) (p.values.length + 1) : Int)⟩ := by
            rcases hpi.cases with ⟨h5, _⟩ | ⟨_, _, h5⟩ | ⟨_, _, _, h5⟩ | ⟨_, a, b, h5⟩
            · rw [hov] at h5; simp at h5
            · rw [h5] at h2; simp at h2
            · rw [h5] at h2; simp at h2
            · exact ⟨a, b, h5⟩
          have e0 : n.toNat - 1 = i := by omega
          have hpu : r.pushed (n.toNat - 1) v = r.setPen i { p with values := p.values ++ [v] } := by unfold RVol.pushed; rw [e0, hi]; rfl
          rw [hpu]
          have h40 := hpi.n40
          have hP := (xpen_append hpi hov hf4 hfour v (by rw [hst] at h3; simpa using h3) (by rw [hst] at h4; simpa using h4))
          have W : WGo p.stands ({ p with values := p.values ++ [v] } : RPen).stands := by
            rw [hst, stands_open (p := { p with values := p.values ++ [v] }) hov (show 4 ≤ p.fenced.length by omega) hfour]
            have a := durUp_spec p.status (baseOf p.fenced) p.values.length hfour
            have b := durUp_spec p.status (baseOf p.fenced) (p.values ++ [v]).length hfour
            have := b.2.2.2 _ a.1 (by simp; omega) a.2.2.1
            exact ⟨Int.le_refl _, Int.le_refl _, by simp; omega, by simp only; omega, fun _ => rfl⟩
          have G : Goes0 r (r.setPen i { p with values := p.values ++ [v] }) := Goes0.setPen sf h hi (fun _ => ⟨rfl, List.prefix_append _ _⟩) (sf.fdis i p hi) (sf.fnet i p hi) (sf.snet i p hi) ⟨fun ho => by simp only at ho; rw [hov] at ho; simp at ho, fun ho => by simp only at ho; rw [hov] at ho; simp at ho⟩ (fun ho => .inl ho) W
          have G2 := Goes.sendUp G.saf (writeMsg n (p.stands.next + 1) v) 6 (fun _ => ⟨by simp [writeMsg], by simp [writeMsg], by simp [writeMsg]⟩)
          refine ⟨fun h0 => by simp at h0, G.trans G2.toGoes0, fun _ => ⟨i, p, hn, hi, hov, hf4, hfour, ?_, ?_, ?_⟩⟩
          · rw [hst] at h3; simp only at h3; omega
          · simp only; rw [hst]
          · simp only; rw [sendUp_eq, RVol.sendsUp_pens]; rfl
end Go.Proofs.Ytfpbkghcjaonlaa.Sim

/-
  Safety: what was durable once has one value, and four segments have kept it.
-/
namespace Go.Proofs.Ytfpbkghcjaonlaa.Sim

theorem heard_mem {st : List Msg} {s n : Int} (h : heardIn st s = true) (hs : ∀ m ∈ st, 0 ≤ m.scl) (hn : n ≤ notedN st s) : ∃ m ∈ st, m.frm = s ∧ n ≤ m.scl := by
  by_cases h0 : n ≤ 0
  · unfold heardIn at h
    rw [List.any_eq_true] at h
    obtain ⟨m, hm, he⟩ := h
    exact ⟨m, hm, by simpa using he, by have := hs m hm; omega⟩
  · have key : ∀ (l : List Msg) (x : Int), n ≤ l.foldl (noteStep s) x → n ≤ x ∨ ∃ m ∈ l, m.frm = s ∧ n ≤ m.scl := by
      intro l
      induction l with
      | nil => intro x hx; exact .inl hx
      | cons a t ih =>
        intro x hx
        rw [List.foldl_cons] at hx
        rcases ih _ hx with h1 | ⟨m, hm, h1⟩
        · unfold noteStep at h1
          split at h1
          · rename_i he
            split at h1
            · exact .inr ⟨a, List.mem_cons_self, by simpa using he, h1⟩
            · exact .inl h1
          · exact .inl h1
        · exact .inr ⟨m, List.mem_cons_of_mem _ hm, h1⟩
    rcases key st 0 hn with h1 | h1
    · omega
    · exact h1
theorem pre_four {r : RVol} (h : Inv r) (sf : Saf r) {i : Nat} {p : RPen} (hp : r.pens[i]? = some p) (h4 : 4 ≤ p.fenced.length) {n : Nat} {m : Int} (hf : fourOf p.status m = true) (hn : (n : Int) ≤ m) : Pre r ((i : Int) + 1) n := by
  refine ⟨⟨p, i, rfl, hp, h4⟩, (((List.range 6).filter fun (s : Nat) => reach p.status m s).map fun (s : Nat) => (s : Int)), ?_, ?_, fun s hs => ?_⟩
  · refine List.Pairwise.map _ (fun a b hab => ?_) ((List.nodup_range (n := 6)).filter _)
    intro he
    exact hab (by omega)
  · unfold fourOf at hf
    have := of_decide_eq_true hf
    unfold reachUp at this
    simpa using this
  · obtain ⟨x, hx, rfl⟩ := List.mem_map.1 hs
    obtain ⟨h6, hr⟩ := List.mem_filter.1 hx
    have h6 : x < 6 := by simpa using h6
    unfold reach at hr
    rw [Bool.and_eq_true] at hr
    obtain ⟨mm, hm, he, hsc⟩ := heard_mem hr.1 (fun q hq => ((h.pens i p hp).sm q hq).1) (n := m) (by simpa using hr.2)
    obtain ⟨⟨q, hq, hqe⟩, hk, hto⟩ := sf.snet i p hp mm hm
    refine ⟨by omega, by omega, q, hq, by rw [hqe]; exact hk, by rw [hqe]; exact hto, by rw [hqe]; exact he, by rw [hqe]; omega⟩
/-- What a writer called durable, four segments told it of. -/
theorem pre_dur {r : RVol} (h : Inv r) (sf : Saf r) {i : Nat} {p : RPen} (hp : r.pens[i]? = some p) {n : Nat} (h1 : 1 ≤ n) (hn : (n : Int) ≤ p.stands.dur) : Dec r.pens ((i : Int) + 1) p ∧ Pre r ((i : Int) + 1) n := by
  have hpi := h.pens i p hp
  rcases hpi.cases with ⟨ho, _⟩ | ⟨_, _, h5⟩ | ⟨_, _, _, h5⟩ | ⟨_, h4, hf, h5⟩
  · rw [stands_over ho] at hn
    simp only at hn
    by_cases h4 : p.fenced.length < 4
    · have := (sf.ov p (List.mem_of_getElem? hp)).few ho h4; omega
    · rcases ((sf.ov p (List.mem_of_getElem? hp)).many ho (by omega)).2.2 with h0 | ⟨_, _, h0⟩
      · omega
      · exact ⟨⟨i, rfl, hp, by omega⟩, pre_four h sf hp (by omega) h0 hn⟩
  · rw [h5] at hn; simp only at hn; omega
  · rw [h5] at hn; simp only at hn; omega
  · rw [h5] at hn
    exact ⟨⟨i, rfl, hp, by omega⟩, pre_four h sf hp (by omega) (durUp_spec p.status (baseOf p.fenced) p.values.length hf).2.2.1 hn⟩

/-- The value of a number, by the list of e. -/
def Val (pens : List RPen) (e : Int) (n : Nat) (v : Int) : Prop := ∃ p ep, Dec pens e p ∧ good (decCuts p.fenced e) (n : Int) ep = true ∧ RecInv pens ep (n : Int) v
theorem Val.mono {pens pens' : List RPen} (h : PLe pens pens') {e : Int} {n : Nat} {v : Int} (x : Val pens e n v) : Val pens' e n v := by
  obtain ⟨p, ep, d, g, rr⟩ := x
  obtain ⟨p', d', hf, _⟩ := d.mono h
  exact ⟨p', ep, d', by rw [hf]; exact g, rr.mono h⟩
theorem Val.up {r : RVol} (h : Inv r) (sf : Saf r) {e c : Int} {n m : Nat} {v : Int} (x : Val r.pens e n v) (hP : Pre r e m) (hnm : n ≤ m) {q : RPen} (d : Dec r.pens c q) (hc : e ≤ c) : Val r.pens c n v := by
  by_cases he : e = c
  · rw [← he]; exact x
  · obtain ⟨p, ep, dp, g, rr⟩ := x
    obtain ⟨p1, q1, dp1, dq1, hx1, hx2⟩ := ext_all h sf hP c.toNat c q (Nat.le_refl _) d (by omega)
    rw [dp1.uniq dp, dq1.uniq d] at hx1
    rw [dq1.uniq d] at hx2
    exact ⟨q, ep, d, good_up h d hx1 hx2 (by omega) g, rr⟩
theorem Val.uniq {r : RVol} (h : Inv r) {e : Int} {n : Nat} {v v' : Int} (x : Val r.pens e n v) (y : Val r.pens e n v') : v = v' := by
  obtain ⟨p, ep, d, g, rr⟩ := x
  obtain ⟨p', ep', d', g', rr'⟩ := y
  rw [d'.uniq d] at g'
  exact (good_uniq h d g g' rr rr').2
/-- It was durable once. -/
def Once (r : RVol) (n : Nat) (v : Int) : Prop := 1 ≤ n ∧ ∃ (i : Nat) (p : RPen), r.pens[i]? = some p ∧ (n : Int) ≤ p.stands.dur ∧ Val r.pens ((i : Int) + 1) n v
theorem Once.goes {r r' : RVol} (g : Goes0 r r') {n : Nat} {v : Int} (x : Once r n v) : Once r' n v := by
  obtain ⟨h1, i, p, hp, hd, hv⟩ := x
  obtain ⟨p', hp', hw⟩ := g.pens i p hp
  exact ⟨h1, i, p', hp', Int.le_trans hd hw.2.2.2.1, hv.mono g.ple⟩
theorem Once.uniq {r : RVol} (h : Inv r) (sf : Saf r) {n : Nat} {v v' : Int} (x : Once r n v) (y : Once r n v') : v = v' := by
  obtain ⟨h1, i, p, hp, hd, hv⟩ := x
  obtain ⟨_, j, q, hq, he, hw⟩ := y
  obtain ⟨dp, P⟩ := pre_dur h sf hp h1 hd
  obtain ⟨dq, Q⟩ := pre_dur h sf hq h1 he
  by_cases hij : i ≤ j
  · exact (hv.up h sf P (Nat.le_refl _) dq (by omega)).uniq h hw
  · exact hv.uniq h (hw.up h sf Q (Nat.le_refl _) dp (by omega))
/-- Four segments have kept it. -/
theorem Once.four {r : RVol} (h : Inv r) (sf : Saf r) {n : Nat} {v : Int} (x : Once r n v) : 4 ≤ ((List.range 6).filter fun (s : Nat) => match r.segs[s]? with | some g => (match keptAt g.entries (n : Int) with | some e => e.value == v | none => false) | none => false).length := by
  obtain ⟨h1, i, p, hp, hd, hv⟩ := x
  obtain ⟨dp, P⟩ := pre_dur h sf hp h1 hd
  obtain ⟨_, S, hS, hS4, hSt⟩ := id P
  have hmem : ∀ s ∈ S, s ∈ ((List.range 6).filter fun (s : Nat) => match r.segs[s]? with | some g => (match keptAt g.entries (n : Int) with | some e => e.value == v | none => false) | none => false).map (fun (s : Nat) => (s : Int)) := by
    intro s hs
    obtain ⟨h0, h6, q, hq, hk, hto, hfr, hsc⟩ := hSt s hs
    have hs6 := h.s6
    obtain ⟨g, hg⟩ : ∃ g, r.segs[s.toNat]? = some g := ⟨r.segs[s.toNat]'(by omega), List.getElem?_eq_getElem (by omega)⟩
    refine List.mem_map.2 ⟨s.toNat, List.mem_filter.2 ⟨by simp; omega, ?_⟩, by omega⟩
    have T := sf.told q hq hk g (by rw [hfr]; exact hg)
    have hgi := h.segs g (List.mem_of_getElem? hg)
    have ht := T.top
    rw [hto] at ht
    have hscl := T.scl n hsc (by
      rw [hto]
      intro t pt dt a b
      exact ext_all h sf P t.toNat t pt (Nat.le_refl _) dt a)
    obtain ⟨e, he⟩ := scl_kept g hgi.ents n h1 hscl
    obtain ⟨hl, _, hm, hgo, _⟩ := keptAt_eq he
    obtain ⟨hr, hgd⟩ := hgi.recs e hm hgo
    rw [hl] at hr hgd
    obtain ⟨pt, dt, hL⟩ := hgi.ct.dec (by omega)
    rw [hL] at hgd
    have hv2 : Val r.pens (topOf g.cuts) n e.value := ⟨pt, e.epoch, dt, hgd, hr⟩
    have := (hv.up h sf P (Nat.le_refl _) dt ht).uniq h hv2
    simp only [hg, he]
    simp [this]
  have hle : S.length ≤ (((List.range 6).filter fun (s : Nat) => match r.segs[s]? with | some g => (match keptAt g.entries (n : Int) with | some e => e.value == v | none => false) | none => false).map (fun (s : Nat) => (s : Int))).length := by
    have key : ∀ (A B : List Int), A.Nodup → (∀ x ∈ A, x ∈ B) → A.length ≤ B.length := by
      intro A
      induction A with
      | nil => intro B _ _; simp
      | cons a t ih =>
        intro B hn hsub
        have ha := hsub a List.mem_cons_self
        have hn' := List.nodup_cons.1 hn
        have := ih (B.erase a) hn'.2 (fun x hx => (List.mem_erase_of_ne (fun he : x = a => hn'.1 (by rw [← he]; exact hx))).2 (hsub x (List.mem_cons_of_mem _ hx)))
        rw [List.length_erase_of_mem ha] at this
        have := List.length_pos_of_mem ha
        simp
        omega
    exact key S _ hS hmem
  simp only [List.length_map] at hle
  omega
/-- A writer's own records. -/
theorem own_val {r : RVol} (h : Inv r) {i : Nat} {p : RPen} (hp : r.pens[i]? = some p) {j : Nat} (hj : j < p.values.length) : Val r.pens ((i : Int) + 1) (baseOf p.fenced + 1 + j) p.values[j] := by
  have hpi := h.pens i p hp
  have h4 : 4 ≤ p.fenced.length := by
    apply Classical.byContradiction
    intro hlt
    have := (hpi.few (by omega)).2
    rw [this] at hj
    simp at hj
  have d : Dec r.pens ((i : Int) + 1) p := ⟨i, rfl, hp, h4⟩
  have h40 := hpi.n40
  refine ⟨p, (i : Int) + 1, d, good_of ⟨_, dec_top, rfl⟩ (fun c hc hl => ?_), by omega, by omega, p, d, by omega, ?_⟩
  · have := top_max (d.sorted h) c hc
    rw [topOf_dec] at this
    omega
  · rw [show (((baseOf p.fenced + 1 + j : Nat) : Int) - (baseOf p.fenced : Int) - 1).toNat = j from by omega, List.getElem?_eq_getElem hj]
/-- What is read. -/
theorem read_val {r : RVol} (h : Inv r) (sf : Saf r) {n lsn : Int} (h0 : (r.read n lsn).2.2 = 0) : ∃ (i : Nat) (p : RPen) (m : Nat), n = (i : Int) + 1 ∧ lsn = (m : Int) ∧ (r.read n lsn).1 = r ∧ r.pens[i]? = some p ∧ 1 ≤ m ∧ (m : Int) ≤ p.stands.dur ∧ Val r.pens ((i : Int) + 1) m (r.read n lsn).2.1 := by
  unfold RVol.read at h0 ⊢
  by_cases h1 : (r.may n).2 ≠ 0
  · rw [if_pos h1] at h0; exact absurd h0 h1
  · rw [if_neg h1] at h0 ⊢
    have h1' : (r.may n).2 = 0 := by omega
    obtain ⟨i, hil, hn, hmay, hov⟩ := RVol.may_ok h1' (fun p hp => by
      obtain ⟨j, hj, rfl⟩ := List.getElem_of_mem hp
      exact fun ho => ((h.pens j _ (List.getElem?_eq_getElem hj)).ov ho).1)
    have hi : r.pens[i]? = some r.pens[i] := List.getElem?_eq_getElem hil
    generalize r.pens[i] = p at *
    have hpi := h.pens i p hi
    rw [hmay] at h0 ⊢
    simp only at h0 ⊢
    by_cases h2 : p.stands.phase ≠ 3
    · rw [if_pos h2] at h0; simp at h0
    · rw [if_neg h2] at h0 ⊢
      by_cases h3 : lsn < 1 ∨ p.stands.dur < lsn
      · rw [if_pos h3] at h0; simp at h0
      · rw [if_neg h3] at h0 ⊢
        rw [show n.toNat - 1 = i from by omega, hi] at h0 ⊢
        simp only at h0 ⊢
        unfold RVol.readOf at h0 ⊢
        cases hb : (r.pickSeg p lsn).bind fun s => r.segs[s]? with
        | none => rw [hb] at h0; simp at h0
        | some g =>
          rw [hb] at h0
          simp only at h0 ⊢
          by_cases h5 : (i : Int) + 1 < g.epoch
          · rw [if_pos h5] at h0; simp at h0
          · rw [if_neg h5]
            obtain ⟨m, rfl⟩ : ∃ m : Nat, lsn = (m : Int) := ⟨lsn.toNat, by omega⟩
            refine ⟨i, p, m, hn, rfl, rfl, hi, by omega, by omega, ?_⟩
            simp only
            obtain ⟨s, hs, hg⟩ := Option.bind_eq_some_iff.1 hb
            unfold RVol.pickSeg at hs
            have hr := List.find?_some hs
            have hs6 : s < 6 := by simpa using List.mem_of_find?_eq_some hs
            unfold RVol.reads at hr
            rw [Bool.and_eq_true] at hr
            have hm : (m : Int) ≤ notedN p.status s := of_decide_eq_true hr.1
            obtain ⟨mm, hmm, he, hsc⟩ := heard_mem (notedN_heard p.status s (by omega)) (fun q hq => (hpi.sm q hq).1) hm
            obtain ⟨⟨q, hq, hqe⟩, hk, hto⟩ := sf.snet i p hi mm hmm
            have T := sf.told q hq (by rw [hqe]; exact hk) g (by rw [hqe, he, Int.toNat_natCast]; exact hg)
            rw [hqe] at T
            have hgi := h.segs g (List.mem_of_getElem? hg)
            have ht := T.top
            have htp := hgi.top
            rw [hto] at ht
            have heq : topOf g.cuts = (i : Int) + 1 := by omega
            have hscl := T.scl m hsc (by
              rw [hto, heq]
              intro t pt dt a b
              omega)
            obtain ⟨e, hke⟩ := scl_kept g hgi.ents m (by omega) hscl
            obtain ⟨hl, _, hmem, hgo, _⟩ := keptAt_eq hke
            obtain ⟨hrr, hgd⟩ := hgi.recs e hmem hgo
            rw [hl] at hrr hgd
            obtain ⟨pt, dt, hL⟩ := hgi.ct.dec (by omega)
            rw [heq] at dt hL
            rw [hL] at hgd
            have hv : recV (keptAt g.entries (m : Int)) = e.value := by rw [hke]; rfl
            rw [hv]
            exact ⟨pt, e.epoch, dt, hgd, hrr⟩
end Go.Proofs.Ytfpbkghcjaonlaa.Sim
