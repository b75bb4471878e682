import Derived.Test.YtfpbkghcjaonlaaGreatJ23
/-
  The simulation: MFenced, Append, what is due.
-/
namespace Go.Proofs.YtfpbkghcjaonlaaGreat.Sim

theorem fmap_congr {A B : Type} {f g : A → Option B} : ∀ {l : List A}, (∀ a ∈ l, f a = g a) → l.filterMap f = l.filterMap g
  | [], _ => rfl
  | a :: r, h => by
    rw [List.filterMap_cons, List.filterMap_cons, h a List.mem_cons_self, fmap_congr (fun b hb => h b (List.mem_cons_of_mem _ hb))]

theorem hasNote_eq {n : Int} {p : RPen} (ho : p.over = false) (h4 : p.fenced.length < 4) (s : Int) : (xpen n p).hasNote s = heardIn p.fenced s := by
  unfold XWr.hasNote xpen heardIn
  simp only [ho, show ¬ 4 ≤ p.fenced.length by omega, Bool.false_eq_true, or_self, if_false]
  rw [List.any_map]; rfl
theorem four_nil (n : Int) : fourOf [] n = false := by
  unfold fourOf reachUp
  rw [List.filter_eq_nil_iff.2 (by intro s _; simp [reach, heardIn])]; rfl

theorem top_max {l : List (Int × Int)} (hs : l.Pairwise (fun a b => a.1 < b.1)) : ∀ c ∈ l, c.1 ≤ topOf l := by
  intro c hc
  obtain ⟨l', z, rfl⟩ : ∃ l' z, l = l' ++ [z] := by
    cases h : l.reverse with
    | nil => simp at h; subst h; simp at hc
    | cons z t => exact ⟨t.reverse, z, by rw [← List.reverse_reverse l, h]; simp⟩
  rw [topOf_snoc]
  rcases List.mem_append.1 hc with h1 | h1
  · have := (List.pairwise_append.1 hs).2.2 c h1 z (by simp)
    omega
  · rw [List.mem_singleton.1 h1]; exact Int.le_refl _

/-- A list of cuts is in order. -/
theorem CutsInv.sorted {r : RVol} (h : Inv r) {l : List (Int × Int)} (c : CutsInv r.pens l) : l.Pairwise (fun a b => a.1 < b.1) ∧ ((l.length : Int) ≤ topOf l) ∧ (∀ c ∈ l, 1 ≤ c.1) := by
  rcases c with rfl | ⟨n, p, ⟨i, hn, hi, h4⟩, rfl⟩
  · exact ⟨List.Pairwise.nil, by decide, fun c hc => by simp at hc⟩
  · have hp := h.pens i p hi
    rw [topOf_dec, hn]
    exact ⟨hp.srt h4, hp.len h4, hp.pos h4⟩
theorem CutsInv.len9 {r : RVol} (h : Inv r) {l : List (Int × Int)} (c : CutsInv r.pens l) : l.length ≤ 9 := by
  have h2 := (c.sorted h).2.1
  by_cases h0 : topOf l = 0
  · rw [c.zero h0]; simp
  · obtain ⟨p, d, _⟩ := c.dec h0
    have := d.le
    have := h.p9
    omega

theorem best_mem (f : List Msg) : f.foldl bestStep [] = [] ∨ ∃ m ∈ f, f.foldl bestStep [] = m.cuts := by
  have key : ∀ (f : List Msg) (b : List (Int × Int)), f.foldl bestStep b = b ∨ ∃ m ∈ f, f.foldl bestStep b = m.cuts := by
    intro f
    induction f with
    | nil => intro b; exact .inl rfl
    | cons a r ih =>
      intro b
      rw [List.foldl_cons]
      rcases ih (bestStep b a) with h | ⟨m, hm, h⟩
      · rw [h]; unfold bestStep
        split
        · exact .inr ⟨a, List.mem_cons_self, rfl⟩
        · exact .inl rfl
      · exact .inr ⟨m, List.mem_cons_of_mem _ hm, h⟩
  exact key f []

/-- MFenced arrives at a writer that is fencing. -/
theorem xpen_fenced {r : RVol} (h : Inv r) {i : Nat} {p : RPen} (hi : r.pens[i]? = some p) (ho : p.over = false) (h4 : p.fenced.length < 4) (m : Msg) (hnew : heardIn p.fenced m.frm = false) (hc : CutsInv r.pens m.cuts) (hm : m.marks.length ≤ 40) (hf0 : 0 ≤ m.frm) (hf6 : m.frm < 6) (ht : topOf m.cuts ≤ (i : Int) + 1) :
    (xpen ((i : Int) + 1) p).hearFenced m = (xpen ((i : Int) + 1) { p with fenced := p.fenced ++ [m] }, if p.fenced.length + 1 = 4 then (List.range 6).map (cutMsg ((i : Int) + 1) (decCuts (p.fenced ++ [m]) ((i : Int) + 1))) else []) ∧
    PenInv r.pens r.wi ((i : Int) + 1) { p with fenced := p.fenced ++ [m] } := by
  have hp := h.pens i p hi
  obtain ⟨hst, hvl⟩ := hp.few h4
  have st1 := stands_few ho h4
  have hfm : ∀ q ∈ p.fenced ++ [m], CutsInv r.pens q.cuts ∧ q.marks.length ≤ 40 ∧ 0 ≤ q.frm ∧ q.frm < 6 ∧ topOf q.cuts ≤ (i : Int) + 1 := fun q hq => by
    rcases List.mem_append.1 hq with h1 | h1
    · exact hp.fm q h1
    · rw [List.mem_singleton.1 h1]; exact ⟨hc, hm, hf0, hf6, ht⟩
  have hph : (xpen ((i : Int) + 1) p).phase = 1 := by unfold xpen; rw [st1]
  have hnt : (xpen ((i : Int) + 1) p).notes = p.fenced.map note3 := by
    unfold xpen; simp only [ho, show ¬ 4 ≤ p.fenced.length by omega, Bool.false_eq_true, or_self, if_false]
  constructor
  · unfold XWr.hearFenced
    rw [if_neg (by rw [hph, hasNote_eq ho h4, hnew]; simp)]
    have hl : ((xpen ((i : Int) + 1) p).notes ++ [(m.frm, m.cuts, m.marks)]) = (p.fenced ++ [m]).map note3 := by rw [hnt]; simp [note3]
    simp only [hl]
    by_cases h3 : p.fenced.length + 1 = 4
    · rw [if_neg (by simp; omega), if_pos h3]
      have hnb := (newest_best (pens := r.pens) (p.fenced ++ [m]) (fun q hq => (hfm q hq).1)).1
      have hbu : bestUp (p.fenced ++ [m]) 4 = (p.fenced ++ [m]).foldl bestStep [] := bestUp_all (by simp; omega)
      have hbe := base_eq (f := p.fenced ++ [m]) (by simp; omega)
      have st2 := stands_cut (p := { p with fenced := p.fenced ++ [m] }) ho (by simp; omega) (by simp only [hst]; exact four_nil _)
      have hX : XWr.decides { xpen ((i : Int) + 1) p with notes := (p.fenced ++ [m]).map note3 } = xpen ((i : Int) + 1) { p with fenced := p.fenced ++ [m] } := by
        unfold XWr.decides
        simp only [hnb, ← hbu, hbe]
        refine wr_ext rfl ?_ ?_ ?_ ?_ ?_ ?_ ?_ rfl rfl
        · unfold xpen; rw [st2]
        · unfold xpen; rw [st2]
        · unfold xpen; rw [st2]; simp [hvl]
        · unfold xpen; rw [st1, st2]
        · unfold xpen; simp only; rw [if_pos (by right; simp; omega)]
        · unfold xpen decCuts; simp only; rw [if_neg (by simp [ho]; omega)]
        · rfl
      rw [hX]
      refine Prod.ext rfl ?_
      simp only
      unfold XWr.due
      rw [← List.filterMap_eq_map]
      apply fmap_congr
      intro s hs
      have hs6 : s < 6 := by simpa using hs
      unfold XWr.dueTo
      have hph2 : (xpen ((i : Int) + 1) { p with fenced := p.fenced ++ [m] }).phase = 2 := by unfold xpen; rw [st2]
      have hhd : (xpen ((i : Int) + 1) { p with fenced := p.fenced ++ [m] }).heard.getD s false = false := by
        unfold xpen; simp only; rw [heardL_get _ s hs6, hst]; rfl
      rw [hph2, if_neg (by decide), if_pos (by left; rfl), hhd]
      simp only [Bool.false_eq_true, if_false, Function.comp]
      unfold cutMsg xpen
      simp only [ho, Bool.false_eq_true, false_or]
      rw [if_neg (by simp; omega)]
    · rw [if_pos (by simp; omega), if_neg h3]
      refine Prod.ext ?_ rfl
      simp only
      have st2 := stands_few (p := { p with fenced := p.fenced ++ [m] }) ho (by simp; omega)
      refine wr_ext rfl ?_ ?_ ?_ ?_ ?_ ?_ rfl rfl rfl
      · unfold xpen; rw [st1, st2]
      · unfold xpen; rw [st1, st2]
      · unfold xpen; rw [st1, st2]
      · unfold xpen; rw [st1, st2]
      · unfold xpen; simp only; rw [if_neg (by simp [ho]; omega)]
      · unfold xpen; simp only; rw [if_pos (.inr h4), if_pos (by right; simp; omega)]
  · have hbest : ∀ hl : 4 ≤ (p.fenced ++ [m]).length, (decCuts (p.fenced ++ [m]) ((i : Int) + 1)).Pairwise (fun a b => a.1 < b.1) ∧ ((decCuts (p.fenced ++ [m]) ((i : Int) + 1)).length : Int) ≤ (i : Int) + 1 ∧ ∀ c ∈ decCuts (p.fenced ++ [m]) ((i : Int) + 1), 1 ≤ c.1 := by
      intro hl
      have hbu : bestUp (p.fenced ++ [m]) 4 = (p.fenced ++ [m]).foldl bestStep [] := bestUp_all (by simp; omega)
      have hci := (newest_best (pens := r.pens) (p.fenced ++ [m]) (fun q hq => (hfm q hq).1)).2
      have htop : topOf ((p.fenced ++ [m]).foldl bestStep []) ≤ (i : Int) := by
        rcases best_mem (p.fenced ++ [m]) with h0 | ⟨q, hq, h0⟩
        · rw [h0]; simp [topOf]
        · rw [h0] at hci ⊢
          have h1 := (hfm q hq).2.2.2.2
          by_cases he : topOf q.cuts = (i : Int) + 1
          · exfalso
            obtain ⟨p', ⟨j, hj, hj2, hj4⟩, _⟩ := hci.dec (by omega)
            have : j = i := by omega
            subst this
            rw [hi] at hj2
            have := Option.some.inj hj2
            subst this
            omega
          · omega
      rw [← hbu] at hci htop
      obtain ⟨s1, s2, s3⟩ := hci.sorted h
      unfold decCuts
      refine ⟨List.pairwise_append.2 ⟨s1, by simp, fun a ha b hb => ?_⟩, ?_, fun c hc => ?_⟩
      · have := top_max s1 a ha
        rw [List.mem_singleton.1 hb]
        show a.1 < (i : Int) + 1
        omega
      · simp only [List.length_append, List.length_singleton]; omega
      · rcases List.mem_append.1 hc with h1 | h1
        · exact s3 c h1
        · rw [List.mem_singleton.1 h1]; show (1 : Int) ≤ (i : Int) + 1; omega
    have hb40 := baseOf_le40 (f := p.fenced ++ [m]) (fun q hq => (hfm q hq).2.1)
    refine ⟨by simp; omega, hfm, fun _ => ⟨hst, hvl⟩, fun q hq => by rw [show ({ p with fenced := p.fenced ++ [m] } : RPen).status = p.status from rfl, hst] at hq; simp at hq, hp.ov, by simp only [hvl]; simpa using hb40, fun _ => hvl, fun _ hf => by simp only [hst] at hf; rw [four_nil] at hf; simp at hf, fun hl => (hbest hl).1, fun hl => (hbest hl).2.1, fun hl => (hbest hl).2.2⟩

/-- A record is appended. -/
theorem xpen_append {pens : List RPen} {wi n : Int} {p : RPen} (h : PenInv pens wi n p) (ho : p.over = false) (h4 : p.fenced.length = 4) (hf : fourOf p.status (baseOf p.fenced : Int) = true) (v : Int) (hn : ¬ (baseOf p.fenced : Int) + (p.values.length : Int) = 40) (hw : ¬ (baseOf p.fenced : Int) + (p.values.length : Int) = (durUp p.status (baseOf p.fenced) (p.values.length + 1) : Int) + wi) :
    (xpen n p).append v wi = (xpen n { p with values := p.values ++ [v] }, (baseOf p.fenced : Int) + (p.values.length : Int) + 1, 0) ∧ PenInv pens wi n { p with values := p.values ++ [v] } ∧
    (xpen n { p with values := p.values ++ [v] }).writes ((baseOf p.fenced : Int) + (p.values.length : Int) + 1) = (List.range 6).map (writeMsg n ((baseOf p.fenced : Int) + (p.values.length : Int) + 1) v) := by
  have h40 := h.n40
  have hwi := h.win (by omega) hf
  have st1 := stands_open ho (by omega) hf
  have hd : durUp p.status (baseOf p.fenced) (p.values.length + 1 + 1) = durUp p.status (baseOf p.fenced) (p.values.length + 1) := by
    rw [show durUp p.status (baseOf p.fenced) (p.values.length + 1 + 1) = if fourOf p.status ((baseOf p.fenced + (p.values.length + 1) : Nat) : Int) then baseOf p.fenced + (p.values.length + 1) else durUp p.status (baseOf p.fenced) (p.values.length + 1) from rfl, if_neg]
    intro h5
    unfold fourOf reachUp at h5
    rw [List.filter_eq_nil_iff.2 (by
      intro s _
      unfold reach
      have := notedN_le p.status (s : Int) ((baseOf p.fenced : Int) + (p.values.length : Int)) (by omega) (fun m hm => (h.sm m hm).2.1)
      simp
      intro _
      omega)] at h5
    simp at h5
  have st2 := stands_open (p := { p with values := p.values ++ [v] }) ho (show 4 ≤ p.fenced.length by omega) hf
  simp only [List.length_append, List.length_singleton, hd] at st2
  refine ⟨?_, ?_, ?_⟩
  · unfold XWr.append
    have e1 : (xpen n p).phase = 3 := by unfold xpen; rw [st1]
    have e2 : (xpen n p).next = (baseOf p.fenced : Int) + (p.values.length : Int) := by unfold xpen; rw [st1]
    have e3 : (xpen n p).dur = (durUp p.status (baseOf p.fenced) (p.values.length + 1) : Int) := by unfold xpen; rw [st1]
    rw [if_neg (by rw [e1]; decide), if_neg (by rw [e1]; simp), if_neg (by rw [e2]; omega), if_neg (by rw [e2, e3]; omega), e2]
    refine Prod.ext ?_ rfl
    simp only
    refine wr_ext rfl ?_ ?_ ?_ ?_ rfl rfl ?_ rfl rfl
    · unfold xpen; rw [st1, st2]
    · unfold xpen; rw [st1, st2]
    · unfold xpen; rw [st2]; simp only; omega
    · unfold xpen; rw [st1, st2]
    · unfold xpen; simp [ho]
  · refine ⟨h.f4, h.fm, fun h' => by simp only at h'; omega, fun q hq => ?_, h.ov, by simp; omega, fun hf' => by simp only at hf'; rw [hf] at hf'; simp at hf', fun _ _ => ?_, h.srt, h.len, h.pos⟩
    · have := h.sm q hq
      simp only [List.length_append, List.length_singleton]
      exact ⟨this.1, by omega, this.2.2⟩
    · simp only [List.length_append, List.length_singleton, hd]; omega
  · unfold XWr.writes
    rw [← List.filterMap_eq_map]
    apply fmap_congr
    intro s _
    have e1 : (xpen n { p with values := p.values ++ [v] }).base = (baseOf p.fenced : Int) := by unfold xpen; rw [st2]
    have e2 : (xpen n { p with values := p.values ++ [v] }).values = p.values ++ [v] := by unfold xpen; simp [ho]
    have e3 : (xpen n { p with values := p.values ++ [v] }).number = n := rfl
    unfold XWr.write
    rw [e1, e2, e3, if_neg (by omega), if_neg (by simp; omega)]
    rw [show ((baseOf p.fenced : Int) + (p.values.length : Int) + 1 - (baseOf p.fenced : Int) - 1).toNat = p.values.length from by omega]
    simp [writeMsg]
theorem xpen_append_no {pens : List RPen} {wi n : Int} {p : RPen} (h : PenInv pens wi n p) (v : Int) :
    (p.stands.phase = 4 → (xpen n p).append v wi = (xpen n p, 0, 4)) ∧ (p.stands.phase ≠ 4 → p.stands.phase ≠ 3 → (xpen n p).append v wi = (xpen n p, 0, 5)) ∧
    (p.stands.phase = 3 → p.stands.next = 40 → (xpen n p).append v wi = (xpen n p, 0, 7)) ∧ (p.stands.phase = 3 → p.stands.next ≠ 40 → p.stands.next = p.stands.dur + wi → (xpen n p).append v wi = (xpen n p, 0, 6)) := by
  have hph : (xpen n p).phase = p.stands.phase := rfl
  have hnx : (xpen n p).next = p.stands.next := rfl
  have hdr : (xpen n p).dur = p.stands.dur := rfl
  unfold XWr.append
  rw [hph, hnx, hdr]
  refine ⟨fun h1 => by rw [if_pos h1], fun h1 h2 => by rw [if_neg h1, if_pos h2], fun h1 h2 => by rw [if_neg (by rw [h1]; decide), if_neg (by rw [h1]; simp), if_pos (by omega)], fun h1 h2 h3 => ?_⟩
  have h40 : p.stands.next ≤ 40 := by
    have := h.n40
    rcases h.cases with ⟨_, h5⟩ | ⟨_, _, h5⟩ | ⟨_, _, _, h5⟩ | ⟨_, _, _, h5⟩
    · rw [h1] at h5; simp at h5
    · rw [h5] at h1; simp at h1
    · rw [h5]; simp only; omega
    · rw [h5]; simp only; omega
  rw [if_neg (by rw [h1]; decide), if_neg (by rw [h1]; simp), if_neg (by omega), if_pos (by omega)]

/-- What is due. -/
theorem xpen_due {pens : List RPen} {wi n : Int} {p : RPen} (h : PenInv pens wi n p) (hp : p.stands.phase ≠ 4) (s : Nat) (hs : s < 6) : (xpen n p).dueTo s = resMsg p p.stands n s := by
  have hph : (xpen n p).phase = p.stands.phase := rfl
  unfold XWr.dueTo resMsg
  rw [hph]
  rcases h.cases with ⟨_, h5⟩ | ⟨ho, h4, h5⟩ | ⟨ho, h4, hf, h5⟩ | ⟨ho, h4, hf, h5⟩
  · exact absurd h5 hp
  · rw [h5]
    simp only [if_true]
    rw [hasNote_eq ho h4]; rfl
  all_goals
    have hb : (xpen n p).base = p.stands.base := rfl
    have hv : (xpen n p).values = p.values := by unfold xpen; simp [ho]
    have hc : (xpen n p).cuts = decCuts p.fenced n := by unfold xpen; simp only [ho, Bool.false_eq_true, false_or]; rw [if_neg (by omega)]
    have hh : (xpen n p).heard.getD s false = heardIn p.status (s : Int) := heardL_get p.status s hs
    have hn : (xpen n p).noted.getD s 0 = notedN p.status (s : Int) := notedL_get p.status s hs
    rw [hh, hn, hc]
    have e0 : (xpen n p).number = n := rfl
    cases hhd : heardIn p.status (s : Int) with
    | false => rw [h5]; simp [cutMsg, e0]
    | true =>
      rw [h5]
      unfold XWr.write
      rw [hb, hv, e0, h5]
      simp only [Bool.true_eq_false, if_false, if_true]
      by_cases c1 : notedN p.status (s : Int) + 1 - (baseOf p.fenced : Int) - 1 < 0
      · simp [c1]; omega
      · by_cases c2 : (p.values.length : Int) ≤ notedN p.status (s : Int) + 1 - (baseOf p.fenced : Int) - 1
        · simp [c1, c2]; omega
        · have e9 : notedN p.status (s : Int) + 1 - (baseOf p.fenced : Int) - 1 = notedN p.status (s : Int) - (baseOf p.fenced : Int) := by omega
          rw [if_neg c1, if_neg c2, if_pos (show (baseOf p.fenced : Int) < notedN p.status (s : Int) + 1 ∧ notedN p.status (s : Int) + 1 ≤ (baseOf p.fenced : Int) + (p.values.length : Int) by omega), e9]
          simp [writeMsg]
end Go.Proofs.YtfpbkghcjaonlaaGreat.Sim

/-
  The simulation: a message at a segment.
-/
namespace Go.Proofs.YtfpbkghcjaonlaaGreat.Sim

theorem scl_kept (g : RSeg) (h : EntsOk g.entries) (i : Nat) (h1 : 1 ≤ i) (hi : i ≤ sclOf g.entries) : ∃ e, keptAt g.entries (i : Int) = some e := by
  obtain ⟨m, _, h2, _, h4⟩ := xscl_exists (xseg g) (xseg_len g)
  rw [xscl_seg g h] at h2
  obtain ⟨hl, hk⟩ := h4 (i - 1) (by omega)
  rw [xseg_state, show ((i - 1 : Nat) : Int) + 1 = (i : Int) from by omega] at hk
  exact Option.isSome_iff_exists.1 hk

theorem good_mem {l : List (Int × Int)} {lsn ep : Int} (h : good l lsn ep = true) : (∃ c ∈ l, c.1 = ep) ∧ ∀ c ∈ l, ep < c.1 → lsn ≤ c.2 := by
  unfold good at h
  rw [Bool.and_eq_true, List.any_eq_true, List.all_eq_true] at h
  obtain ⟨⟨c, hc, he⟩, h2⟩ := h
  refine ⟨⟨c, hc, by simpa using he⟩, fun d hd hlt => ?_⟩
  have := h2 d hd
  simp at this
  omega

/-- A segment that has cut for a writer has no more than that writer has in its log. -/
theorem scl_bound {r : RVol} (h : Inv r) {g : RSeg} (hg : SegInv r.pens g) {n : Int} {p : RPen} (d : Dec r.pens n p) (ht : topOf g.cuts = n) : (sclOf g.entries : Int) ≤ (baseOf p.fenced : Int) + (p.values.length : Int) := by
  by_cases h0 : sclOf g.entries = 0
  · omega
  · obtain ⟨e, he⟩ := scl_kept g hg.ents (sclOf g.entries) (by omega) (Nat.le_refl _)
    obtain ⟨hl, _, hm, hgo, _⟩ := keptAt_eq he
    obtain ⟨hr, hgd⟩ := hg.recs e hm hgo
    have hn := d.pos
    obtain ⟨p', d', hc⟩ := hg.ct.dec (by omega)
    rw [ht] at d' hc
    have := d.uniq d'
    subst this
    obtain ⟨⟨c, hcm, hce⟩, hall⟩ := good_mem hgd
    have hs := (hg.ct.sorted h).1
    have hmax := top_max hs c hcm
    rw [ht] at hmax
    by_cases hlt : e.epoch < n
    · have := hall (n, (baseOf p.fenced : Int)) (by rw [hc]; unfold decCuts; simp) hlt
      simp only at this
      omega
    · have hen : e.epoch = n := by omega
      obtain ⟨_, _, q, dq, hb, hv⟩ := hr
      rw [hen] at dq
      have := d.uniq dq
      subst this
      have := (List.getElem?_eq_some_iff.1 hv).1
      omega

theorem marksOf_len (l : List Ent) : (marksOf l).length = sclOf l := by unfold marksOf marksUp; simp
theorem epochUp_epoch (g : RSeg) (e : Int) : (g.epochUp e).epoch = e := by simp [RSeg.epochUp, RSeg.epoch]
theorem cutBy_cuts (g : RSeg) (l : List (Int × Int)) : (g.cutBy l).cuts = l := by simp [RSeg.cutBy, RSeg.cuts]
theorem xseg_epochUp (g : RSeg) (e : Int) : xseg (g.epochUp e) = { xseg g with epoch := e } := by
  refine seg_ext rfl ?_ rfl rfl
  simp [xseg, epochUp_epoch]

theorem SegInv.coming {pens : List RPen} {g : RSeg} (h : SegInv pens g) (m : Msg) (hr : RecInv pens m.epoch m.lsn m.value) (hgd : good g.cuts m.lsn m.epoch = true) : SegInv pens (g.coming m) := by
  refine ⟨come_ok h.ents _ _ _ hr.1 hr.2.1, h.ct, h.top, fun e he hgo => ?_⟩
  unfold RSeg.coming comeTo at he
  simp only at he
  split at he
  · rcases List.mem_append.1 he with h1 | h1
    · exact h.recs e h1 hgo
    · rw [List.mem_singleton.1 h1]; exact ⟨hr, hgd⟩
  · exact h.recs e he hgo
theorem SegInv.epochUp {pens : List RPen} {g : RSeg} (h : SegInv pens g) (e : Int) (he : g.epoch ≤ e) : SegInv pens (g.epochUp e) :=
  ⟨h.ents, h.ct, by rw [epochUp_epoch]; exact Int.le_trans h.top he, h.recs⟩
theorem SegInv.afterCut {pens : List RPen} {g : RSeg} (h : SegInv pens g) (m : Msg) (he : g.epoch ≤ m.epoch) (hc : CutsInv pens m.cuts) (ht : topOf m.cuts = m.epoch) : SegInv pens (g.afterCut m) ∧ topOf (g.afterCut m).cuts = m.epoch ∧ (g.afterCut m).epoch = m.epoch := by
  unfold RSeg.afterCut
  split
  · rename_i h0
    exact ⟨h.epochUp _ he, h0, epochUp_epoch _ _⟩
  · have e1 : ((g.epochUp m.epoch).cutBy m.cuts).epoch = m.epoch := epochUp_epoch g m.epoch
    refine ⟨⟨sift_ok h.ents _, by rw [cutBy_cuts]; exact hc, by rw [cutBy_cuts, e1, ht]; exact Int.le_refl _, fun e he' hgo => ?_⟩, by rw [cutBy_cuts]; exact ht, e1⟩
    rw [cutBy_cuts]
    obtain ⟨e0, hm0, rfl⟩ := List.mem_map.1 he'
    unfold siftBy at hgo ⊢
    split at hgo
    · rename_i hgd
      rw [if_pos hgd]
      exact ⟨(h.recs e0 hm0 hgo).1, hgd⟩
    · simp at hgo
theorem xseg_afterCut (g : RSeg) (h : EntsOk g.entries) (m : Msg) : xseg (g.afterCut m) = if topOf (xseg g).cuts ≠ m.epoch then XSeg.forget { xseg g with epoch := m.epoch, cuts := m.cuts } else { xseg g with epoch := m.epoch } := by
  unfold RSeg.afterCut
  by_cases h0 : topOf g.cuts = m.epoch
  · rw [if_pos h0, if_neg (by simpa [xseg] using h0), xseg_epochUp]
  · rw [if_neg h0, if_pos (by simpa [xseg] using h0), xseg_forget g h]

theorem setSeg_same {r : RVol} {i : Nat} {g : RSeg} (hi : r.segs[i]? = some g) : (xvol r).setSeg i (xseg g) = xvol r := by
  unfold XVol.setSeg xvol
  simp only
  congr 1
  apply List.ext_getElem?
  intro j
  rw [List.getElem?_set]
  by_cases e : i = j
  · subst e
    rw [if_pos rfl, List.getElem?_map, hi]
    have := (List.getElem?_eq_some_iff.1 hi).1
    rw [if_pos (by simpa using this)]; rfl
  · rw [if_neg e]
theorem setWr_same {r : RVol} {i : Nat} {p : RPen} (hi : r.pens[i]? = some p) : (xvol r).setWr i (xpen ((i : Int) + 1) p) = xvol r := by
  unfold XVol.setWr xvol
  simp only
  congr 1
  apply List.ext_getElem?
  intro j
  rw [List.getElem?_set]
  by_cases e : i = j
  · subst e
    rw [if_pos rfl, List.getElem?_mapIdx, hi]
    have := (List.getElem?_eq_some_iff.1 hi).1
    rw [if_pos (by simpa using this)]; rfl
  · rw [if_neg e]

theorem status_inv {r : RVol} (h : Inv r) {g : RSeg} (hg : SegInv r.pens g) (s : Nat) (hs : s < 6) {p : RPen} (d : Dec r.pens g.epoch p) (ht : topOf g.cuts = g.epoch) : MsgInv r.pens (statusMsg s g) := by
  have h1 := d.pos
  have h2 := d.le
  refine ⟨?_, ⟨by simp [statusMsg], by simp [statusMsg]⟩, .inl rfl, by simp [statusMsg], fun _ => ⟨by simp [statusMsg], by simp only [statusMsg]; omega⟩, fun hk => by simp [statusMsg] at hk, fun hk => by simp [statusMsg] at hk, fun hk => by simp [statusMsg] at hk, fun _ => ⟨by simp [statusMsg], p, d, scl_bound h hg d ht⟩, fun hk => by simp [statusMsg] at hk⟩
  unfold MsgTo
  rw [if_pos (by simp [statusMsg])]
  exact ⟨h1, h2⟩
theorem refused_inv {pens : List RPen} {m : Msg} (h : MsgInv pens m) (hk : m.kind = 1 ∨ m.kind = 3 ∨ m.kind = 6) (e : Int) : MsgInv pens (refusedMsg m e) := by
  have hw := h.wr hk
  have ht := h.to_
  unfold MsgTo at ht
  rw [if_neg (by omega)] at ht
  refine ⟨?_, ⟨by simp [refusedMsg], by simp [refusedMsg]⟩, .inl rfl, by simp [refusedMsg], fun _ => ht, fun hk => by simp [refusedMsg] at hk, fun hk => by simp [refusedMsg] at hk, fun hk => by simp [refusedMsg] at hk, fun hk => by simp [refusedMsg] at hk, fun hk => by simp [refusedMsg] at hk⟩
  unfold MsgTo
  rw [if_pos (by simp [refusedMsg])]
  simp only [refusedMsg]
  omega

theorem arrive_1 {s : XSeg} {m : Msg} (hu : s.up = true) (k : m.kind = 1) : s.arrive m = ((s.fence m).1, some (s.fence m).2) := by unfold XSeg.arrive; simp [hu, k]
theorem arrive_3 {s : XSeg} {m : Msg} (hu : s.up = true) (k : m.kind = 3) : s.arrive m = ((s.cut m).1, some (s.cut m).2) := by unfold XSeg.arrive; simp [hu, k]
theorem arrive_6 {s : XSeg} {m : Msg} (hu : s.up = true) (k : m.kind = 6) : s.arrive m = s.write m := by unfold XSeg.arrive; simp [hu, k]
theorem arrive_7 {s : XSeg} {m : Msg} (hu : s.up = true) (k : m.kind = 7) : s.arrive m = (s, s.give m) := by unfold XSeg.arrive; simp [hu, k]
theorem arrive_8 {s : XSeg} {m : Msg} (hu : s.up = true) (k : m.kind = 8) : s.arrive m = (s.fill m, none) := by unfold XSeg.arrive; simp [hu, k]

/-- A message arrives at a segment that is up. -/
theorem sim_sHears {r : RVol} (h : Inv r) (m : Msg) (hm : MsgInv r.pens m) (hk : ¬ (m.kind = 2 ∨ m.kind = 4 ∨ m.kind = 5)) (g : RSeg) (hi : r.segs[m.to_.toNat]? = some g) (hup : g.up = true) :
    xvol (r.sHears m) = ((xvol r).setSeg m.to_.toNat ((xseg g).arrive m).1).sendO ((xseg g).arrive m).2 ∧ Inv (r.sHears m) := by
  have hg := h.segs g (List.mem_of_getElem? hi)
  have ht := hm.to_
  unfold MsgTo at ht
  rw [if_neg hk] at ht
  have et : ((m.to_.toNat : Nat) : Int) = m.to_ := by omega
  have hxe : (xseg g).epoch = g.epoch := rfl
  have hxc : (xseg g).cuts = g.cuts := rfl
  have hxu : (xseg g).up = true := hup
  have hkr := hm.kr
  unfold RVol.sHears
  rw [hi]
  simp only
  by_cases k7 : m.kind = 7
  · have hfr := hm.fr (by omega)
    rw [if_pos k7, arrive_7 hxu k7]
    simp only
    rw [setSeg_same hi]
    unfold XSeg.give
    rw [xseg_at g hg.ents]
    have hkp := keptAt_pl g.entries m.lsn
    cases hka : keptAt g.entries m.lsn with
    | none =>
      rw [hka] at hkp
      rw [if_neg (by intro h2; rw [h2] at hkp; simp at hkp)]
      exact ⟨rfl, h⟩
    | some e =>
      obtain ⟨hl, hp, he, hgo, _⟩ := keptAt_eq hka
      rw [hp]
      simp only [if_true]
      refine ⟨?_, h.send _ ?_⟩
      · rw [xvol_send]; unfold fillMsg; rw [hl]; rfl
      · have hr := (hg.recs e he hgo).1
        refine ⟨?_, ⟨by simp [fillMsg], by simp [fillMsg]⟩, .inl rfl, by simp [fillMsg], fun hk => by simp [fillMsg] at hk, fun hk => by simp [fillMsg] at hk, fun hk => by simp [fillMsg] at hk, fun hk => by simp [fillMsg] at hk, fun hk => by simp [fillMsg] at hk, fun _ => hr⟩
        unfold MsgTo
        rw [if_neg (by simp [fillMsg])]
        exact hfr
  · rw [if_neg k7]
    by_cases k8 : m.kind = 8
    · have hr := hm.k68 (.inr k8)
      rw [if_pos k8, arrive_8 hxu k8]
      unfold XSeg.fill
      rw [hxc]
      simp only [XVol.sendO]
      cases hgd : good g.cuts m.lsn m.epoch with
      | false => simp only [Bool.false_eq_true, if_false]; rw [setSeg_same hi]; exact ⟨rfl, h⟩
      | true =>
        simp only [if_true]
        rw [xseg_take g m hr.1 hr.2.1, xvol_seg]
        exact ⟨rfl, h.seg_one _ _ (hg.coming m hr hgd)⟩
    · rw [if_neg k8]
      have hk136 : m.kind = 1 ∨ m.kind = 3 ∨ m.kind = 6 := by omega
      have hw := hm.wr hk136
      by_cases hlt : m.epoch < g.epoch
      · rw [if_pos hlt]
        have hri := refused_inv hm hk136 g.epoch
        refine ⟨?_, h.send _ hri⟩
        rw [xvol_send]
        have hrf : (xseg g).refusal m = refusedMsg m g.epoch := rfl
        rcases hk136 with k | k | k
        · rw [arrive_1 hxu k]; unfold XSeg.fence; rw [hxe, if_pos hlt, hrf]; simp only; rw [setSeg_same hi]; rfl
        · rw [arrive_3 hxu k]; unfold XSeg.cut; rw [hxe, if_pos hlt, hrf]; simp only; rw [setSeg_same hi]; rfl
        · rw [arrive_6 hxu k]; unfold XSeg.write; rw [hxe, if_pos hlt, hrf]; simp only; rw [setSeg_same hi]; rfl
      · rw [if_neg hlt]
        by_cases k1 : m.kind = 1
        · rw [if_pos k1, arrive_1 hxu k1]
          unfold XSeg.fence
          rw [hxe, if_neg hlt]
          simp only
          refine ⟨?_, (h.seg_one _ _ (hg.epochUp m.epoch (by omega))).send _ ?_⟩
          · rw [xvol_send, xvol_seg, xseg_epochUp]
            unfold fencedMsg
            rw [xmarks_seg g hg.ents]; rfl
          · show MsgInv r.pens _
            refine ⟨?_, ⟨by simp [fencedMsg], by simp [fencedMsg]⟩, hg.ct, ?_, fun _ => ht, fun hk => by simp [fencedMsg] at hk, fun _ => ?_, fun hk => by simp [fencedMsg] at hk, fun hk => by simp [fencedMsg] at hk, fun hk => by simp [fencedMsg] at hk⟩
            · unfold MsgTo
              rw [if_pos (by simp [fencedMsg])]
              simp only [fencedMsg]; omega
            · simp only [fencedMsg, marksOf_len]; exact scl_le40 g hg.ents
            · simp only [fencedMsg]; have := hg.top; omega
        · rw [if_neg k1]
          by_cases k3 : m.kind = 3
          · rw [if_pos k3, arrive_3 hxu k3]
            obtain ⟨p, d, hc⟩ := hm.k3 k3
            have htop : topOf m.cuts = m.epoch := by rw [hc, topOf_dec]
            obtain ⟨hi', ht', he'⟩ := hg.afterCut m (by omega) hm.ct htop
            have hx := xseg_afterCut g hg.ents m
            unfold XSeg.cut
            rw [hxe, if_neg hlt]
            simp only
            rw [← hx]
            refine ⟨?_, (h.seg_one _ _ hi').send _ ?_⟩
            · rw [xvol_send, xvol_seg]
              unfold XSeg.status statusMsg
              rw [xscl_seg _ hi'.ents, he', et, hw.1]; rfl
            · exact status_inv (h.seg_one m.to_.toNat _ hi') hi' _ (by omega) (p := p) (by rw [he']; exact d) (by rw [ht', he'])
          · have k6 : m.kind = 6 := by omega
            rw [if_neg k3, arrive_6 hxu k6]
            have hr := hm.k68 (.inl k6)
            unfold XSeg.write
            rw [hxe, if_neg hlt, hxc]
            by_cases hc : m.epoch = g.epoch ∧ topOf g.cuts = g.epoch
            · rw [if_pos hc, if_neg (by omega), xseg_at g hg.ents]
              have hkp := keptAt_pl g.entries m.lsn
              obtain ⟨p, d, hcd⟩ := hg.ct.dec (by omega)
              rw [hc.2] at d
              cases hka : keptAt g.entries m.lsn with
              | some e =>
                rw [(keptAt_eq hka).2.1]
                simp only [if_true]
                rw [setSeg_same hi]
                refine ⟨?_, h.send _ (status_inv h hg _ (by omega) d hc.2)⟩
                rw [xvol_send]
                unfold XSeg.status statusMsg
                rw [xscl_seg _ hg.ents, et, hw.1, hc.1]; rfl
              | none =>
                rw [hka] at hkp
                rw [if_neg (by intro h2; rw [h2] at hkp; simp at hkp)]
                simp only [XVol.sendO]
                rw [xseg_take g m hr.1 hr.2.1, xvol_seg]
                refine ⟨rfl, h.seg_one _ _ (hg.coming m hr ?_)⟩
                have hs := (hg.ct.sorted h).1
                unfold good
                rw [Bool.and_eq_true, List.any_eq_true, List.all_eq_true]
                refine ⟨⟨(g.epoch, (baseOf p.fenced : Int)), by rw [hcd, hc.2]; unfold decCuts; simp, by simp [hc.1]⟩, fun c hcm => ?_⟩
                have := top_max hs c hcm
                rw [show decide (m.epoch < c.1) = false from by simp; omega]; rfl
            · rw [if_neg hc, if_pos (by omega)]
              simp only [XVol.sendO]
              rw [setSeg_same hi]
              exact ⟨rfl, h⟩
end Go.Proofs.YtfpbkghcjaonlaaGreat.Sim

/-
  The simulation: Deliver, Drop, Copy, Open, Resend, Append.
-/
namespace Go.Proofs.YtfpbkghcjaonlaaGreat.Sim

theorem cut_inv {r : RVol} {i : Nat} {p : RPen} (hi : r.pens[i]? = some p) (h4 : 4 ≤ p.fenced.length) (s : Nat) (hs : s < 6) : MsgInv r.pens (cutMsg ((i : Int) + 1) (decCuts p.fenced ((i : Int) + 1)) s) := by
  have hl := (List.getElem?_eq_some_iff.1 hi).1
  have d : Dec r.pens ((i : Int) + 1) p := ⟨i, rfl, hi, h4⟩
  refine ⟨?_, ⟨by simp [cutMsg], by simp [cutMsg]⟩, .inr ⟨_, p, d, rfl⟩, by simp [cutMsg], fun hk => by simp [cutMsg] at hk, fun _ => ⟨rfl, by simp only [cutMsg]; omega, by simp only [cutMsg]; omega⟩, fun hk => by simp [cutMsg] at hk, fun _ => ⟨p, d, rfl⟩, fun hk => by simp [cutMsg] at hk, fun hk => by simp [cutMsg] at hk⟩
  unfold MsgTo
  rw [if_neg (by simp [cutMsg])]
  simp only [cutMsg]; omega
theorem fence_inv {r : RVol} (n : Int) (h1 : 1 ≤ n) (h2 : n ≤ (r.pens.length : Int)) (s : Nat) (hs : s < 6) : MsgInv r.pens (fenceMsg n s) := by
  refine ⟨?_, ⟨by simp [fenceMsg], by simp [fenceMsg]⟩, .inl rfl, by simp [fenceMsg], fun hk => by simp [fenceMsg] at hk, fun _ => ⟨rfl, h1, h2⟩, fun hk => by simp [fenceMsg] at hk, fun hk => by simp [fenceMsg] at hk, fun hk => by simp [fenceMsg] at hk, fun hk => by simp [fenceMsg] at hk⟩
  unfold MsgTo
  rw [if_neg (by simp [fenceMsg])]
  simp only [fenceMsg]; omega
theorem write_inv {r : RVol} {n lsn v : Int} (hr : RecInv r.pens n lsn v) (s : Nat) (hs : s < 6) : MsgInv r.pens (writeMsg n lsn v s) := by
  obtain ⟨_, _, p, d, _⟩ := id hr
  have h1 := d.pos
  have h2 := d.le
  refine ⟨?_, ⟨by simp [writeMsg], by simp [writeMsg]⟩, .inl rfl, by simp [writeMsg], fun hk => by simp [writeMsg] at hk, fun _ => ⟨rfl, h1, h2⟩, fun hk => by simp [writeMsg] at hk, fun hk => by simp [writeMsg] at hk, fun hk => by simp [writeMsg] at hk, fun _ => hr⟩
  unfold MsgTo
  rw [if_neg (by simp [writeMsg])]
  simp only [writeMsg]; omega

theorem map_some_range (f : Nat → Msg) : (List.range 6).filterMap (fun s => some (f s)) = (List.range 6).map f := by
  rw [← List.filterMap_eq_map]; rfl
theorem Inv.setPen {r : RVol} (h : Inv r) {i : Nat} {p p' : RPen} (hi : r.pens[i]? = some p) (hle : 4 ≤ p.fenced.length → p'.fenced = p.fenced ∧ p.values <+: p'.values) (hp : PenInv r.pens r.wi ((i : Int) + 1) p') : Inv (r.setPen i p') := by
  have hl := PLe.set hi hle
  exact h.pens_one i p' hl (hp.mono hl)

theorem warr_2 (x : XWr) {m : Msg} (h0 : 0 ≤ m.frm) (h6 : m.frm < 6) (k : m.kind = 2) : x.arrive m = x.hearFenced m := by
  unfold XWr.arrive; rw [if_neg (by omega), if_pos k]
theorem warr_4 (x : XWr) {m : Msg} (h0 : 0 ≤ m.frm) (h6 : m.frm < 6) (k : m.kind = 4) : x.arrive m = (x.hearStatus m, []) := by
  unfold XWr.arrive; rw [if_neg (by omega), if_neg (by omega), if_pos k]
theorem warr_5 (x : XWr) {m : Msg} (h0 : 0 ≤ m.frm) (h6 : m.frm < 6) (k : m.kind = 5) : x.arrive m = (x.stop, []) := by
  unfold XWr.arrive; rw [if_neg (by omega), if_neg (by omega), if_neg (by omega), if_pos k]

theorem sim_wHears {r : RVol} (h : Inv r) (m : Msg) (hm : MsgInv r.pens m) (hk : m.kind = 2 ∨ m.kind = 4 ∨ m.kind = 5) : xvol (r.wHears m) = (xvol r).atWr m ∧ Inv (r.wHears m) := by
  have ht := hm.to_
  unfold MsgTo at ht
  rw [if_pos hk] at ht
  have hfr := hm.fr (by omega)
  obtain ⟨i, hi⟩ : ∃ i : Nat, m.to_ = (i : Int) + 1 := ⟨(m.to_ - 1).toNat, by omega⟩
  have et : m.to_.toNat - 1 = i := by omega
  have hil : i < r.pens.length := by omega
  obtain ⟨p, hp⟩ : ∃ p, r.pens[i]? = some p := ⟨r.pens[i], List.getElem?_eq_getElem hil⟩
  have hpi := h.pens i p hp
  have hx : (xvol r).wrs[i]? = some (xpen ((i : Int) + 1) p) := by unfold xvol; simp only; rw [List.getElem?_mapIdx, hp]; rfl
  unfold RVol.wHears XVol.atWr
  rw [if_neg (by omega), et, hp, hx]
  simp only
  have hph : (xpen ((i : Int) + 1) p).phase = p.stands.phase := rfl
  rcases hk with k | k | k
  · rw [if_neg (show ¬ m.kind = 5 by omega), if_neg (show ¬ (m.kind = 4 ∧ (p.stands.phase = 2 ∨ p.stands.phase = 3)) by omega), warr_2 _ hfr.1 hfr.2 k]
    by_cases hp1 : p.stands.phase = 1
    · rw [if_pos ⟨k, hp1⟩]
      have hcase : p.over = false ∧ p.fenced.length < 4 := by
        rcases hpi.cases with ⟨_, h5⟩ | ⟨ho, h4, h5⟩ | ⟨_, _, _, h5⟩ | ⟨_, _, _, h5⟩
        · rw [hp1] at h5; simp at h5
        · exact ⟨ho, h4⟩
        · rw [h5] at hp1; simp at hp1
        · rw [h5] at hp1; simp at hp1
      obtain ⟨ho, h4⟩ := hcase
      unfold RVol.heard
      cases hh : heardIn p.fenced m.frm with
      | true =>
        simp only [if_true]
        unfold XWr.hearFenced
        rw [if_pos (.inr (by rw [hasNote_eq ho h4]; exact hh))]
        simp only
        rw [setWr_same hp]
        exact ⟨rfl, h⟩
      | false =>
        simp only [Bool.false_eq_true, if_false]
        have ht2 := hm.k2 k
        obtain ⟨hX, hP⟩ := xpen_fenced h hp ho h4 m hh hm.ct hm.mrk hfr.1 hfr.2 (by omega)
        rw [hX]
        have hle : 4 ≤ p.fenced.length → ({ p with fenced := p.fenced ++ [m] } : RPen).fenced = p.fenced ∧ p.values <+: ({ p with fenced := p.fenced ++ [m] } : RPen).values := fun h' => by omega
        have hI := h.setPen hp hle hP
        by_cases h3 : p.fenced.length + 1 = 4
        · rw [if_pos h3, if_pos h3]
          simp only
          rw [sendUp_eq, xvol_sendsUp, xvol_pen, map_some_range, hi]
          refine ⟨rfl, hI.sendsUp _ 6 (fun s hs m' hm' => ?_)⟩
          have := Option.some.inj hm'
          subst this
          have hp' : (r.setPen i { p with fenced := p.fenced ++ [m] }).pens[i]? = some { p with fenced := p.fenced ++ [m] } := by
            simp only [RVol.setPen]; rw [List.getElem?_set_self hil]
          exact cut_inv hp' (by simp; omega) s hs
        · rw [if_neg h3, if_neg h3]
          simp only
          rw [xvol_pen]
          exact ⟨rfl, hI⟩
    · rw [if_neg (fun h' => hp1 h'.2)]
      unfold XWr.hearFenced
      rw [if_pos (.inl (by rw [hph]; exact hp1))]
      simp only
      rw [setWr_same hp]
      exact ⟨rfl, h⟩
  · rw [if_neg (show ¬ m.kind = 5 by omega), warr_4 _ hfr.1 hfr.2 k]
    simp only
    obtain ⟨hs0, q, ⟨j, hj, hjq, h4⟩, hs1⟩ := hm.k4 k
    have hji : j = i := by omega
    subst hji
    rw [hp] at hjq
    have := Option.some.inj hjq
    subst this
    have hl4 := hpi.f4
    by_cases ho : p.over = true
    · have hp4 : p.stands.phase = 4 := by rw [stands_over ho]; exact (hpi.ov ho).1
      rw [if_neg (by rw [hp4]; simp), if_neg (by omega)]
      unfold XWr.hearStatus
      rw [if_neg (by rw [hph, hp4]; decide), setWr_same hp]
      exact ⟨rfl, h⟩
    · have ho' : p.over = false := by simpa using ho
      have hp23 : p.stands.phase = 2 ∨ p.stands.phase = 3 := by
        rcases hpi.cases with ⟨h5, _⟩ | ⟨_, h5, _⟩ | ⟨_, _, _, h5⟩ | ⟨_, _, _, h5⟩
        · exact absurd h5 ho
        · omega
        · left; rw [h5]
        · right; rw [h5]
      rw [if_pos ⟨k, hp23⟩]
      obtain ⟨hX, hP⟩ := xpen_status hpi ho' (by omega) m hs0 hs1 hfr.1 hfr.2 (by have := h.wi; omega)
      rw [hX, xvol_pen]
      exact ⟨rfl, h.setPen hp (fun _ => ⟨rfl, List.prefix_refl _⟩) hP⟩
  · rw [if_pos k, warr_5 _ hfr.1 hfr.2 k]
    simp only
    rw [xpen_stop _ _ (fun ho => (hpi.ov ho).1), xvol_pen]
    have hs := ended_same p
    exact ⟨rfl, h.setPen hp (fun _ => ⟨hs.1, by rw [hs.2.2]; exact List.prefix_refl _⟩) hpi.ended⟩

theorem sim_arrives {r : RVol} (h : Inv r) (m : Msg) (hm : MsgInv r.pens m) : xvol (r.arrives m) = (if m.kind = 2 ∨ m.kind = 4 ∨ m.kind = 5 then (xvol r).atWr m else (xvol r).atSeg m) ∧ Inv (r.arrives m) := by
  unfold RVol.arrives
  by_cases hk : m.kind = 2 ∨ m.kind = 4 ∨ m.kind = 5
  · rw [if_pos hk, if_pos hk]
    exact sim_wHears h m hm hk
  · rw [if_neg hk, if_neg hk]
    have ht := hm.to_
    unfold MsgTo at ht
    rw [if_neg hk] at ht
    have h6 := h.s6
    obtain ⟨g, hg⟩ : ∃ g, r.segs[m.to_.toNat]? = some g := ⟨r.segs[m.to_.toNat]'(by omega), List.getElem?_eq_getElem (by omega)⟩
    have hx : (xvol r).segs[m.to_.toNat]? = some (xseg g) := by unfold xvol; simp only; rw [List.getElem?_map, hg]; rfl
    unfold XVol.atSeg
    rw [if_neg (by omega), hg, hx]
    simp only
    cases hu : g.up with
    | true => simp only [if_true]; exact sim_sHears h m hm hk g hg hu
    | false =>
      simp only [Bool.false_eq_true, if_false]
      unfold XSeg.arrive
      rw [if_pos (show (xseg g).up = false from hu)]
      simp only [XVol.sendO]
      rw [setSeg_same hg]
      exact ⟨rfl, h⟩

theorem sim_deliver {r : RVol} (h : Inv r) (n : Int) : (xvol (r.deliver n).1, (r.deliver n).2) = (xvol r).deliver n ∧ Inv (r.deliver n).1 := by
  unfold RVol.deliver XVol.deliver
  rw [xvol_look]
  cases hp : placeE r.net n with
  | none => exact ⟨rfl, h⟩
  | some i =>
    simp only [Option.bind_some]
    cases hn : r.net[i]? with
    | none => exact ⟨rfl, h⟩
    | some q =>
      simp only [Option.map_some]
      have hm := h.net q (List.mem_of_getElem? hn)
      obtain ⟨h1, h2⟩ := sim_arrives (h.goneV i) q.1 hm
      rw [h1, xvol_gone r n i hp]
      exact ⟨rfl, h2⟩
theorem sim_drop {r : RVol} (h : Inv r) (n : Int) : (xvol (r.drop n), r.err12 n) = (xvol r).drop n ∧ Inv (r.drop n) := by
  unfold RVol.drop RVol.err12 XVol.drop
  rw [xvol_look]
  cases hp : placeE r.net n with
  | none => exact ⟨rfl, h⟩
  | some i =>
    have hi : i < r.net.length := (placeI_some hp).2
    simp only [Option.bind_some, List.getElem?_eq_getElem hi, Option.map_some]
    have := xvol_gone r n i hp
    unfold RVol.goneV at this
    rw [this]
    exact ⟨rfl, h.goneV i⟩
theorem messageAt_eq (net : List (Msg × Bool)) (n : Int) : messageAt net n = (placeE net n).bind fun i => net[i]?.map (·.1) := by
  unfold messageAt placeE; split <;> rfl
theorem sim_copy {r : RVol} (h : Inv r) (n : Int) : (xvol (r.copy n), r.err12 n) = (xvol r).copy n ∧ Inv (r.copy n) := by
  unfold RVol.copy RVol.err12 XVol.copy
  rw [xvol_look, messageAt_eq]
  cases hp : placeE r.net n with
  | none => exact ⟨rfl, h⟩
  | some i =>
    have hi : i < r.net.length := (placeI_some hp).2
    simp only [Option.bind_some, List.getElem?_eq_getElem hi, Option.map_some]
    rw [xvol_send]
    exact ⟨rfl, h.send _ (h.net _ (List.getElem_mem hi))⟩

theorem pen0_inv (pens : List RPen) (wi n : Int) : PenInv pens wi n pen0 := by
  refine ⟨by simp [pen0], fun m hm => by simp [pen0] at hm, fun _ => ⟨rfl, rfl⟩, fun m hm => by simp [pen0] at hm, fun h => by simp [pen0] at h, ?_, fun _ => rfl, fun h => by simp [pen0] at h, fun h => by simp [pen0] at h, fun h => by simp [pen0] at h, fun h => by simp [pen0] at h⟩
  have := baseOf_le40 (f := pen0.fenced) (fun m hm => by simp [pen0] at hm)
  simpa [pen0] using this
theorem PLe.snoc (pens : List RPen) (p : RPen) : PLe pens (pens ++ [p]) := ⟨by simp, fun i q hq _ => ⟨q, by rw [List.getElem?_append_left (List.getElem?_eq_some_iff.1 hq).1]; exact hq, rfl, List.prefix_refl _⟩⟩
theorem xpen0 (n : Int) : xpen n pen0 = xwr0 n := by
  refine wr_ext rfl rfl rfl rfl rfl rfl rfl rfl rfl rfl
theorem Inv.opened {r : RVol} (h : Inv r) (h9 : r.pens.length < 9) : Inv r.opened := by
  have hl := PLe.snoc r.pens pen0
  refine ⟨h.wi, h.fl, h.s6, by simp [RVol.opened]; omega, fun q hq => (h.net q hq).mono hl, fun g hg => (h.segs g hg).mono hl, fun i p hp => ?_, h.fly⟩
  simp only [RVol.opened] at hp ⊢
  by_cases hi : i < r.pens.length
  · rw [List.getElem?_append_left hi] at hp
    exact (h.pens i p hp).mono hl
  · rw [List.getElem?_append_right (by omega)] at hp
    have : p = pen0 := by
      cases hj : i - r.pens.length with
      | zero => rw [hj] at hp; exact (Option.some.inj hp).symm
      | succ j => rw [hj] at hp; simp at hp
    subst this
    exact pen0_inv _ _ _
theorem xvol_opened (r : RVol) : xvol r.opened = { xvol r with wrs := (xvol r).wrs ++ [xwr0 ((r.pens.length : Int) + 1)] } := by
  unfold xvol RVol.opened
  simp only
  congr 1
  rw [List.mapIdx_append]
  simp [xpen0]
theorem sim_open {r : RVol} (h : Inv r) : (xvol r.open_.1, r.open_.2) = (xvol r).open_ ∧ Inv r.open_.1 := by
  have h9 := h.p9
  have hl : (xvol r).wrs.length = r.pens.length := by simp [xvol]
  unfold RVol.open_ XVol.open_
  rw [hl]
  by_cases hn : r.pens.length = 9
  · rw [if_pos hn, if_pos (by omega)]; exact ⟨rfl, h⟩
  · rw [if_neg hn, if_neg (by omega)]
    simp only
    have hI := h.opened (by omega)
    rw [sendUp_eq, xvol_sendsUp, xvol_opened]
    refine ⟨?_, hI.sendsUp _ 6 (fun s hs m' hm' => ?_)⟩
    · congr 2
    · have := Option.some.inj hm'
      subst this
      exact fence_inv _ (by omega) (by simp [RVol.opened]) s hs

theorem may_eq (r : RVol) (n : Int) : r.may n = match writerAt r.pens n with | none => (⟨0, 0, 0, 0⟩, 3) | some p => (p.stands, if p.stands.phase = 4 then 4 else 0) := rfl
theorem writerAt_some {pens : List RPen} {n : Int} {p : RPen} (h : writerAt pens n = some p) : ∃ i : Nat, n = (i : Int) + 1 ∧ pens[i]? = some p ∧ n.toNat - 1 = i := by
  unfold writerAt at h
  split at h
  · simp at h
  · exact ⟨n.toNat - 1, by omega, h, rfl⟩
theorem sim_resend {r : RVol} (h : Inv r) (n : Int) : (xvol (r.resend n).1, (r.resend n).2) = (xvol r).resend n ∧ Inv (r.resend n).1 := by
  unfold RVol.resend XVol.resend
  rw [xvol_wrAt, may_eq]
  cases hw : writerAt r.pens n with
  | none => simp only [Option.map_none]; exact ⟨rfl, h⟩
  | some p =>
    obtain ⟨i, hn, hi, hti⟩ := writerAt_some hw
    have hp := h.pens i p hi
    simp only [Option.map_some]
    have hph : (xpen n p).phase = p.stands.phase := rfl
    rw [hph]
    by_cases h4 : p.stands.phase = 4
    · rw [if_pos h4]
      simp only [if_pos h4]
      exact ⟨rfl, h⟩
    · simp only [if_neg h4]
      rw [if_neg (by simp), hti, hi]
      simp only
      rw [xvol_sendsUp]
      have hdue : (xpen n p).due = (List.range 6).filterMap (resMsg p p.stands n) := by
        unfold XWr.due
        apply fmap_congr
        intro s hs
        exact xpen_due (by rw [hn]; exact hp) h4 s (by simpa using hs)
      rw [hdue]
      refine ⟨rfl, h.sendsUp _ 6 (fun s hs m hm => ?_)⟩
      unfold resMsg at hm
      have hle := (List.getElem?_eq_some_iff.1 hi).1
      rcases hp.cases with ⟨_, h5⟩ | ⟨ho, hl4, h5⟩ | ⟨ho, hl4, hf, h5⟩ | ⟨ho, hl4, hf, h5⟩
      · exact absurd h5 h4
      · rw [h5] at hm
        simp only [if_true] at hm
        split at hm
        · simp at hm
        · rw [← Option.some.inj hm]; exact fence_inv n (by omega) (by omega) s hs
      all_goals
        have h40 := hp.n40
        rw [h5] at hm
        simp only [show ((2 : Int) = 1) = False from by simp, show ((3 : Int) = 1) = False from by simp, if_false] at hm
        split at hm
        · rw [← Option.some.inj hm, hn]; exact cut_inv hi (by omega) s hs
        · split at hm
          · rename_i hc
            rw [← Option.some.inj hm]
            refine write_inv ⟨by omega, by omega, p, ⟨i, hn, hi, by omega⟩, by omega, ?_⟩ s hs
            rw [show notedN p.status (s : Int) + 1 - (baseOf p.fenced : Int) - 1 = notedN p.status (s : Int) - (baseOf p.fenced : Int) from by omega]
            rw [List.getD_eq_getElem?_getD, List.getElem?_eq_getElem (by omega)]; rfl
          · simp at hm

theorem sim_append {r : RVol} (h : Inv r) (n v : Int) : (xvol (r.append n v).1, (r.append n v).2) = (xvol r).append n v ∧ Inv (r.append n v).1 := by
  unfold RVol.append XVol.append
  rw [xvol_wrAt, may_eq]
  cases hw : writerAt r.pens n with
  | none => simp only [Option.map_none]; exact ⟨rfl, h⟩
  | some p =>
    obtain ⟨i, hn, hi, hti⟩ := writerAt_some hw
    have hp := h.pens i p hi
    have hp' : PenInv r.pens r.wi n p := by rw [hn]; exact hp
    simp only [Option.map_some]
    obtain ⟨a4, a5, a7, a6⟩ := xpen_append_no hp' v
    have hwi : (xvol r).wi = r.wi := rfl
    rw [hwi]
    by_cases h4 : p.stands.phase = 4
    · simp only [if_pos h4]
      rw [a4 h4]
      exact ⟨rfl, h⟩
    · simp only [if_neg h4]
      rw [if_neg (by simp)]
      by_cases h3 : p.stands.phase = 3
      · rw [if_neg (by simpa using h3)]
        rcases hp.cases with ⟨_, h5⟩ | ⟨ho, hl4, h5⟩ | ⟨ho, hl4, hf, h5⟩ | ⟨ho, hl4, hf, h5⟩
        · exact absurd h5 h4
        · rw [h5] at h3; simp at h3
        · rw [h5] at h3; simp at h3
        · by_cases h40 : p.stands.next = 40
          · rw [if_pos h40, a7 h3 h40]
            exact ⟨rfl, h⟩
          · rw [if_neg h40]
            by_cases hwn : p.stands.next = p.stands.dur + r.wi
            · rw [if_pos hwn, a6 h3 h40 hwn]
              exact ⟨rfl, h⟩
            · rw [if_neg hwn]
              have e1 : p.stands.next = (baseOf p.fenced : Int) + (p.values.length : Int) := by rw [h5]
              have e2 : p.stands.dur = (durUp p.status (baseOf p.fenced) (p.values.length + 1) : Int) := by rw [h5]
              obtain ⟨hX, hP, hW⟩ := xpen_append hp' ho hl4 hf v (by rw [← e1]; exact h40) (by rw [← e1, ← e2]; exact hwn)
              rw [hX]
              simp only [ne_eq, not_true, if_false]
              rw [hW, hti, e1]
              have hil := (List.getElem?_eq_some_iff.1 hi).1
              have hpu : r.pushed i v = r.setPen i { p with values := p.values ++ [v] } := by unfold RVol.pushed; rw [hi]; rfl
              have hI := h.setPen (p' := { p with values := p.values ++ [v] }) hi (fun _ => ⟨rfl, List.prefix_append _ _⟩) (by rw [hn] at hP; exact hP)
              rw [hpu, sendUp_eq, xvol_sendsUp, map_some_range, xvol_pen, ← hn]
              refine ⟨rfl, hI.sendsUp _ 6 (fun s hs m' hm' => ?_)⟩
              rw [← Option.some.inj hm']
              have h9 := hp.n40
              have hne : ¬ (baseOf p.fenced : Int) + (p.values.length : Int) = 40 := by rw [← e1]; exact h40
              refine write_inv ⟨by omega, by omega, _, ⟨i, hn, by simp only [RVol.setPen]; rw [List.getElem?_set_self hil], by show 4 ≤ p.fenced.length; omega⟩, by simp only; omega, ?_⟩ s hs
              simp only
              rw [show ((baseOf p.fenced : Int) + (p.values.length : Int) + 1 - (baseOf p.fenced : Int) - 1).toNat = p.values.length from by omega]
              simp
      · rw [if_pos h3, a5 h4 h3]
        exact ⟨rfl, h⟩
end Go.Proofs.YtfpbkghcjaonlaaGreat.Sim
