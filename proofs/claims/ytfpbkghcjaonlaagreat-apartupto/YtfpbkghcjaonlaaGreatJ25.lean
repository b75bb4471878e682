import Derived.Test.YtfpbkghcjaonlaaGreatJ24
import Derived.Test.YtfpbkghcjaonlaaGreatJ22
/-
  The simulation: Sync, Crash, Restart, Gossip, Read.
-/
namespace Go.Proofs.YtfpbkghcjaonlaaGreat.Sim

theorem SegInv.sync {pens : List RPen} {g : RSeg} (h : SegInv pens g) : SegInv pens { g with entries := g.entries.map syncE } := by
  refine ⟨sync_ok h.ents, h.ct, h.top, fun e he hgo => ?_⟩
  obtain ⟨e0, hm0, rfl⟩ := List.mem_map.1 he
  unfold syncE at hgo ⊢
  split at hgo
  · rename_i hh; rw [if_pos hh]; exact h.recs e0 hm0 hgo
  · rename_i hh; rw [if_neg hh]; exact h.recs e0 hm0 (by simpa using hh)
theorem SegInv.crash {pens : List RPen} {g : RSeg} (h : SegInv pens g) : SegInv pens { g with up := false, entries := g.entries.map crashE } := by
  refine ⟨crash_ok h.ents, h.ct, h.top, fun e he hgo => ?_⟩
  obtain ⟨e0, hm0, rfl⟩ := List.mem_map.1 he
  unfold crashE at hgo ⊢
  split at hgo
  · rename_i hh; rw [if_pos hh]; exact h.recs e0 hm0 hgo
  · simp at hgo
theorem SegInv.restart {pens : List RPen} {g : RSeg} (h : SegInv pens g) : SegInv pens { g with up := true } := ⟨h.ents, h.ct, h.top, h.recs⟩

theorem sim_sync {r : RVol} (h : Inv r) (n : Int) : (xvol (r.sync n).1, (r.sync n).2) = (xvol r).sync n ∧ Inv (r.sync n).1 := by
  unfold RVol.sync XVol.sync
  by_cases h0 : n < 0
  · rw [if_pos h0, if_pos h0]; exact ⟨rfl, h⟩
  · rw [if_neg h0, if_neg h0]
    have hx : (xvol r).segs[n.toNat]? = (r.segs[n.toNat]?).map xseg := by unfold xvol; simp only; rw [List.getElem?_map]
    rw [hx]
    cases hg : r.segs[n.toNat]? with
    | none => exact ⟨rfl, h⟩
    | some g =>
      simp only [Option.map_some]
      rw [show (xseg g).up = g.up from rfl]
      have hl := (List.getElem?_eq_some_iff.1 hg).1
      have h6 := h.s6
      cases hu : g.up with
      | false => simp only [Bool.false_eq_true, if_false]; exact ⟨trivial, h⟩
      | true =>
        simp only [if_true]
        have hgi := h.segs g (List.mem_of_getElem? hg)
        have hs := xseg_synced g hgi.ents
        have hsy : r.synced n.toNat = r.setSeg n.toNat { g with entries := g.entries.map syncE } := by unfold RVol.synced; rw [hg]; rfl
        have hg' := hgi.sync
        have hI := h.seg_one n.toNat _ hg'
        have hget : (r.setSeg n.toNat { g with entries := g.entries.map syncE }).segs[n.toNat]? = some { g with entries := g.entries.map syncE } := by simp only [RVol.setSeg]; rw [List.getElem?_set_self hl]
        rw [hsy]
        unfold RVol.after XSeg.sync
        rw [hget, hs]
        generalize ({ g with entries := g.entries.map syncE } : RSeg) = g' at *
        simp only
        have e1 : (xseg g').epoch = g'.epoch := rfl
        have e2 : (xseg g').cuts = g'.cuts := rfl
        rw [e1, e2]
        by_cases hc : g'.epoch ≠ 0 ∧ topOf g'.cuts = g'.epoch
        · rw [if_pos hc, if_neg (by omega)]
          simp only [XVol.sendO]
          rw [xvol_send, xvol_seg]
          obtain ⟨p, d, _⟩ := hg'.ct.dec (by omega)
          rw [hc.2] at d
          refine ⟨?_, hI.send _ (status_inv hI hg' _ (by omega) d hc.2)⟩
          unfold XSeg.status statusMsg
          rw [xscl_seg _ hg'.ents, show ((n.toNat : Nat) : Int) = n from by omega]
        · rw [if_neg hc, if_pos (by omega)]
          simp only [XVol.sendO]
          rw [xvol_seg]
          exact ⟨rfl, hI⟩
theorem sim_crash {r : RVol} (h : Inv r) (n : Int) : (xvol (r.crash n).1, (r.crash n).2) = (xvol r).crash n ∧ Inv (r.crash n).1 := by
  unfold RVol.crash XVol.crash
  rw [xvol_segAt]
  by_cases h0 : n < 0
  · rw [if_pos h0, if_pos h0]; exact ⟨rfl, h⟩
  · rw [if_neg h0, if_neg h0]
    cases hg : r.segs[n.toNat]? with
    | none => exact ⟨rfl, h⟩
    | some g =>
      simp only [Option.map_some]
      rw [show (xseg g).up = g.up from rfl]
      have hgi := h.segs g (List.mem_of_getElem? hg)
      cases hu : g.up with
      | false => simp only [Bool.false_eq_true, if_false]; exact ⟨trivial, h⟩
      | true =>
        simp only [if_true]
        rw [xseg_crash g hgi.ents]
        exact ⟨by rw [← xvol_seg]; rfl, h.seg_one n.toNat _ hgi.crash⟩
theorem sim_restart {r : RVol} (h : Inv r) (n : Int) : (xvol (r.restart n).1, (r.restart n).2) = (xvol r).restart n ∧ Inv (r.restart n).1 := by
  unfold RVol.restart XVol.restart
  rw [xvol_segAt]
  by_cases h0 : n < 0
  · rw [if_pos h0, if_pos h0]; exact ⟨rfl, h⟩
  · rw [if_neg h0, if_neg h0]
    cases hg : r.segs[n.toNat]? with
    | none => exact ⟨rfl, h⟩
    | some g =>
      simp only [Option.map_some]
      rw [show (xseg g).up = g.up from rfl]
      have hgi := h.segs g (List.mem_of_getElem? hg)
      cases hu : g.up with
      | true => simp only [if_true]; exact ⟨trivial, h⟩
      | false =>
        simp only [Bool.false_eq_true, if_false]
        rw [xseg_restart]
        exact ⟨by rw [← xvol_seg]; rfl, h.seg_one n.toNat _ hgi.restart⟩
theorem sim_gossip {r : RVol} (h : Inv r) (a b : Int) : (xvol (r.gossip a b).1, (r.gossip a b).2) = (xvol r).gossip a b ∧ Inv (r.gossip a b).1 := by
  have h6 := h.s6
  unfold RVol.gossip XVol.gossip
  rw [xvol_segAt]
  by_cases hbad : b < 0 ∨ 6 ≤ b ∨ a = b
  · rw [if_pos (show a < 0 ∨ 5 < a ∨ b < 0 ∨ 5 < b ∨ a = b by omega), if_pos hbad]; exact ⟨rfl, h⟩
  · rw [if_neg hbad]
    by_cases h0 : a < 0
    · rw [if_pos (show a < 0 ∨ 5 < a ∨ b < 0 ∨ 5 < b ∨ a = b by omega), if_pos h0]; exact ⟨rfl, h⟩
    · rw [if_neg h0]
      by_cases h5 : 5 < a
      · rw [if_pos (show a < 0 ∨ 5 < a ∨ b < 0 ∨ 5 < b ∨ a = b by omega), List.getElem?_eq_none (by omega)]; exact ⟨rfl, h⟩
      · rw [if_neg (show ¬ (a < 0 ∨ 5 < a ∨ b < 0 ∨ 5 < b ∨ a = b) by omega)]
        cases hg : r.segs[a.toNat]? with
        | none => exact ⟨rfl, h⟩
        | some g =>
          simp only [Option.map_some]
          rw [show (xseg g).up = g.up from rfl]
          have hgi := h.segs g (List.mem_of_getElem? hg)
          cases hu : g.up with
          | false => simp only [Bool.false_eq_true, if_false]; exact ⟨trivial, h⟩
          | true =>
            simp only [if_true]
            rw [xvol_send]
            refine ⟨?_, h.send _ ?_⟩
            · unfold XSeg.need needMsg; rw [xscl_seg _ hgi.ents]
            · refine ⟨?_, ⟨by simp [needMsg], by simp [needMsg]⟩, .inl rfl, by simp [needMsg], fun _ => by simp only [needMsg]; omega, fun hk => by simp [needMsg] at hk, fun hk => by simp [needMsg] at hk, fun hk => by simp [needMsg] at hk, fun hk => by simp [needMsg] at hk, fun hk => by simp [needMsg] at hk⟩
              unfold MsgTo
              rw [if_neg (by simp [needMsg])]
              simp only [needMsg]; omega

theorem find_congr {A : Type} {p q : A → Bool} : ∀ {l : List A}, (∀ a ∈ l, p a = q a) → l.find? p = l.find? q
  | [], _ => rfl
  | a :: r, h => by rw [List.find?_cons, List.find?_cons, h a List.mem_cons_self, find_congr (fun b hb => h b (List.mem_cons_of_mem _ hb))]
theorem asked_eq (r : RVol) (n : Int) (p : RPen) (lsn : Int) : (xvol r).asked (xpen n p) lsn = r.pickSeg p lsn := by
  unfold XVol.asked RVol.pickSeg
  apply find_congr
  intro s hs
  have hs6 : s < 6 := by simpa using hs
  unfold RVol.reads
  have e1 : (xpen n p).noted.getD s 0 = notedN p.status (s : Int) := notedL_get p.status s hs6
  have e2 : (xvol r).segs[s]? = (r.segs[s]?).map xseg := by unfold xvol; simp only; rw [List.getElem?_map]
  rw [e1, e2]
  cases r.segs[s]? <;> rfl
theorem sim_read {r : RVol} (h : Inv r) (n lsn : Int) : (xvol (r.read n lsn).1, (r.read n lsn).2) = (xvol r).read n lsn ∧ Inv (r.read n lsn).1 := by
  unfold RVol.read XVol.read
  rw [xvol_wrAt, may_eq]
  cases hw : writerAt r.pens n with
  | none => simp only [Option.map_none]; exact ⟨rfl, h⟩
  | some p =>
    obtain ⟨i, hn, hi, hti⟩ := writerAt_some hw
    have hp := h.pens i p hi
    simp only [Option.map_some]
    have hrd : (xpen n p).readable lsn = if p.stands.phase = 4 then 4 else if p.stands.phase ≠ 3 then 5 else if lsn < 1 ∨ p.stands.dur < lsn then 8 else 0 := rfl
    rw [hrd, asked_eq]
    by_cases h4 : p.stands.phase = 4
    · simp only [if_pos h4]; exact ⟨rfl, h⟩
    · simp only [if_neg h4]
      rw [if_neg (show ¬ ((0 : Int) ≠ 0) by simp)]
      by_cases h3 : p.stands.phase ≠ 3
      · rw [if_pos h3, if_pos (by rw [if_pos h3]; decide), if_pos h3]; exact ⟨rfl, h⟩
      · rw [if_neg h3]
        simp only [if_neg h3]
        by_cases hl : lsn < 1 ∨ p.stands.dur < lsn
        · rw [if_pos hl, if_pos (by rw [if_pos hl]; decide), if_pos hl]; exact ⟨rfl, h⟩
        · rw [if_neg hl, if_neg (by rw [if_neg hl]; simp), hti, hi]
          simp only
          unfold RVol.readOf
          cases hps : r.pickSeg p lsn with
          | none => exact ⟨rfl, h⟩
          | some s =>
            simp only [Option.bind_some]
            have e2 : (xvol r).segs[s]? = (r.segs[s]?).map xseg := by unfold xvol; simp only; rw [List.getElem?_map]
            rw [e2]
            cases hg : r.segs[s]? with
            | none => exact ⟨rfl, h⟩
            | some g =>
              simp only [Option.map_some]
              have hgi := h.segs g (List.mem_of_getElem? hg)
              rw [show (xseg g).epoch = g.epoch from rfl, xseg_value g hgi.ents]
              by_cases he : n < g.epoch
              · rw [if_pos (show (i : Int) + 1 < g.epoch by omega), if_pos he]
                have hen : r.ends i = r.setPen i p.ended := by unfold RVol.ends; rw [hi]; rfl
                simp only
                rw [hen, xpen_stop _ _ (fun ho => (hp.ov ho).1), xvol_pen, ← hn]
                have hs := ended_same p
                exact ⟨rfl, h.setPen hi (fun _ => ⟨hs.1, by rw [hs.2.2]; exact List.prefix_refl _⟩) hp.ended⟩
              · rw [if_neg (show ¬ (i : Int) + 1 < g.epoch by omega), if_neg he]
                exact ⟨rfl, h⟩
end Go.Proofs.YtfpbkghcjaonlaaGreat.Sim

/-
  The simulation: how much there is after so many calls.
-/
namespace Go.Proofs.YtfpbkghcjaonlaaGreat.Sim

structure SegSz (m : Nat) (g : RSeg) : Prop where
  e0 : 0 < g.epochs.length
  e1 : g.epochs.length ≤ m + 1
  l0 : 0 < g.lists.length
  l1 : g.lists.length ≤ m + 1
  lk : ∀ l ∈ g.lists, l.length ≤ 9
  en : g.entries.length ≤ m
/-- How much there is after so many calls. -/
structure Sz (N m : Nat) (r : RVol) : Prop where
  net : r.net.length ≤ N
  seg : ∀ g ∈ r.segs, SegSz m g
  pen : ∀ p ∈ r.pens, p.status.length ≤ m

theorem SegSz.mono {m m' : Nat} {g : RSeg} (h : SegSz m g) (hm : m ≤ m') : SegSz m' g := ⟨h.e0, by have := h.e1; omega, h.l0, by have := h.l1; omega, h.lk, by have := h.en; omega⟩
theorem Sz.mono {N N' m m' : Nat} {r : RVol} (h : Sz N m r) (hN : N ≤ N') (hm : m ≤ m') : Sz N' m' r := ⟨Nat.le_trans h.net hN, fun g hg => (h.seg g hg).mono hm, fun p hp => Nat.le_trans (h.pen p hp) hm⟩
theorem Sz.send {N m : Nat} {r : RVol} (h : Sz N m r) (x : Msg) : Sz (N + 1) m (r.send x) := by
  refine ⟨?_, h.seg, h.pen⟩
  have := sendNet_len r.fl r.net x
  have := h.net
  simp only [RVol.send]; omega
theorem Sz.sendO {N m : Nat} {r : RVol} (h : Sz N m r) (o : Option Msg) : Sz (N + 1) m (r.sendO o) := by
  cases o with
  | none => exact h.mono (by omega) (Nat.le_refl _)
  | some x => exact h.send x
theorem Sz.sendsUp {N m : Nat} {r : RVol} (h : Sz N m r) (f : Nat → Option Msg) : ∀ n, Sz (N + n) m (r.sendsUp f n)
  | 0 => h
  | n + 1 => (h.sendsUp f n).sendO (f n)
theorem Sz.seg_one {N m : Nat} {r : RVol} (h : Sz N m r) (i : Nat) (g : RSeg) (hg : SegSz m g) : Sz N m (r.setSeg i g) :=
  ⟨h.net, fun q hq => by
    rcases List.mem_or_eq_of_mem_set hq with h1 | rfl
    · exact h.seg q h1
    · exact hg, h.pen⟩
theorem Sz.setPen {N m : Nat} {r : RVol} (h : Sz N m r) (i : Nat) (p : RPen) (hp : p.status.length ≤ m) : Sz N m (r.setPen i p) :=
  ⟨h.net, h.seg, fun q hq => by
    rcases List.mem_or_eq_of_mem_set hq with h1 | rfl
    · exact h.pen q h1
    · exact hp⟩
theorem Sz.goneV {N m : Nat} {r : RVol} (h : Sz N m r) (i : Nat) : Sz N m (r.goneV i) := by
  refine ⟨?_, h.seg, h.pen⟩
  have := h.net
  simp only [RVol.goneV, goneAt]
  split
  · simpa using this
  · exact this
theorem comeTo_len (l : List Ent) (x : Int × Int × Int) : (comeTo l x).length ≤ l.length + 1 := by unfold comeTo; split <;> simp
theorem SegSz.coming {m : Nat} {g : RSeg} (h : SegSz m g) (x : Msg) : SegSz (m + 1) (g.coming x) :=
  ⟨h.e0, by have := h.e1; simp only [RSeg.coming]; omega, h.l0, by have := h.l1; simp only [RSeg.coming]; omega, h.lk, by have := comeTo_len g.entries (x.lsn, x.epoch, x.value); have := h.en; simp only [RSeg.coming]; omega⟩
theorem SegSz.epochUp {m : Nat} {g : RSeg} (h : SegSz m g) (e : Int) : SegSz (m + 1) (g.epochUp e) :=
  ⟨by simp [RSeg.epochUp], by have := h.e1; simp [RSeg.epochUp]; omega, h.l0, by have := h.l1; simp only [RSeg.epochUp]; omega, h.lk, by have := h.en; simp only [RSeg.epochUp]; omega⟩
theorem SegSz.afterCut {m : Nat} {g : RSeg} (h : SegSz m g) (x : Msg) (hx : x.cuts.length ≤ 9) : SegSz (m + 1) (g.afterCut x) := by
  have h1 := h.epochUp x.epoch
  unfold RSeg.afterCut
  split
  · exact h1
  · refine ⟨h1.e0, h1.e1, by simp [RSeg.cutBy], by have := h.l1; simp [RSeg.cutBy, RSeg.epochUp]; omega, fun l hl => ?_, by have := h1.en; simp only [RSeg.cutBy, List.length_map]; exact this⟩
    simp only [RSeg.cutBy] at hl
    rcases List.mem_append.1 hl with h2 | h2
    · exact h1.lk l h2
    · rw [List.mem_singleton.1 h2]; exact hx

theorem sz_sHears {N m : Nat} {r : RVol} (hI : Inv r) (h : Sz N m r) (x : Msg) (hx : MsgInv r.pens x) : Sz (N + 1) (m + 1) (r.sHears x) := by
  have h1 : Sz N (m + 1) r := h.mono (Nat.le_refl _) (by omega)
  have h2 : Sz (N + 1) (m + 1) r := h.mono (by omega) (by omega)
  unfold RVol.sHears
  cases hg : r.segs[x.to_.toNat]? with
  | none => exact h2
  | some g =>
    have hs := h.seg g (List.mem_of_getElem? hg)
    simp only
    split
    · cases keptAt g.entries x.lsn with
      | none => exact h2
      | some e => exact h1.send _
    · split
      · split
        · exact (h1.seg_one _ _ (hs.coming x)).mono (by omega) (Nat.le_refl _)
        · exact h2
      · split
        · exact h1.send _
        · split
          · exact (h1.seg_one _ _ (hs.epochUp x.epoch)).send _
          · split
            · exact (h1.seg_one _ _ (hs.afterCut x (hx.ct.len9 hI))).send _
            · split
              · cases keptAt g.entries x.lsn with
                | none => exact (h1.seg_one _ _ (hs.coming x)).mono (by omega) (Nat.le_refl _)
                | some e => exact h1.send _
              · exact h2
theorem sz_wHears {N m : Nat} {r : RVol} (h : Sz N m r) (x : Msg) : Sz (N + 6) (m + 1) (r.wHears x) := by
  have h1 : Sz N (m + 1) r := h.mono (Nat.le_refl _) (by omega)
  have h2 : Sz (N + 6) (m + 1) r := h.mono (by omega) (by omega)
  unfold RVol.wHears
  cases hp : r.pens[x.to_.toNat - 1]? with
  | none => exact h2
  | some p =>
    have hs := h.pen p (List.mem_of_getElem? hp)
    simp only
    split
    · exact (h1.setPen _ _ (by rw [(ended_same p).2.1]; omega)).mono (by omega) (Nat.le_refl _)
    · split
      · exact (h1.setPen _ _ (by simp; omega)).mono (by omega) (Nat.le_refl _)
      · split
        · unfold RVol.heard
          split
          · exact h2
          · split
            · rw [sendUp_eq]; exact (h1.setPen _ _ (by simp only; omega)).sendsUp _ 6
            · exact (h1.setPen _ _ (by simp only; omega)).mono (by omega) (Nat.le_refl _)
        · exact h2
theorem sz_deliver {N m : Nat} {r : RVol} (hI : Inv r) (h : Sz N m r) (n : Int) : Sz (N + 6) (m + 1) (r.deliver n).1 := by
  have h2 : Sz (N + 6) (m + 1) r := h.mono (by omega) (by omega)
  unfold RVol.deliver
  cases placeE r.net n with
  | none => exact h2
  | some i =>
    simp only
    cases hn : r.net[i]? with
    | none => exact h2
    | some q =>
      simp only
      have hm := hI.net q (List.mem_of_getElem? hn)
      unfold RVol.arrives
      split
      · exact sz_wHears (h.goneV i) q.1
      · cases (r.goneV i).segs[q.1.to_.toNat]? with
        | none => exact (h.goneV i).mono (by omega) (by omega)
        | some g =>
          simp only
          split
          · exact (sz_sHears (hI.goneV i) (h.goneV i) q.1 hm).mono (by omega) (Nat.le_refl _)
          · exact (h.goneV i).mono (by omega) (by omega)
theorem sz_drop {N m : Nat} {r : RVol} (h : Sz N m r) (n : Int) : Sz N m (r.drop n) := by
  unfold RVol.drop
  cases placeE r.net n with
  | none => exact h
  | some i => exact h.goneV i
theorem sz_copy {N m : Nat} {r : RVol} (h : Sz N m r) (n : Int) : Sz (N + 1) m (r.copy n) := by
  unfold RVol.copy
  cases messageAt r.net n with
  | none => exact h.mono (by omega) (Nat.le_refl _)
  | some x => exact h.send x
theorem sz_open {N m : Nat} {r : RVol} (h : Sz N m r) : Sz (N + 6) m r.open_.1 := by
  unfold RVol.open_
  split
  · exact h.mono (by omega) (Nat.le_refl _)
  · have ho : Sz N m r.opened := ⟨h.net, h.seg, fun p hp => by
      rcases List.mem_append.1 hp with h1 | h1
      · exact h.pen p h1
      · rw [List.mem_singleton.1 h1]; simp [pen0]⟩
    simp only
    rw [sendUp_eq]
    exact ho.sendsUp _ 6
theorem sz_resend {N m : Nat} {r : RVol} (h : Sz N m r) (n : Int) : Sz (N + 6) m (r.resend n).1 := by
  have h2 : Sz (N + 6) m r := h.mono (by omega) (Nat.le_refl _)
  unfold RVol.resend
  split
  · exact h2
  · cases r.pens[n.toNat - 1]? with
    | none => exact h2
    | some p => exact h.sendsUp _ 6
theorem sz_append {N m : Nat} {r : RVol} (h : Sz N m r) (n v : Int) : Sz (N + 6) m (r.append n v).1 := by
  have h2 : Sz (N + 6) m r := h.mono (by omega) (Nat.le_refl _)
  have hp : ∀ i, Sz N m (r.pushed i v) := fun i => by
    unfold RVol.pushed
    cases hp : r.pens[i]? with
    | none => exact h
    | some p => exact h.setPen i _ (h.pen p (List.mem_of_getElem? hp))
  unfold RVol.append
  split
  · exact h2
  · split
    · exact h2
    · split
      · exact h2
      · split
        · exact h2
        · simp only
          rw [sendUp_eq]
          exact (hp _).sendsUp _ 6
theorem sz_sync {N m : Nat} {r : RVol} (h : Sz N m r) (n : Int) : Sz (N + 1) m (r.sync n).1 := by
  have h2 : Sz (N + 1) m r := h.mono (by omega) (Nat.le_refl _)
  unfold RVol.sync
  split
  · exact h2
  · cases hg : r.segs[n.toNat]? with
    | none => exact h2
    | some g =>
      simp only
      split
      · have hs := h.seg g (List.mem_of_getElem? hg)
        have h3 : Sz N m (r.synced n.toNat) := by
          unfold RVol.synced
          rw [hg]
          exact h.seg_one n.toNat _ ⟨hs.e0, hs.e1, hs.l0, hs.l1, hs.lk, by simpa using hs.en⟩
        unfold RVol.after
        cases (r.synced n.toNat).segs[n.toNat]? with
        | none => exact h3.mono (by omega) (Nat.le_refl _)
        | some g' =>
          simp only
          split
          · exact h3.send _
          · exact h3.mono (by omega) (Nat.le_refl _)
      · exact h2
theorem sz_gossip {N m : Nat} {r : RVol} (h : Sz N m r) (a b : Int) : Sz (N + 1) m (r.gossip a b).1 := by
  have h2 : Sz (N + 1) m r := h.mono (by omega) (Nat.le_refl _)
  unfold RVol.gossip
  split
  · exact h2
  · cases r.segs[a.toNat]? with
    | none => exact h2
    | some g =>
      simp only
      split
      · exact h.send _
      · exact h2
theorem sz_crash {N m : Nat} {r : RVol} (h : Sz N m r) (n : Int) : Sz N m (r.crash n).1 := by
  unfold RVol.crash
  split
  · exact h
  · cases hg : r.segs[n.toNat]? with
    | none => exact h
    | some g =>
      simp only
      have hs := h.seg g (List.mem_of_getElem? hg)
      split
      · exact h.seg_one n.toNat _ ⟨hs.e0, hs.e1, hs.l0, hs.l1, hs.lk, by simpa using hs.en⟩
      · exact h
theorem sz_restart {N m : Nat} {r : RVol} (h : Sz N m r) (n : Int) : Sz N m (r.restart n).1 := by
  unfold RVol.restart
  split
  · exact h
  · cases hg : r.segs[n.toNat]? with
    | none => exact h
    | some g =>
      simp only
      have hs := h.seg g (List.mem_of_getElem? hg)
      split
      · exact h
      · exact h.seg_one n.toNat _ ⟨hs.e0, hs.e1, hs.l0, hs.l1, hs.lk, hs.en⟩
theorem sz_read {N m : Nat} {r : RVol} (h : Sz N m r) (n lsn : Int) : Sz N m (r.read n lsn).1 := by
  unfold RVol.read
  split
  · exact h
  · split
    · exact h
    · split
      · exact h
      · cases r.pens[n.toNat - 1]? with
        | none => exact h
        | some p =>
          simp only
          unfold RVol.readOf
          split
          · exact h
          · split
            · simp only
              unfold RVol.ends
              cases hq : r.pens[n.toNat - 1]? with
              | none => exact h
              | some q => exact h.setPen _ _ (by rw [(ended_same q).2.1]; exact h.pen q (List.mem_of_getElem? hq))
            · exact h

/-- A state after so many calls. -/
structure Good (m : Nat) (r : RVol) : Prop where
  inv : Inv r
  sz : Sz (6 * m) m r

theorem Good.mono {m m' : Nat} {r : RVol} (h : Good m r) (hm : m ≤ m') : Good m' r := ⟨h.inv, h.sz.mono (by omega) hm⟩
theorem MsgInv.ok {r : RVol} (h : Inv r) {x : Msg} (hx : MsgInv r.pens x) : MsgOk x := ⟨by have := hx.ct.len9 h; omega, by have := hx.mrk; omega⟩
theorem Good.nl {m : Nat} {r : RVol} (h : Good m r) (hm : m ≤ 70000000) : r.net.length ≤ 3000000000 := by have := h.sz.net; omega
theorem Good.fine {m : Nat} {r : RVol} (h : Good m r) : ∀ p ∈ r.pens, p.Fine := fun p hp => by
  obtain ⟨i, hi, rfl⟩ := List.getElem_of_mem hp
  exact fun ho => ((h.inv.pens i _ (List.getElem?_eq_getElem hi)).ov ho).1
theorem Good.scl {m : Nat} {r : RVol} (h : Good m r) : ∀ p ∈ r.pens, ∀ x ∈ p.status, x.scl ≤ 4000000000 := fun p hp x hx => by
  obtain ⟨i, hi, rfl⟩ := List.getElem_of_mem hp
  have hpi := h.inv.pens i _ (List.getElem?_eq_getElem hi)
  have := (hpi.sm x hx).2.1
  have := hpi.n40
  omega
theorem Good.to_ {m : Nat} {r : RVol} (h : Good m r) : ∀ p ∈ r.net, p.2 = false → MsgTo r.pens.length p.1 := fun p hp _ => (h.inv.net p hp).to_
theorem Good.lists {m : Nat} {r : RVol} (h : Good m r) (hm : m ≤ 70000000) : ∀ g ∈ r.segs, g.epochs.length ≤ 3000000000 ∧ g.lists.length ≤ 3000000000 := fun g hg => by
  have := (h.sz.seg g hg).e1
  have := (h.sz.seg g hg).l1
  omega
end Go.Proofs.YtfpbkghcjaonlaaGreat.Sim

/-
  The program: Writes.
-/
namespace Go.Proofs.YtfpbkghcjaonlaaGreat
open Go.RowKit

theorem writes_take (x : XWr) (lsn : Int) (j : Nat) : ((List.range (j + 1)).filterMap (fun (s : Nat) => x.write (s : Int) lsn)) = ((List.range j).filterMap (fun (s : Nat) => x.write (s : Int) lsn)) ++ (x.write (j : Int) lsn).toList := by
  rw [List.range_succ, List.filterMap_append]
  cases h : x.write (j : Int) lsn <;> simp [h]

set_option maxRecDepth 3000 in
set_option maxHeartbeats 8000000 in
theorem writes_any {k : Nat → Nat} {w : World} {c b o : Nat} {x : XWr} (lsn : Int) (h : WrAt k w c b o x) (h1 : 0 ≤ x.base) (h2 : x.base ≤ 4000000000) (h3 : 0 ≤ lsn) (h4 : lsn ≤ 4000000000) (h5 : x.values.length ≤ 4000000000) :
    Calls Tryz.prog 75 #[.pointer (some ⟨b, o, none⟩), .int .i64 lsn] w fun e w' => (∃ v, e = .returned v ∧ MsgsMade k w w' v (x.writes lsn)) ∧ Below w.heap.size w w' := by
  have HD : Hid (∀ s, s < 6 → ∀ W, Below w.heap.size w W → Calls Tryz.prog 107 #[.pointer (some ⟨b, o, none⟩), .int .i64 (s : Nat), .int .i64 lsn] W fun e w' => (∃ v, e = .returned v ∧ DueAns k w (x.write (s : Int) lsn) v) ∧ Below W.heap.size W w') := hide fun s _ W hW => by
    refine (xwrite_any (s : Int) lsn (h.below hW) h1 h2 h3 h4 h5).mono ?_
    rintro e w' ⟨⟨v, rfl, hv⟩, hb⟩
    exact ⟨⟨v, rfl, hv w⟩, hb⟩
  clear h h1 h2 h3 h4 h5
  have H0 : Hid (∃ rows, Made w w.heap.size 109 9 (.slice none 0 0) rows ∧ All2 (MsgIs k w) ((List.range 0).filterMap (fun (s : Nat) => x.write (s : Int) lsn)) rows) := hide ⟨[], Made.nil _ _ _ _, rfl, fun i h1 => by simp at h1⟩
  go_enter Tryz.func75, Tryz.ntmps75
  go_wp2_with fail
  go_loopw [5, 6] (fun v i wr => Below w.heap.size w wr ∧ ∃ j : Nat, j ≤ 6 ∧ i = .int .i64 j ∧ Hid (∃ rows, Made wr w.heap.size 109 9 v rows ∧ All2 (MsgIs k w) ((List.range j).filterMap (fun (s : Nat) => x.write (s : Int) lsn)) rows)) (fun _ i _ => 6 - (intOf i).toNat)
  case atStart => exact ⟨Below.refl _ _, 0, by omega, rfl, H0⟩
  case round =>
    obtain ⟨hB, j, hj, rfl, hst⟩ := hrel
    obtain ⟨rows, hM, hA⟩ := hst.out
    obtain ⟨ma, mcap, hmv⟩ := hM.form
    have hsz := hB.size
    have hrl : rows.length ≤ 6 := by
      rw [← hA.1]
      exact Nat.le_trans (List.length_filterMap_le _ _) (by simp; omega)
    by_cases hlt : j < 6
    · have hd : decide ((j : Int) < 6) = true := by simp; omega
      have HDj := hide (HD.out j hlt wr hB)
      have HT := hide (writes_take x lsn j)
      generalize hdj : x.write (j : Int) lsn = dj at *
      clear hdj hst
      go_wp2_with fail
      refine HDj.out.mono ?_
      rintro e1 w1 ⟨⟨v, rfl, mm, z0, z1, z2, rfl, hcz, hmz, hsome⟩, hb1⟩
      have hB1 : Below w.heap.size w w1 := hB.trans (hb1.mono hsz)
      have HQ := hide (And.intro hcz (And.intro hmz hsome))
      clear hcz hmz hsome
      cases dj with
      | none =>
        simp only [Option.isSome]
        go_wp2_with fail
        go_roundw
        case rel => exact ⟨hB1.alloc hB1.size _, j + 1, by omega, by go_num, hide ⟨rows, (hM.kept hb1).kept ((Below.refl _ _).alloc (Nat.le_refl _) _), by rw [HT.out]; simpa using hA⟩⟩
        case measure => simp [intOf]; omega
      | some m' =>
        simp only [Option.isSome]
        subst hmv
        have hM2 := (hM.kept hb1).kept (((Below.refl _ _).alloc (Nat.le_refl _) (Obj.cells #[.int .i64 mm.kind, .int .i64 mm.frm, .int .i64 mm.to_, .int .i64 mm.epoch, .int .i64 mm.lsn, .int .i64 mm.value, .int .i64 mm.scl, .slice z0 z1 z2, .slice none 0 0] 109)).alloc (by simp) (Obj.cells #[.int .i64 mm.kind, .int .i64 mm.frm, .int .i64 mm.to_, .int .i64 mm.epoch, .int .i64 mm.lsn, .int .i64 mm.value, .int .i64 mm.scl, .slice z0 z1 z2, .slice none 0 0] 109))
        go_wp2_with (at_builtin; go_must (refine wpList_append_made (.tmp 21) (.tmp 23) 66 109 _ 9 104 _ rows rows.length [.int .i64 mm.kind, .int .i64 mm.frm, .int .i64 mm.to_, .int .i64 mm.epoch, .int .i64 mm.lsn, .int .i64 mm.value, .int .i64 mm.scl, .slice z0 z1 z2, .slice none 0 0] w.heap.size ⟨w1.heap.size + 1, 0, none⟩ 1 rfl rfl rfl Tryz.underlying66 Tryz.infoMessage rfl (by decide) rfl rfl hM2 rfl (cell_two_new' _ _ _ _) (by simp [Value.oneCell']) (by simp only [maxLen]; omega) (by omega) (by have := hB1.size; simp; omega) ?_; intro ao cap2 w2 hM3 hB3))
        go_roundw
        case rel =>
          refine ⟨((hB1.alloc hB1.size _).alloc (by have := hB1.size; simp; omega) _).trans hB3, j + 1, by omega, by go_num, hide ⟨rows ++ [[.int .i64 mm.kind, .int .i64 mm.frm, .int .i64 mm.to_, .int .i64 mm.epoch, .int .i64 mm.lsn, .int .i64 mm.value, .int .i64 mm.scl, .slice z0 z1 z2, .slice none 0 0]], by simpa using hM3, ?_⟩⟩
          rw [HT.out]
          have he := HQ.out.2.2 m' rfl
          subst he
          exact All2.snoc hA ⟨_, _, rfl, HQ.out.1, by rw [HQ.out.2.1]; exact Rows.nil _ _ _ _ _⟩
        case measure => simp [intOf]; omega
    · have hj6 : j = 6 := by omega
      have hd : decide ((j : Int) < 6) = false := by simp; omega
      have HM := hide (And.intro hM (And.intro hA hj6))
      clear hM hA hst hj6
      go_wp2_with fail
      go_ret
      obtain ⟨hM, hA, hj6⟩ := HM.out
      exact ⟨⟨_, rfl, rows, hM, by rw [hj6] at hA; exact hA⟩, hB⟩
end Go.Proofs.YtfpbkghcjaonlaaGreat

/-
  The program: Append of a writer.
-/
namespace Go.Proofs.YtfpbkghcjaonlaaGreat
open Go.RowKit

section
variable {k : Nat → Nat} {w : World} {c g n cap i : Nat} {wrows : List (List Value)} {x : XWr} {n0 c0 v0 : Option Addr} {n1 n2 c1 c2 v1 v2 : Nat}

set_option maxRecDepth 3000 in
set_option maxHeartbeats 4000000 in
theorem wAppend_no (h : WrW k w g n cap wrows i x (.slice n0 n1 n2) (.slice c0 c1 c2) (.slice v0 v1 v2)) (v wi : Int) (hd0 : 0 ≤ x.dur) (hd1 : x.dur ≤ 4000000000) (hw0 : 0 ≤ wi) (hw1 : wi ≤ 8) (he : (x.append v wi).2.2 ≠ 0) :
    Calls Tryz.prog 74 #[.pointer (some ⟨g, i * 20, none⟩), .int .i64 v, .int .i64 wi] w fun e w' => e = .returned (.tuple #[.int .i64 0, .int .i64 (x.append v wi).2.2]) ∧ Below w.heap.size w w' := by
  obtain ⟨hk, hl, hc, hf⟩ := h.facts
  have q1 : w.cell? ⟨g, i * 20 + 1, none⟩ = some (.int .i64 x.phase) := hc 1 (by omega)
  have q3 : w.cell? ⟨g, i * 20 + 3, none⟩ = some (.int .i64 x.next) := hc 3 (by omega)
  have q4 : w.cell? ⟨g, i * 20 + 4, none⟩ = some (.int .i64 x.dur) := hc 4 (by omega)
  have hwr : IntKind.i64.wrap (x.dur + wi) = x.dur + wi := by rw [IntKind.wrap_i64] <;> omega
  clear hc hf h
  by_cases p4 : x.phase = 4
  · have HE : Hid ((x.append v wi).2.2 = 4) := hide (by unfold XWr.append; rw [if_pos p4])
    rw [p4] at q1
    clear he p4
    go_enter Tryz.func74, Tryz.ntmps74
    go_wp2_with fail
    go_ret2
    exact ⟨by rw [HE.out]; rfl, Below.refl _ _⟩
  · have d4 : (x.phase == 4) = false := by simpa using p4
    by_cases p3 : x.phase = 3
    · by_cases pn : 40 ≤ x.next
      · have HE : Hid ((x.append v wi).2.2 = 7) := hide (by unfold XWr.append; rw [if_neg p4, if_neg (by simp [p3]), if_pos pn])
        have dn : decide (40 ≤ x.next) = true := by simpa using pn
        rw [p3] at q1
        clear he p4 p3 d4
        go_enter Tryz.func74, Tryz.ntmps74
        go_wp2_with fail
        go_ret2
        exact ⟨by rw [HE.out]; rfl, Below.refl _ _⟩
      · have dn : decide (40 ≤ x.next) = false := by simpa using pn
        have pw : x.dur + wi ≤ x.next := by
          by_cases h : x.dur + wi ≤ x.next
          · exact h
          · exact absurd (by unfold XWr.append; rw [if_neg p4, if_neg (by simp [p3]), if_neg pn, if_neg h]) he
        have HE : Hid ((x.append v wi).2.2 = 6) := hide (by unfold XWr.append; rw [if_neg p4, if_neg (by simp [p3]), if_neg pn, if_pos pw])
        have dw : decide (x.dur + wi ≤ x.next) = true := by simpa using pw
        rw [p3] at q1
        clear he p4 p3 d4
        go_enter Tryz.func74, Tryz.ntmps74
        go_wp2_with fail
        go_quiet (fail)
        go_wp2_with fail
        go_ret2
        exact ⟨by rw [HE.out]; rfl, below_drewN (Below.refl _ _) _⟩
    · have HE : Hid ((x.append v wi).2.2 = 5) := hide (by unfold XWr.append; rw [if_neg p4, if_pos p3])
      have d3 : (x.phase != 3) = true := by simpa using p3
      clear he p4 p3
      go_enter Tryz.func74, Tryz.ntmps74
      go_wp2_with fail
      go_ret2
      exact ⟨by rw [HE.out]; rfl, Below.refl _ _⟩

set_option maxRecDepth 3000 in
set_option maxHeartbeats 8000000 in
theorem wAppend_yes (h : WrW k w g n cap wrows i x (.slice n0 n1 n2) (.slice c0 c1 c2) (.slice v0 v1 v2)) (hV : Rows k w c 3 1 (.slice v0 v1 v2) (x.values.map intRow)) (hvl : x.values.length ≤ 3000000000) (hc1 : 110 ≤ c) (hc2 : c < 140) (v wi : Int) (hd0 : 0 ≤ x.dur) (hd1 : x.dur ≤ 4000000000) (hw0 : 0 ≤ wi) (hw1 : wi ≤ 8) (hx0 : 0 ≤ x.next) (he : (x.append v wi).2.2 = 0) :
    Calls Tryz.prog 74 #[.pointer (some ⟨g, i * 20, none⟩), .int .i64 v, .int .i64 wi] w fun e w' => e = .returned (.tuple #[.int .i64 (x.append v wi).2.1, .int .i64 0]) ∧ ∃ k' a2 b2, Evo k k' (fun d => d = cXW ∨ d = c) w w' ∧
      WrW k' w' g n cap (wrows.set i (wrRow (x.append v wi).1 (.slice n0 n1 n2) (.slice c0 c1 c2) (.slice a2 (x.values.length + 1) b2))) i (x.append v wi).1 (.slice n0 n1 n2) (.slice c0 c1 c2) (.slice a2 (x.values.length + 1) b2) ∧ Rows k' w' c 3 1 (.slice a2 (x.values.length + 1) b2) ((x.append v wi).1.values.map intRow) := by
  obtain ⟨hk, hl, hc, hf⟩ := h.facts
  have hcond : x.phase = 3 ∧ ¬ 40 ≤ x.next ∧ ¬ x.dur + wi ≤ x.next := by
    unfold XWr.append at he
    split at he
    · simp at he
    · split at he
      · simp at he
      · split at he
        · simp at he
        · split at he
          · simp at he
          · rename_i h1 h2 h3 h4; exact ⟨by simpa using h2, h3, h4⟩
  obtain ⟨p3, pn, pw⟩ := hcond
  have HE : Hid (x.append v wi = ({ x with values := x.values ++ [v], next := x.next + 1 }, x.next + 1, 0)) := hide (by unfold XWr.append; rw [if_neg (by simp [p3]), if_neg (by simp [p3]), if_neg pn, if_neg pw])
  obtain ⟨rfl, _⟩ := values_cell hV
  have q1 : w.cell? ⟨g, i * 20 + 1, none⟩ = some (.int .i64 3) := (hc 1 (by omega)).trans (by rw [← p3]; rfl)
  have q3 : w.cell? ⟨g, i * 20 + 3, none⟩ = some (.int .i64 x.next) := hc 3 (by omega)
  have q4 : w.cell? ⟨g, i * 20 + 4, none⟩ = some (.int .i64 x.dur) := hc 4 (by omega)
  have hwr : IntKind.i64.wrap (x.dur + wi) = x.dur + wi := by rw [IntKind.wrap_i64] <;> omega
  have hwn : IntKind.i64.wrap (x.next + 1) = x.next + 1 := by rw [IntKind.wrap_i64] <;> omega
  have dn : decide (40 ≤ x.next) = false := by simpa using pn
  have dw : decide (x.dur + wi ≤ x.next) = false := by simpa using pw
  have H0 := hide h
  have HV := hide hV
  clear hc hf h hV he p3
  go_enter Tryz.func74, Tryz.ntmps74
  go_wp2_with fail
  go_quiet (fail)
  obtain ⟨W1, hW1⟩ : ∃ W1, W1 = w.drewN nq := ⟨_, rfl⟩
  rw [← hW1]
  have ev1 : Evo k k noC w W1 := by rw [hW1]; exact (Evo.refl _ _ _).drewN _
  have HW1 := hide hW1
  clear hW1 q1 q3 q4
  have h1 := H0.out.evo ev1 (noC_not _)
  obtain ⟨hk1, hl1, hcc1, hff1⟩ := h1.facts
  have r7 : W1.cell? ⟨g, i * 20 + 7, none⟩ = some (.slice v0 x.values.length v2) := hcc1 7 (by omega)
  have ev3 : Evo k k noC W1 (W1.alloc (Obj.cells #[.int .i64 v] 3)) := (Evo.refl k noC W1).alloc _
  have hR3 := (HV.out.evo ev1 (noC_not _)).evo ev3 (noC_not _)
  have h3 := h1.evo ev3 (noC_not _)
  have HRL : Hid ((x.values.map intRow).length = x.values.length) := hide (List.length_map _)
  have HFx : Hid (∀ k5 w5, Evo k k5 (fun y => y = c) (W1.alloc (Obj.cells #[.int .i64 v] 3)) w5 → w5.cell? ⟨g, i * 20 + 7, none⟩ = some (.slice v0 x.values.length v2) ∧ w5.frozen? ⟨g, i * 20 + 7, none⟩ = false ∧ w5.cell? ⟨g, i * 20 + 3, none⟩ = some (.int .i64 x.next) ∧ w5.frozen? ⟨g, i * 20 + 3, none⟩ = false ∧ g < w5.heap.size) := hide fun k5 w5 hE => by
    obtain ⟨_, b, cc, d⟩ := (h3.evo hE (by unfold cXW; omega)).facts
    exact ⟨cc 7 (by omega), d _, cc 3 (by omega), d _, b⟩
  clear hcc1 hff1
  go_wp2_with (at_builtin; go_must (refine wpList_append_rows k c (.tmp 38) (.tmp 40) 61 3 _ 1 8 _ (x.values.map intRow) [intRow v] x.values.length ⟨W1.heap.size, 0, none⟩ 1 1 HRL.out rfl rfl Tryz.underlying61 Tryz.infoInt rfl (by decide) rfl rfl hR3 rfl (by simp [intRow]) (by simpa [intRow] using cell_one_new' W1 [.int .i64 v] 3) (by simp [intRow, Value.oneCell']) (by simp only [maxLen]; omega) (by omega) ?_; intro ao1 cap1 w5 k5 hR5 hE5; obtain ⟨y1', y2', y3', y4', y5'⟩ := HFx.out k5 w5 hE5))
  go_ret2
  have h5 := h3.evo hE5 (by unfold cXW; omega)
  have hkg : k5 g = cXW := h5.facts.1
  have t1 := h5.set (x' := { x with values := x.values ++ [v] }) (vV' := .slice ao1 (x.values.length + 1) cap1) 7 (by omega) (.slice ao1 (x.values.length + 1) cap1) rfl h5.h6 h5.n6
  have t2 := t1.set (x' := { x with values := x.values ++ [v], next := x.next + 1 }) 3 (by omega) (.int .i64 (x.next + 1)) rfl h5.h6 h5.n6
  simp only [List.set_set] at t2
  have evA : Evo k k5 (fun d => d = cXW ∨ d = c) w ((w5.setCell ⟨g, i * 20 + 7, none⟩ (.slice ao1 (x.values.length + 1) cap1)).setCell ⟨g, i * 20 + 3, none⟩ (.int .i64 (x.next + 1))) := ((((ev1.trans ev3).mono (D := fun d => d = cXW ∨ d = c) (fun _ h => h.elim)).trans (hE5.mono (fun _ h => .inr h))).setCell _ _ (fun _ => .inl hkg)).setCell _ _ (fun _ => .inl hkg)
  have hR6 := (hR5.other ⟨g, i * 20 + 7, none⟩ (.slice ao1 (x.values.length + 1) cap1) (by show k5 g ≠ c; rw [hkg]; unfold cXW; omega)).other ⟨g, i * 20 + 3, none⟩ (.int .i64 (x.next + 1)) (by show k5 g ≠ c; rw [hkg]; unfold cXW; omega)
  rw [HE.out]
  exact ⟨rfl, k5, ao1, cap1, evA, t2, by rw [List.map_append]; exact hR6⟩
end
end Go.Proofs.YtfpbkghcjaonlaaGreat

/-
  The program: Append.
-/
namespace Go.Proofs.YtfpbkghcjaonlaaGreat
open Go.RowKit

theorem writes_ok (p : XWr) (lsn : Int) : ∀ m ∈ p.writes lsn, MsgOk m := by
  intro m hm
  obtain ⟨s, _, hs⟩ := List.mem_filterMap.1 hm
  unfold XWr.write at hs
  split at hs
  · simp at hs
  · split at hs
    · simp at hs
    · simp only [Option.some.injEq] at hs; subst hs; exact ⟨by simp, by simp⟩
theorem writes_len (p : XWr) (lsn : Int) : (p.writes lsn).length ≤ 6 := Nat.le_trans (List.length_filterMap_le _ _) (by simp)

theorem vol_win {k : Nat → Nat} {w : World} {px : Nat} {x : XVol} (hx : XVolIs k w px x) : w.cell? ⟨px, 0, none⟩ = some (.int .i64 x.wi) := by
  obtain ⟨_, _, _, _, hB, _⟩ := hx.ex
  exact hB.cell 0

theorem append_err {x : XWr} {v wi : Int} (h : (x.append v wi).2.2 ≠ 0) : (x.append v wi).1 = x ∧ (x.append v wi).2.1 = 0 := by
  revert h
  unfold XWr.append
  split
  · exact fun _ => ⟨rfl, rfl⟩
  · split
    · exact fun _ => ⟨rfl, rfl⟩
    · split
      · exact fun _ => ⟨rfl, rfl⟩
      · split
        · exact fun _ => ⟨rfl, rfl⟩
        · exact fun h => absurd rfl h

set_option maxRecDepth 3000 in
set_option maxHeartbeats 8000000 in
theorem xappend_in {k : Nat → Nat} {w : World} {px : Nat} {x : XVol} (hx : XVolIs k w px x) (hok : XOk x) (i : Nat) (hi : i < x.wrs.length) (v : Int) (hw0 : 0 ≤ x.wi) (hw1 : x.wi ≤ 8) (hd0 : 0 ≤ x.wrs[i].dur) (hd1 : x.wrs[i].dur ≤ 4000000000) (hx0 : 0 ≤ x.wrs[i].next) (hvl : x.wrs[i].values.length ≤ 3000000000) :
    Calls Tryz.prog 32 #[.pointer (some ⟨px, 0, none⟩), .int .i64 ((i : Int) + 1), .int .i64 v] w fun e w' => e = .returned (.tuple #[.int .i64 (x.append ((i : Int) + 1) v).2.1, .int .i64 (x.append ((i : Int) + 1) v).2.2]) ∧ ∃ k', Evo k k' cXS w w' ∧ XVolIs k' w' px (x.append ((i : Int) + 1) v).1 := by
  have h9 : x.wrs.length ≤ 9 := by obtain ⟨_, _, _, _, _, _, _, hW⟩ := hx.ex; exact hW.l2
  have hat0 : x.wrAt ((i : Int) + 1) = some x.wrs[i] := by unfold XVol.wrAt; rw [if_neg (by omega), show ((i : Int) + 1).toNat - 1 = i from by omega, List.getElem?_eq_getElem hi]
  have HI := hide (isWr_in hx i hi)
  have hpk := hok.wk _ (List.getElem_mem hi)
  obtain ⟨g, cap, wrows, n0, n1, n2, c0, c1, c2, v0, v1, v2, q, hpl, hkpx, hW, hN, hC, hV, back⟩ := wr_write2 hx i hi
  have q0 := vol_win hx
  obtain ⟨_, hgl, _, _⟩ := hW.facts
  have hix : (i : Int) + 1 - 1 = (i : Int) := by omega
  have hil : (i : Int) < (x.wrs.length : Int) := by omega
  have hwr : IntKind.i64.wrap ((i : Int) + 1 - 1) = (i : Int) := by rw [hix, IntKind.wrap_i64] <;> omega
  have hwr2 : IntKind.i64.wrap (i : Int) = (i : Int) := by rw [IntKind.wrap_i64] <;> omega
  have hi0 : ¬ (i : Int) < 0 := by omega
  have HS0 : Hid (w.drew.cell? ⟨px, 741, none⟩ = some (.slice (some ⟨g, 0, none⟩) x.wrs.length cap) ∧ w.drew.cell? ⟨px, 0, none⟩ = some (.int .i64 x.wi)) := hide ⟨q, q0⟩
  have HXV := hide hx
  by_cases he : (x.wrs[i].append v x.wi).2.2 = 0
  · have HE : Hid (x.append ((i : Int) + 1) v = ((x.setWr i (x.wrs[i].append v x.wi).1).sendAll ((x.wrs[i].append v x.wi).1.writes (x.wrs[i].append v x.wi).2.1), (x.wrs[i].append v x.wi).2.1, 0)) := hide (by unfold XVol.append; rw [hat0]; simp only; rw [if_neg (by simpa using he), show ((i : Int) + 1).toNat - 1 = i from by omega])
    have HAp : Hid (∀ W, Below w.heap.size w W → Calls Tryz.prog 74 #[.pointer (some ⟨g, i * 20, none⟩), .int .i64 v, .int .i64 x.wi] W fun e w' => e = .returned (.tuple #[.int .i64 (x.wrs[i].append v x.wi).2.1, .int .i64 0]) ∧ (w'.cell? ⟨px, 741, none⟩ = some (.slice (some ⟨g, 0, none⟩) x.wrs.length cap) ∧ w'.cell? ⟨px, 0, none⟩ = some (.int .i64 x.wi)) ∧ px < w'.heap.size ∧ g < w'.heap.size ∧
        Calls Tryz.prog 75 #[.pointer (some ⟨g, i * 20, none⟩), .int .i64 (x.wrs[i].append v x.wi).2.1] w' fun e w'' => ∃ s0 s1 s2, e = .returned (.slice s0 s1 s2) ∧
          Calls Tryz.prog 66 #[.pointer (some ⟨px, 0, none⟩), .slice s0 s1 s2] w'' fun e w3 => e = .returned (.tuple #[]) ∧ ∃ k3, Evo k k3 cXS w w3 ∧ XVolIs k3 w3 px ((x.setWr i (x.wrs[i].append v x.wi).1).sendAll ((x.wrs[i].append v x.wi).1.writes (x.wrs[i].append v x.wi).2.1))) := hide fun W hW' => by
      have e0 : Evo k k noC w W := Evo.of_below hW'
      obtain ⟨rfl, _⟩ := values_cell hV
      refine (wAppend_yes (c := cWr i + 1) (hW.evo e0 (noC_not _)) (hV.evo e0 (noC_not _)) hvl (by unfold cWr; omega) (by unfold cWr; omega) v x.wi hd0 hd1 hw0 hw1 hx0 he).mono ?_
      rintro e w' ⟨rfl, k', a2, b2, ev, hw, hv⟩
      have evT : Evo k k' (fun d => d = cXW ∨ d = cWr i + 1) w w' := (e0.mono (fun _ h => h.elim)).trans ev
      have hap : (x.wrs[i].append v x.wi) = ({ x.wrs[i] with values := x.wrs[i].values ++ [v], next := x.wrs[i].next + 1 }, x.wrs[i].next + 1, 0) ∧ x.wrs[i].next < 40 := by
        revert he
        unfold XWr.append
        split
        · simp
        · split
          · simp
          · split
            · simp
            · split
              · simp
              · rename_i h3 _; exact fun _ => ⟨rfl, by omega⟩
      have him : ¬ (IM = cXW ∨ IM = cWr i + 1) := by unfold IM cXW cWr; omega
      have hN' : NotesIs k' w' (cWr i) (.slice n0 n1 n2) (x.wrs[i].append v x.wi).1.notes := by rw [hap.1]; exact hN.evo evT (by unfold cXW cWr; omega) him
      have hC' : CutsIm k' w' (.slice c0 c1 c2) (x.wrs[i].append v x.wi).1.cuts := by rw [hap.1]; exact hC.evo evT him
      have hbk := back k' w' _ _ _ _ _ evT (fun c hc => by rcases hc with h | h; exact .inl h; exact .inr (.inr h)) hw hN' hC' hv
      have hcell : ∀ j, w'.cell? ⟨px, j, none⟩ = w.cell? ⟨px, j, none⟩ := fun j => World.cell?_of_block (a := ⟨px, j, none⟩) (evT.keep px hpl (by rw [hkpx]; unfold cX cXW cWr; omega))
      have hok' : XWOk (x.wrs[i].append v x.wi).1 := by
        rw [hap.1]
        exact ⟨hpk.cl, by simp only [List.length_append, List.length_singleton]; omega, hpk.nl, hpk.nk, hpk.b0, hpk.b1, hpk.nt⟩
      refine ⟨rfl, ⟨(hcell _).trans q, (hcell _).trans q0⟩, Nat.lt_of_lt_of_le hpl evT.size, hw.facts.2.1, ?_⟩
      refine (writes_any _ (hw.at hN' hC' hv) hok'.b0 hok'.b1 (by rw [hap.1]; simp only; omega) (by rw [hap.1]; simp only; omega) hok'.vl).mono ?_
      rintro e w'' ⟨⟨vv, rfl, hm⟩, hb7⟩
      obtain ⟨rws, hmm, _⟩ := id hm
      obtain ⟨s0, s1, s2, hs⟩ := made_shape hmm
      subst hs
      obtain ⟨k7, ev7, hl7⟩ := hm.is hb7
      refine ⟨s0, s1, s2, rfl, ?_⟩
      refine (xsendAll_any _ (hbk.evo ev7 (noC_not _) (fun c _ _ => noC_not c)) (hok.setWr i _ hok') hl7 (by have := writes_len (x.wrs[i].append v x.wi).1 (x.wrs[i].append v x.wi).2.1; omega) (writes_ok _ _)).mono ?_
      rintro e w3 ⟨rfl, k3, ev3, h3⟩
      exact ⟨rfl, k3, ((evT.mono (fun c h => by unfold cXW cWr at h; unfold cXS; omega)).trans (ev7.mono (fun _ h => h.elim))).trans (ev3.mono (fun c h => by unfold cXN cX cXM at h; unfold cXS; omega)), h3⟩
    generalize (x.setWr i (x.wrs[i].append v x.wi).1).sendAll ((x.wrs[i].append v x.wi).1.writes (x.wrs[i].append v x.wi).2.1) = xe at *
    generalize (x.wrs[i].append v x.wi).2.1 = ls at *
    clear hW hN hC hV back hx hat0 he
    go_enter Tryz.func32, Tryz.ntmps32
    go_wp2_with fail
    refine HI.out.mono ?_
    rintro e1 w1 ⟨rfl, hw⟩
    have hw2 := hw.symm
    subst hw2
    go_wp2_with fail
    go_region_held3 (fun W => W.cell? ⟨px, 741, none⟩ = some (.slice (some ⟨g, 0, none⟩) x.wrs.length cap) ∧ W.cell? ⟨px, 0, none⟩ = some (.int .i64 x.wi)) (first | with_reducible exact HS0.out | with_reducible exact HSy)
      (first | (go_at_call 74; refine (HAp.out _ (Below.drew (Below.refl _ _))).mono ?_; rintro e5 w5 ⟨rfl, HSy, hp5, hg5, HWr⟩; have HWr2 := hide HWr; clear HWr))
    obtain ⟨y1, y2⟩ := HSy
    go_wp2_with fail
    refine HWr2.out.mono ?_
    rintro e6 w6 ⟨s0, s1, s2, rfl, HSd⟩
    have HSd2 := hide HSd
    clear HSd
    go_wp2_with fail
    refine HSd2.out.mono ?_
    rintro e7 w7 ⟨rfl, HY⟩
    have HY2 := hide HY
    clear HY
    go_wp2_with fail
    go_ret2
    exact ⟨by rw [HE.out]; rfl, by rw [HE.out]; exact HY2.out⟩
  · have HE : Hid (x.append ((i : Int) + 1) v = (x, 0, (x.wrs[i].append v x.wi).2.2)) := hide (by unfold XVol.append; rw [hat0]; simp only; rw [if_pos he])
    have HAp : Hid (∀ W, Below w.heap.size w W → Calls Tryz.prog 74 #[.pointer (some ⟨g, i * 20, none⟩), .int .i64 v, .int .i64 x.wi] W fun e w' => e = .returned (.tuple #[.int .i64 0, .int .i64 (x.wrs[i].append v x.wi).2.2]) ∧ Below W.heap.size W w') := hide fun W hW' => wAppend_no (hW.evo (Evo.of_below (C := noC) hW') (noC_not _)) v x.wi hd0 hd1 hw0 hw1 he
    have hne : ((x.wrs[i].append v x.wi).2.2 != 0) = true := by simpa using he
    have HK : Hid (∀ W, Below w.heap.size w W → W.cell? ⟨px, 741, none⟩ = some (.slice (some ⟨g, 0, none⟩) x.wrs.length cap) ∧ W.cell? ⟨px, 0, none⟩ = some (.int .i64 x.wi)) := hide fun W hW' => ⟨(hW'.cell (p := ⟨px, 741, none⟩) hpl).trans q, (hW'.cell (p := ⟨px, 0, none⟩) hpl).trans q0⟩
    generalize (x.wrs[i].append v x.wi).2.2 = er at *
    clear hW hN hC hV back hx hat0 he
    go_enter Tryz.func32, Tryz.ntmps32
    go_wp2_with fail
    refine HI.out.mono ?_
    rintro e1 w1 ⟨rfl, hw⟩
    have hw2 := hw.symm
    subst hw2
    go_wp2_with fail
    go_region_held3 (fun W => W.cell? ⟨px, 741, none⟩ = some (.slice (some ⟨g, 0, none⟩) x.wrs.length cap) ∧ W.cell? ⟨px, 0, none⟩ = some (.int .i64 x.wi)) (first | with_reducible exact HS0.out | with_reducible exact HSy)
      (first | (go_at_call 74; refine (HAp.out _ (Below.drew (Below.refl _ _))).mono ?_; rintro e5 w5 ⟨rfl, hb5⟩; have hb5x : Below w.heap.size w w5 := (Below.drew (Below.refl _ _)).trans hb5; have HSy := HK.out w5 hb5x))
    go_wp2_with fail
    go_ret2
    exact ⟨by rw [HE.out]; rfl, k, Evo.of_below hb5x, by rw [HE.out]; exact HXV.out.evo (Evo.of_below (C := noC) hb5x) (noC_not _) (fun c _ _ => noC_not c)⟩
end Go.Proofs.YtfpbkghcjaonlaaGreat

/-
  The program: Append, of a writer that there is not.
-/
namespace Go.Proofs.YtfpbkghcjaonlaaGreat
open Go.RowKit

set_option maxRecDepth 3000 in
set_option maxHeartbeats 4000000 in
theorem xappend_out {k : Nat → Nat} {w : World} {px : Nat} {x : XVol} (hx : XVolIs k w px x) (n v : Int) (hn : ¬ (1 ≤ n ∧ n ≤ (x.wrs.length : Int))) :
    Calls Tryz.prog 32 #[.pointer (some ⟨px, 0, none⟩), .int .i64 n, .int .i64 v] w fun e w' => e = .returned (.tuple #[.int .i64 (x.append n v).2.1, .int .i64 (x.append n v).2.2]) ∧ ∃ k', Evo k k' cXS w w' ∧ XVolIs k' w' px (x.append n v).1 := by
  have HE : Hid (x.append n v = (x, 0, 3)) := hide (by
    unfold XVol.append XVol.wrAt
    by_cases h0 : n < 1
    · rw [if_pos h0]
    · rw [if_neg h0, List.getElem?_eq_none (by omega)])
  obtain ⟨a, cap, hc⟩ := wrs_cell hx
  have hiw := isWriter_any w px n _ _ _ hc
  rw [show (decide (1 ≤ n) && decide (n ≤ (x.wrs.length : Int))) = false from by rw [Bool.and_eq_false_iff]; simp; omega] at hiw
  have HI := hide hiw
  clear hiw hn
  go_enter Tryz.func32, Tryz.ntmps32
  go_wp2_with fail
  refine HI.out.mono ?_
  rintro e1 w1 ⟨rfl, hw⟩
  have hw2 := hw.symm
  subst hw2
  go_wp2_with fail
  go_ret2
  exact ⟨by rw [HE.out]; rfl, k, Evo.refl _ _ _, by rw [HE.out]; exact hx⟩
end Go.Proofs.YtfpbkghcjaonlaaGreat
