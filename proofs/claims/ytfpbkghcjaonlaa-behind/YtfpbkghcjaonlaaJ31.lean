import Derived.Test.YtfpbkghcjaonlaaJ30
/-
  sixfoldlaw's player: calm, round.
-/
namespace Go.Proofs.Ytfpbkghcjaonlaa.Sim
open Go.RowKit

theorem goes_dl {r r' : RVol} (h : Inv r) (s : Saf r) (d : Dl r r') : Goes r r' ∧ Inv r' := by
  refine Dl.ind (motive := fun r r' => Inv r → Saf r → Goes r r' ∧ Inv r') (fun r h s => ⟨Goes.refl s, h⟩) (fun r r' _ ih h s => ?_) d h s
  have g := goes_deliver h s 0
  obtain ⟨a, b⟩ := ih (sim_deliver h 0).2 g.saf
  exact ⟨g.trans a, b⟩
theorem mo_restart (r : RVol) (n : Int) : Mo r (r.restart n).1 := by
  unfold RVol.restart
  split
  · exact Mo.refl r
  · cases hg : r.segs[n.toNat]? with
    | none => exact Mo.refl r
    | some g =>
      simp only
      split
      · exact Mo.refl r
      · exact Mo.setSeg (g' := { g with up := true }) hg ⟨fun _ => rfl, fun _ => rfl, fun _ _ h => h, fun _ _ h => h⟩
theorem restart_up {r : RVol} {s : Nat} (h6 : r.segs.length = 6) (hs : s < 6) : (∀ g, (r.restart (s : Int)).1.segs[s]? = some g → g.up = true) ∧ ((r.restart (s : Int)).2 = 0 ∨ (r.restart (s : Int)).2 = 10) := by
  have hl : s < r.segs.length := by omega
  unfold RVol.restart
  rw [if_neg (by omega), Int.toNat_natCast, List.getElem?_eq_getElem hl]
  simp only
  split
  · rename_i hu
    refine ⟨fun g hg => ?_, .inr rfl⟩
    rw [List.getElem?_eq_getElem hl] at hg
    rw [← Option.some.inj hg]; exact hu
  · refine ⟨fun g hg => ?_, .inl rfl⟩
    simp only at hg
    rw [List.getElem?_set_self hl] at hg
    rw [← Option.some.inj hg]
/-- All segments are up, and all has arrived. -/
structure CalmTo (r r' : RVol) : Prop where
  mo : Mo r r'
  goes : Goes r r'
  live : liveOf r'.net = []
  up : ∀ g ∈ r'.segs, g.up = true
structure UpTo (r r' : RVol) (j : Nat) : Prop where
  mo : Mo r r'
  goes : Goes r r'
  up : ∀ (s : Nat) (g : RSeg), s < j → r'.segs[s]? = some g → g.up = true
theorem UpTo.next {r r' : RVol} {j : Nat} (h : UpTo r r' j) (hi : Inv r') (hj : j < 6) : UpTo r (r'.restart (j : Int)).1 (j + 1) := by
  refine ⟨h.mo.trans (mo_restart _ _), h.goes.trans (goes_restart hi h.goes.saf _), fun s g hs hg => ?_⟩
  by_cases e : s = j
  · subst e; exact (restart_up hi.s6 hj).1 g hg
  · obtain ⟨g0, hg0⟩ : ∃ g0, r'.segs[s]? = some g0 := ⟨_, List.getElem?_eq_getElem (by rw [hi.s6]; omega)⟩
    obtain ⟨g', hg', sg⟩ := (mo_restart r' (j : Int)).seg s g0 hg0
    rw [hg] at hg'
    rw [Option.some.inj hg']
    exact sg.up (h.up s g0 (by omega) hg0)
theorem UpTo.calm {r r1 r' : RVol} (h : UpTo r r1 6) (hi : Inv r1) (d : Dr r1 r') : CalmTo r r' := by
  have hK : Kk r1.pens.length r1 := ⟨hi, h.goes.saf, rfl, fun g hg => by
    obtain ⟨s, hs, rfl⟩ := List.getElem_of_mem hg
    exact h.up s _ (by rw [hi.s6] at hs; exact hs) (List.getElem?_eq_getElem hs)⟩
  obtain ⟨m, k⟩ := hK.dl d.1
  exact ⟨h.mo.trans m, h.goes.trans (goes_dl hi h.goes.saf d.1).1, d.2, k.up⟩

set_option maxRecDepth 3000 in
set_option maxHeartbeats 4000000 in
theorem pl_calm {k : Nat → Nat} {w : World} {b px : Nat} {P : PSt} (h : Pl k w b px P) :
    Calls Try.prog 20 #[.pointer (some ⟨b, 0, none⟩)] w fun e w' => e = .returned (.bool true) ∧ ∃ r' k', CalmTo P.r r' ∧ Evo k k' cPS w w' ∧ Pl k' w' b px (P.vol r') := by
  have H0 := hide (ASt.start h)
  have HU : Hid (UpTo P.r P.r 0) := hide ⟨Mo.refl _, Goes.refl h.2.saf, fun s g hs => by omega⟩
  clear h
  go_enter Try.func20, Try.ntmps20
  go_wp2_with fail
  go_loopw [3] (fun v wr => ∃ j : Nat, j ≤ 6 ∧ v = .int .i64 j ∧ ∃ r', Hid (ASt k w wr b px (P.vol r') [] ∧ UpTo P.r r' j)) (fun v _ => 6 - (intOf v).toNat)
  case atStart => exact ⟨0, by omega, rfl, P.r, hide ⟨H0.out, HU.out⟩⟩
  case round =>
    obtain ⟨j, hj, rfl, r', hst⟩ := hrel
    obtain ⟨z0, hbl⟩ := hst.out.1.ptr
    by_cases hlt : j < 6
    · have hd : decide ((j : Int) < 6) = true := by simp; omega
      have hw : IntKind.i64.wrap ((j : Int) + 1) = ((j + 1 : Nat) : Int) := by rw [IntKind.wrap_i64] <;> omega
      have HR : Hid (Calls Try.prog 31 #[.pointer (some ⟨px, 0, none⟩), .int .i64 (j : Int)] wr fun e w' => e = .returned (.int .i64 (r'.restart (j : Int)).2) ∧ ASt k w w' b px (P.vol (r'.restart (j : Int)).1) []) := hide (hst.out.1.vol (fun k' W hW => pl_restart hW (j : Int)))
      have HE := (restart_up hst.out.1.inv.inv.s6 hlt).2
      have HE : (r'.restart (j : Int)).2 = 0 ∨ (r'.restart (j : Int)).2 = 10 := HE
      have HN := hide (hst.out.2.next hst.out.1.inv.inv hlt)
      generalize (r'.restart (j : Int)).2 = e at *
      clear hst
      rcases HE with he | he
      all_goals
        rw [he] at HR
        clear he
        go_wp2_with fail
        refine HR.out.mono ?_
        rintro e2 w2 ⟨rfl, h2⟩
        have H2 := hide h2
        clear h2
        go_wp2_with fail
        go_roundw
        case rel => exact ⟨j + 1, by omega, by go_num, _, hide ⟨H2.out, HN.out⟩⟩
        case measure => simp [intOf]; omega
    · have hje : j = 6 := by omega
      have hd : decide ((j : Int) < 6) = false := by simp; omega
      rw [hje] at hst
      have HD := hide hst.out.1.drain
      have HC : Hid (∀ r'', Dr r' r'' → CalmTo P.r r'') := hide (fun r'' d => hst.out.2.calm hst.out.1.inv.inv d)
      clear hje hst
      go_wp2_with fail
      refine HD.out.mono ?_
      rintro e2 w2 ⟨rfl, r'', d2, h2⟩
      go_wp2_with fail
      go_ret
      obtain ⟨k', ev, hp, _⟩ := h2
      exact ⟨rfl, r'', k', HC.out _ d2, ev, hp⟩

theorem gossip_ok {W : Nat} {r : RVol} (h : Kk W r) {a b : Nat} (ha : a < 6) (hb : b < 6) (hne : a ≠ b) : (r.gossip (a : Int) (b : Int)).2 = 0 := by
  obtain ⟨g, hg, hu, _⟩ := h.seg a ha
  unfold RVol.gossip
  rw [if_neg (by omega), Int.toNat_natCast, hg]
  simp only [hu, if_true]
theorem sync_ok0 {W : Nat} {r : RVol} (h : Kk W r) {a : Nat} (ha : a < 6) : (r.sync (a : Int)).2 = 0 := by
  obtain ⟨g, hg, hu, _⟩ := h.seg a ha
  unfold RVol.sync
  rw [if_neg (by omega), Int.toNat_natCast, hg]
  simp only [hu, if_true]

set_option maxRecDepth 3000 in
set_option maxHeartbeats 8000000 in
theorem pl_round {k : Nat → Nat} {w : World} {b px : Nat} {P : PSt} (h : Pl k w b px P) (i : Nat) (hK : Kk (i + 1) P.r) :
    Calls Try.prog 39 #[.pointer (some ⟨b, 0, none⟩), .int .i64 ((i : Int) + 1)] w fun e w' => e = .returned (.bool true) ∧ ∃ r' k', Rnd ((i : Int) + 1) P.r r' ∧ Evo k k' cPS w w' ∧ Pl k' w' b px (P.vol r') := by
  have H0 := hide (ASt.start h)
  have HK := hide hK
  obtain ⟨z0, hbl⟩ := h.ptr
  have HR : Hid (Calls Try.prog 32 #[.pointer (some ⟨px, 0, none⟩), .int .i64 ((i : Int) + 1)] w fun e w' => e = .returned (.int .i64 0) ∧ ASt k w w' b px (P.vol (P.r.resend ((i : Int) + 1)).1) []) := hide (by
    have := H0.out.vol (fun k' W hW => pl_resend hW ((i : Int) + 1))
    obtain ⟨p, hp, _⟩ := hK.pen
    have e : (P.r.resend ((i : Int) + 1)).2 = 0 := by rw [resend_eq hK hp]
    rw [e] at this
    exact this)
  clear h hK
  go_enter Try.func39, Try.ntmps39
  go_wp2_with fail
  refine HR.out.mono ?_
  rintro e1 w1 ⟨rfl, h1⟩
  have HD := hide h1.drain
  clear h1 z0 hbl
  go_wp2_with fail
  refine HD.out.mono ?_
  rintro e2 w2 ⟨rfl, r1, d1, h2⟩
  have H2 : Hid (ASt k w w2 b px (P.vol r1) []) := hide h2
  have HD1 : Hid (Dr (P.r.resend ((i : Int) + 1)).1 r1) := hide d1
  have HK1 : Hid (Kk (i + 1) r1) := hide (((HK.out.resend _).2.dl d1.1).2)
  clear h2 d1 HD HR
  go_wp2_with fail
  go_loopw [7] (fun v wr => ∃ a : Nat, a ≤ 6 ∧ v = .int .i64 a ∧ ∃ r', Hid (ASt k w wr b px (P.vol r') [] ∧ Ops (gosAll a) r1 r')) (fun v _ => 6 - (intOf v).toNat)
  case atStart => exact ⟨0, by omega, rfl, r1, hide ⟨H2.out, rfl⟩⟩
  case round =>
    obtain ⟨a, ha, rfl, r', hst⟩ := hrel
    by_cases hlt : a < 6
    · have hd : decide ((a : Int) < 6) = true := by simp; omega
      have hw : IntKind.i64.wrap ((a : Int) + 1) = ((a + 1 : Nat) : Int) := by rw [IntKind.wrap_i64] <;> omega
      have E2 := hst
      clear hst
      go_wp2_with fail
      go_loopw [8] (fun v wr => ∃ c : Nat, c ≤ 6 ∧ v = .int .i64 c ∧ ∃ r', Hid (ASt k w wr b px (P.vol r') [] ∧ Ops (gosAll a ++ gosUp a c) r1 r')) (fun v _ => 6 - (intOf v).toNat)
      case atStart => exact ⟨0, by omega, rfl, r', hide ⟨E2.out.1, by have := E2.out.2; unfold gosUp; simpa using this⟩⟩
      case round =>
        obtain ⟨c, hc, rfl, r'', hst⟩ := hrel
        obtain ⟨z0, hbl⟩ := hst.out.1.ptr
        by_cases hlt2 : c < 6
        · have hd2 : decide ((c : Int) < 6) = true := by simp; omega
          have hw2 : IntKind.i64.wrap ((c : Int) + 1) = ((c + 1 : Nat) : Int) := by rw [IntKind.wrap_i64] <;> omega
          by_cases hac : a = c
          · have he : ((a : Int) == (c : Int)) = true := by rw [hac]; simp
            have HX : Hid (Ops (gosAll a ++ gosUp a (c + 1)) r1 r'') := hide (by rw [gosUp_succ, if_pos hac, List.append_nil]; exact hst.out.2)
            have HS := hide hst.out.1
            clear hst hac
            go_wp2_with fail
            go_roundw
            case rel => exact ⟨c + 1, by omega, by go_num, r'', hide ⟨HS.out, HX.out⟩⟩
            case measure => simp [intOf]; omega
          · have he : ((a : Int) == (c : Int)) = false := by simp; omega
            have he2 : ((a : Int) != (c : Int)) = true := by simp; omega
            obtain ⟨_, kk, _⟩ := Kk.ops HK1.out HD1.out.2 hst.out.2
            have HG : Hid (Calls Try.prog 29 #[.pointer (some ⟨px, 0, none⟩), .int .i64 (a : Int), .int .i64 (c : Int)] wr fun e w' => e = .returned (.int .i64 0) ∧ ASt k w w' b px (P.vol (r''.gossip (a : Int) (c : Int)).1) []) := hide (by
              have := hst.out.1.vol (fun k' W hW => pl_gossip hW (a : Int) (c : Int))
              have e : ((P.vol r'').r.gossip (a : Int) (c : Int)).2 = 0 := gossip_ok kk hlt hlt2 hac
              rw [e] at this
              exact this)
            have HX : Hid (∀ r3, Dr (r''.gossip (a : Int) (c : Int)).1 r3 → Ops (gosAll a ++ gosUp a (c + 1)) r1 r3) := hide (fun r3 d => by
              rw [gosUp_succ, if_neg hac, ← List.append_assoc]
              exact Ops.snoc (o := .gos a c) hst.out.2 d)
            clear hst kk hac
            go_wp2_with fail
            refine HG.out.mono ?_
            rintro e3 w3 ⟨rfl, h3⟩
            have HD3 := hide h3.drain
            clear h3
            go_wp2_with fail
            refine HD3.out.mono ?_
            rintro e4 w4 ⟨rfl, r3, d3, h4⟩
            have H4 : Hid (ASt k w w4 b px (P.vol r3) [] ∧ Ops (gosAll a ++ gosUp a (c + 1)) r1 r3) := hide ⟨h4, HX.out _ d3⟩
            clear h4 d3 HD3 HG
            go_wp2_with fail
            go_roundw
            case rel => exact ⟨c + 1, by omega, by go_num, r3, H4⟩
            case measure => simp [intOf]; omega
        · have hce : c = 6 := by omega
          have hd2 : decide ((c : Int) < 6) = false := by simp; omega
          rw [hce] at hst
          clear hce
          go_wp2_with fail
          go_roundw
          case rel => exact ⟨a + 1, by omega, by go_num, r'', hst⟩
          case measure => simp [intOf]; omega
    · have hae : a = 6 := by omega
      have hd : decide ((a : Int) < 6) = false := by simp; omega
      rw [hae] at hst
      obtain ⟨r2, hr2⟩ : ∃ r2, r2 = r' := ⟨_, rfl⟩
      subst hr2
      obtain ⟨_, kk2, ll2⟩ := Kk.ops HK1.out HD1.out.2 hst.out.2
      have HK2 := hide (And.intro kk2 ll2)
      have HO2 := hide hst.out.2
      have E2 := hide hst.out.1
      clear hae hst kk2 ll2
      go_wp2_with fail
      go_loopw [9] (fun v wr => ∃ c : Nat, c ≤ 6 ∧ v = .int .i64 c ∧ ∃ r', Hid (ASt k w wr b px (P.vol r') [] ∧ Ops (synUp c) r2 r')) (fun v _ => 6 - (intOf v).toNat)
      case atStart => exact ⟨0, by omega, rfl, r2, hide ⟨E2.out, rfl⟩⟩
      case round =>
        obtain ⟨c, hc, rfl, r'', hst⟩ := hrel
        obtain ⟨z0, hbl⟩ := hst.out.1.ptr
        by_cases hlt2 : c < 6
        · have hd2 : decide ((c : Int) < 6) = true := by simp; omega
          have hw2 : IntKind.i64.wrap ((c : Int) + 1) = ((c + 1 : Nat) : Int) := by rw [IntKind.wrap_i64] <;> omega
          obtain ⟨_, kk, _⟩ := Kk.ops HK2.out.1 HK2.out.2 hst.out.2
          have HG : Hid (Calls Try.prog 28 #[.pointer (some ⟨px, 0, none⟩), .int .i64 (c : Int)] wr fun e w' => e = .returned (.int .i64 0) ∧ ASt k w w' b px (P.vol (r''.sync (c : Int)).1) []) := hide (by
            have := hst.out.1.vol (fun k' W hW => pl_sync hW (c : Int))
            have e : ((P.vol r'').r.sync (c : Int)).2 = 0 := sync_ok0 kk hlt2
            rw [e] at this
            exact this)
          have HX : Hid (∀ r3, Dr (r''.sync (c : Int)).1 r3 → Ops (synUp (c + 1)) r2 r3) := hide (fun r3 d => by
            rw [synUp_succ]
            exact Ops.snoc (o := .syn c) hst.out.2 d)
          clear hst kk
          go_wp2_with fail
          refine HG.out.mono ?_
          rintro e3 w3 ⟨rfl, h3⟩
          have HD3 := hide h3.drain
          clear h3
          go_wp2_with fail
          refine HD3.out.mono ?_
          rintro e4 w4 ⟨rfl, r3, d3, h4⟩
          have H4 : Hid (ASt k w w4 b px (P.vol r3) [] ∧ Ops (synUp (c + 1)) r2 r3) := hide ⟨h4, HX.out _ d3⟩
          clear h4 d3 HD3 HG
          go_wp2_with fail
          go_roundw
          case rel => exact ⟨c + 1, by omega, by go_num, r3, H4⟩
          case measure => simp [intOf]; omega
        · have hce : c = 6 := by omega
          have hd2 : decide ((c : Int) < 6) = false := by simp; omega
          rw [hce] at hst
          clear hce
          go_wp2_with fail
          go_ret
          obtain ⟨⟨k', ev, hp, _⟩, ho⟩ := hst.out
          exact ⟨rfl, r'', k', ⟨r1, r2, HD1.out, HO2.out, ho⟩, ev, hp⟩
end Go.Proofs.Ytfpbkghcjaonlaa.Sim

/-
  Liveness: settling.
-/
namespace Go.Proofs.Ytfpbkghcjaonlaa.Sim

structure Prog (i j : Nat) (r : RVol) : Prop where
  k : Kk (i + 1) r
  live : j = 0 ∨ liveOf r.net = []
  mu : ∃ p, r.pens[i]? = some p ∧ ((p.values = [] ∧ j ≤ mu2 p + 1) ∨ (p.fenced.length = 4 ∧ fourOf p.status (baseOf p.fenced : Int) = true ∧ ∃ c, 4 * (baseOf p.fenced + p.values.length + 1) ≤ c + 98 ∧ c + j ≤ mu3 p.status + 1 ∧ c ≤ mu3 p.status))
section
variable {i j : Nat} {r r' : RVol}
theorem Prog.start2 (h : Kk (i + 1) r) {p : RPen} (hp : r.pens[i]? = some p) (hv : p.values = []) : Prog i 0 r := ⟨h, .inl rfl, p, hp, .inl ⟨hv, Nat.zero_le _⟩⟩
theorem Prog.start3 (h : Kk (i + 1) r) {p : RPen} (hp : r.pens[i]? = some p) (h3 : p.stands.phase = 3) : Prog i 0 r := by
  obtain ⟨p', hp', ho, hpi⟩ := h.pen
  rw [hp] at hp'
  have := Option.some.inj hp'
  subst this
  obtain ⟨h4, hf⟩ : p.fenced.length = 4 ∧ fourOf p.status (baseOf p.fenced : Int) = true := by
    rcases hpi.cases with ⟨h5, _⟩ | ⟨_, _, h5⟩ | ⟨_, _, _, h5⟩ | ⟨_, a, b, h5⟩
    · rw [ho] at h5; simp at h5
    · rw [h5] at h3; simp at h3
    · rw [h5] at h3; simp at h3
    · exact ⟨a, b⟩
  have hw := hpi.win (by omega) hf
  have h40 := hpi.n40
  obtain ⟨e1, e2, e3, _⟩ := durUp_spec p.status (baseOf p.fenced) p.values.length hf
  have hl := mu3_low e3 (by omega)
  have hwi := h.inv.wi
  exact ⟨h, .inl rfl, p, hp, .inr ⟨h4, hf, mu3 p.status, by omega, by omega, Nat.le_refl _⟩⟩
/-- It is open, and all is durable. -/
def Done (p : RPen) : Prop := p.stands.phase = 3 ∧ p.stands.dur = p.stands.next
theorem mu3_pre {st st' : List Msg} (h : st <+: st') : mu3 st ≤ mu3 st' := sumTo_le (fun n _ => gg_mono (cntR_pre h n))
theorem four_pre {st st' : List Msg} (h : st <+: st') {n : Int} (hf : fourOf st n = true) : fourOf st' n = true := by
  unfold fourOf at *
  have h1 := of_decide_eq_true hf
  have : reachUp st n 6 ≤ reachUp st' n 6 := filter_len_le (fun _ _ hr => reach_pre h hr)
  simp; omega
theorem Prog.next (h : Prog i j r) {p : RPen} (hp : r.pens[i]? = some p) (hno : ¬ Done p) (d : Rnd ((i : Int) + 1) r r') : Prog i (j + 1) r' := by
  obtain ⟨hK, hl, p0, hp0, hm⟩ := h
  rw [hp] at hp0
  have := Option.some.inj hp0
  subst this
  obtain ⟨p2, hp2, ho, hpi⟩ := hK.pen
  rw [hp] at hp2
  have := Option.some.inj hp2
  subst this
  obtain ⟨mo, k', l'⟩ := d.mo hK
  obtain ⟨p', hp', a1, a2, a3⟩ := mo.pen i p hp
  have hpi' := k'.inv.pens i p' hp'
  refine ⟨k', .inr l', p', hp', ?_⟩
  rcases hm with ⟨hv, hj⟩ | ⟨h4, hf, c, hc1, hc2, hc3⟩
  · left
    refine ⟨a3.trans hv, ?_⟩
    by_cases h0 : liveOf r.net = []
    · obtain ⟨p3, hp3, hmu⟩ := prog2 hK h0 d hp hv (by
        rcases hpi.cases with ⟨h5, _⟩ | ⟨_, h5, _⟩ | ⟨_, _, h5, _⟩ | ⟨_, _, hf, h5⟩
        · rw [ho] at h5; simp at h5
        · exact .inl h5
        · exact .inr h5
        · exfalso
          refine hno ⟨by rw [h5], ?_⟩
          rw [h5, hv]
          have := durUp_spec p.status (baseOf p.fenced) 0 hf
          simp only [List.length_nil]
          omega)
      rw [hp'] at hp3
      rw [← Option.some.inj hp3] at hmu
      omega
    · have : j = 0 := by rcases hl with h | h <;> first | exact h | exact absurd h h0
      omega
  · right
    have hfe : p'.fenced = p.fenced := by
      have := a1.eq_of_length (by have := a1.length_le; have := hpi'.f4; omega)
      exact this.symm
    refine ⟨by rw [hfe]; exact h4, by rw [hfe]; exact four_pre a2 hf, c, by rw [hfe, a3]; exact hc1, ?_, by have := mu3_pre a2; omega⟩
    by_cases h0 : liveOf r.net = []
    · obtain ⟨p3, hp3, hmu⟩ := prog3 hK h0 d hp h4 hf (by
        intro he
        refine hno ⟨?_, he⟩
        rw [stands_open ho (by omega) hf])
      rw [hp'] at hp3
      rw [← Option.some.inj hp3] at hmu
      omega
    · have : j = 0 := by rcases hl with h | h <;> first | exact h | exact absurd h h0
      have := mu3_pre a2
      omega
theorem Prog.bound (h : Prog i j r) : j ≤ 100 := by
  obtain ⟨hK, hl, p, hp, hm⟩ := h
  have hpi := hK.inv.pens i p hp
  rcases hm with ⟨hv, hj⟩ | ⟨h4, hf, c, hc1, hc2, hc3⟩
  · have := mu2_le hpi; omega
  · have := mu3_top hpi; omega
theorem Dl.inv (h : Inv r) (s : Saf r) (d : Dl r r') : Goes r r' ∧ Inv r' := by
  refine Dl.ind (motive := fun r r' => Inv r → Saf r → Goes r r' ∧ Inv r') (fun r h s => ⟨Goes.refl s, h⟩) (fun r r' _ ih h s => ?_) d h s
  have g := goes_deliver h s 0
  obtain ⟨a, b⟩ := ih (sim_deliver h 0).2 g.saf
  exact ⟨g.trans a, b⟩
theorem Ops.goes : ∀ {l : List Op} {r r' : RVol}, Inv r → Saf r → Ops l r r' → Goes r r' ∧ Inv r'
  | [], r, r', h, s, e => by rw [e]; exact ⟨Goes.refl s, h⟩
  | o :: l, r, r', h, s, ⟨r1, d, t⟩ => by
    have g1 : Goes r (o.run r).1 ∧ Inv (o.run r).1 := by
      obtain ⟨g, a, b⟩ := o
      cases g with
      | true => exact ⟨goes_gossip s a b, (sim_gossip h a b).2⟩
      | false => exact ⟨goes_sync h s a, (sim_sync h a).2⟩
    obtain ⟨g2, i2⟩ := d.1.inv g1.2 g1.1.saf
    obtain ⟨g3, i3⟩ := Ops.goes i2 g2.saf t
    exact ⟨(g1.1.trans g2).trans g3, i3⟩
theorem Rnd.goes {W : Int} (h : Inv r) (s : Saf r) (d : Rnd W r r') : Goes r r' := by
  obtain ⟨r1, r2, d1, d2, d3⟩ := d
  have g0 := goes_resend s W
  obtain ⟨g1, i1⟩ := d1.1.inv (sim_resend h W).2 g0.saf
  obtain ⟨g2, i2⟩ := Ops.goes i1 g1.saf d2
  obtain ⟨g3, i3⟩ := Ops.goes i2 g2.saf d3
  exact ((g0.trans g1).trans g2).trans g3
end
end Go.Proofs.Ytfpbkghcjaonlaa.Sim

/-
  sixfoldlaw's player: settle, newest.
-/
namespace Go.Proofs.Ytfpbkghcjaonlaa.Sim
open Go.RowKit

structure SMid (i : Nat) (P P' : PSt) : Prop where
  most : P'.most = P.most
  len : P'.pens.length = P.pens.length
  oth : ∀ j, j ≠ i → P'.pens[j]? = P.pens[j]?
  mo : Mo P.r P'.r
  goes : Goes P.r P'.r
theorem SMid.refl {i : Nat} {P : PSt} (h : PlInv P) : SMid i P P := ⟨rfl, rfl, fun _ _ => rfl, Mo.refl _, Goes.refl h.saf⟩
theorem SMid.told {i : Nat} {P P' P'' : PSt} (h : SMid i P P') {x : WSt} (hi : i < P'.pens.length) (h1 : P''.r = P'.r) (h2 : P''.pens = (P'.told i x).pens) (h3 : P''.most = P'.most) : SMid i P P'' := by
  rw [told_eq hi] at h2
  refine ⟨h3.trans h.most, by rw [h2, List.length_set]; exact h.len, fun j hj => ?_, by rw [h1]; exact h.mo, by rw [h1]; exact h.goes⟩
  rw [h2, List.getElem?_set_ne (fun e => hj e.symm)]
  exact h.oth j hj
theorem SMid.vol {i : Nat} {P P' : PSt} {r : RVol} (h : SMid i P P') (m : Mo P'.r r) (g : Goes P'.r r) : SMid i P (P'.vol r) := ⟨h.most, h.len, h.oth, h.mo.trans m, h.goes.trans g⟩
structure SettleTo (i : Nat) (P P' : PSt) : Prop extends SMid i P P' where
  k : Kk (i + 1) P'.r
  done : ∃ p q, P'.r.pens[i]? = some p ∧ P'.pens[i]? = some q ∧ q.last = p.stands ∧ Done p ∧ p.over = false
theorem ASt.arr {k : Nat → Nat} {w wr : World} {b px : Nat} {P : PSt} {X : List (Nat × Nat × List Value)} (h : ASt k w wr b px P X) : ∃ a cap, wr.cell? ⟨b, 3, none⟩ = some (.slice a P.pens.length cap) ∧ b < wr.heap.size ∧
    ∀ j (hj : j < P.pens.length), ∃ pa g la lcap va vcap, a = some ⟨pa, 0, none⟩ ∧ pa < wr.heap.size ∧ wr.cell? ⟨pa, j, none⟩ = some (.pointer (some ⟨g, 0, none⟩)) ∧ PenAt wr g P.pens[j] la lcap va vcap := by
  obtain ⟨k', ev, hp, _⟩ := h
  exact hp.arr
theorem ASt.round {k : Nat → Nat} {w wr : World} {b px : Nat} {P : PSt} {X : List (Nat × Nat × List Value)} (h : ASt k w wr b px P X) (i : Nat) (hK : Kk (i + 1) P.r) :
    Calls Try.prog 39 #[.pointer (some ⟨b, 0, none⟩), .int .i64 ((i : Int) + 1)] wr fun e w' => e = .returned (.bool true) ∧ ∃ r', Rnd ((i : Int) + 1) P.r r' ∧ ASt k w w' b px (P.vol r') X := by
  refine (h.call (Q := fun e P' => e = .returned (.bool true) ∧ ∃ r', Rnd ((i : Int) + 1) P.r r' ∧ P' = P.vol r') (fun _ _ hW => (pl_round hW i hK).mono (fun _ _ ⟨e1, r', k2, e2, e3, e4⟩ => ⟨P.vol r', k2, ⟨e1, r', e2, rfl⟩, e3, e4⟩))).mono ?_
  rintro e w' ⟨P', ⟨e1, r', e2, rfl⟩, h2⟩
  exact ⟨e1, r', e2, h2⟩

set_option maxRecDepth 3000 in
set_option maxHeartbeats 8000000 in
theorem pl_settle {k : Nat → Nat} {w : World} {b px : Nat} {P : PSt} (h : Pl k w b px P) (i : Nat) (hpr : Prog i 0 P.r) :
    Calls Try.prog 19 #[.pointer (some ⟨b, 0, none⟩), .int .i64 ((i : Int) + 1)] w fun e w' => e = .returned (.bool true) ∧ ∃ P' k', SettleTo i P P' ∧ Evo k k' cPS w w' ∧ Pl k' w' b px P' := by
  have h9 := h.2.p9
  have hlen := h.2.len
  have hil : i < P.pens.length := by rw [hlen, hpr.k.len]; omega
  have H0 := hide (ASt.start h)
  have HM : Hid (SMid i P P) := hide (SMid.refl h.2)
  have HP := hide hpr
  clear h hpr hlen
  have hw1 : IntKind.i64.wrap ((i : Int) + 1 - 1) = (i : Int) := by rw [IntKind.wrap_i64] <;> omega
  go_enter Try.func19, Try.ntmps19
  go_wp2_with fail
  go_loopw [5] (fun v wr => ∃ j : Nat, j ≤ 120 ∧ v = .int .i64 j ∧ ∃ P', Hid (ASt k w wr b px P' [] ∧ Prog i j P'.r ∧ SMid i P P')) (fun v _ => 120 - (intOf v).toNat)
  case atStart => exact ⟨0, by omega, rfl, P, hide ⟨H0.out, HP.out, HM.out⟩⟩
  case round =>
    obtain ⟨j, hj, rfl, P', hst⟩ := hrel
    have hlt : j < 120 := by have := hst.out.2.1.bound; omega
    have hd : decide ((j : Int) < 120) = true := by simp; omega
    have hw : IntKind.i64.wrap ((j : Int) + 1) = ((j + 1 : Nat) : Int) := by rw [IntKind.wrap_i64] <;> omega
    have hil' : i < P'.pens.length := by rw [hst.out.2.2.len]; exact hil
    obtain ⟨p, hp, ho, hpi⟩ := hst.out.2.1.k.pen
    have HA := hide (hst.out.1.asks i hil' p hp)
    have HNx : Hid (∀ P'' : PSt, P''.r = P'.r → P''.pens = (P'.told i p.stands).pens → P''.most = P'.most → Prog i j P''.r ∧ SMid i P P'' ∧ P''.r.pens[i]? = some p ∧ ∃ hi : i < P''.pens.length, P''.pens[i].last = p.stands) := hide (fun P'' a b c => ⟨by rw [a]; exact hst.out.2.1, hst.out.2.2.told hil' a b c, by rw [a]; exact hp, by rw [b, told_eq hil', List.length_set]; exact hil', by simp only [b, told_eq hil', List.getElem_set_self]⟩)
    have HO := hide ho
    clear hp hil' hst ho
    go_wp2_with fail
    refine HA.out.mono ?_
    rintro e1 w1 ⟨P'', ⟨rfl, e1, e2, e3⟩, h1⟩
    obtain ⟨n1, n2, n3, hi2, n4⟩ := HNx.out P'' e1 e2 e3
    obtain ⟨a, cap, z3, hbl, hall⟩ := h1.arr
    obtain ⟨pa, g, la, lcap, va, vcap, rfl, hpa, z4, hpen⟩ := hall i hi2
    have c2 := hpen.c2
    have c3 := hpen.c3
    have c4 := hpen.c4
    have c5 := hpen.c5
    have hgl := hpen.lt
    rw [n4] at c2 c3 c4 c5
    have hli : (i : Int) < (P''.pens.length : Int) := by omega
    have H1 := hide h1
    have HG : Hid (Prog i j P''.r ∧ SMid i P P'' ∧ P''.r.pens[i]? = some p ∧ ∃ q, P''.pens[i]? = some q ∧ q.last = p.stands) := hide ⟨n1, n2, n3, P''.pens[i], List.getElem?_eq_getElem hi2, n4⟩
    obtain ⟨pl, hpl⟩ : ∃ x, x = P''.pens.length := ⟨_, rfl⟩
    rw [← hpl] at z3 hli hi2
    clear e1 e2 e3 h1 n1 n2 n3 n4 hall hpen hpl HA HNx
    have HDn : Hid (Done p ↔ (p.stands.phase = 3 ∧ p.stands.dur = p.stands.next)) := hide Iff.rfl
    have HRd : Hid (Kk (i + 1) P''.r) := hide HG.out.1.k
    by_cases h3 : p.stands.phase = 3
    · rw [h3] at c2
      by_cases hdn : p.stands.dur = p.stands.next
      · have HD : Hid (Done p) := hide ⟨h3, hdn⟩
        rw [hdn] at c5
        generalize p.stands.next = nx at *
        clear h3 hdn HDn
        go_wp2_with fail
        go_ret
        obtain ⟨⟨k', ev, hp', _⟩, ⟨g1, g2, g3, q, g4, g5⟩⟩ := And.intro H1.out HG.out
        refine ⟨rfl, P'', k', ⟨g2, HRd.out, p, q, g3, g4, g5, HD.out, HO.out⟩, ?_, ?_⟩
        · exact ev.trans (Evo.of_below ((Below.refl _ _).alloc (Nat.le_refl _) _))
        · exact hp'.below ((Below.refl _ _).alloc (Nat.le_refl _) _)
      · have HD : Hid (¬ Done p) := hide (fun h => hdn h.2)
        have dd : (p.stands.dur == p.stands.next) = false := by simpa using hdn
        generalize p.stands.next = nx at *
        generalize p.stands.dur = du at *
        clear h3 hdn HDn
        have HRn : Hid (∀ W, Below w1.heap.size w1 W → Calls Try.prog 39 #[.pointer (some ⟨b, 0, none⟩), .int .i64 ((i : Int) + 1)] W fun e w' => e = .returned (.bool true) ∧ ∃ r', Rnd ((i : Int) + 1) P''.r r' ∧ ASt k w w' b px (P''.vol r') []) := hide (fun W hW => (H1.out.below hW).round i HRd.out)
        go_wp2_with fail
        refine (HRn.out _ ((Below.refl _ _).alloc (Nat.le_refl _) _)).mono ?_
        rintro e2 w2 ⟨rfl, r2, d2, h2⟩
        have H2 : Hid (ASt k w w2 b px (P''.vol r2) [] ∧ Prog i (j + 1) (P''.vol r2).r ∧ SMid i P (P''.vol r2)) := hide ⟨h2, HG.out.1.next HG.out.2.2.1 HD.out d2, HG.out.2.1.vol (d2.mo HRd.out).1 (d2.goes HRd.out.inv HRd.out.saf)⟩
        clear h2 d2
        go_wp2_with fail
        go_roundw
        case rel => exact ⟨j + 1, by omega, by go_num, _, H2⟩
        case measure => simp [intOf]; omega
    · have HD : Hid (¬ Done p) := hide (fun h => h3 h.1)
      have dd : (p.stands.phase == 3) = false := by simpa using h3
      generalize p.stands.next = nx at *
      generalize p.stands.dur = du at *
      generalize p.stands.phase = ph at *
      clear h3 HDn
      have HRn : Hid (∀ W, Below w1.heap.size w1 W → Calls Try.prog 39 #[.pointer (some ⟨b, 0, none⟩), .int .i64 ((i : Int) + 1)] W fun e w' => e = .returned (.bool true) ∧ ∃ r', Rnd ((i : Int) + 1) P''.r r' ∧ ASt k w w' b px (P''.vol r') []) := hide (fun W hW => (H1.out.below hW).round i HRd.out)
      go_wp2_with fail
      refine (HRn.out _ ((Below.refl _ _).alloc (Nat.le_refl _) _)).mono ?_
      rintro e2 w2 ⟨rfl, r2, d2, h2⟩
      have H2 : Hid (ASt k w w2 b px (P''.vol r2) [] ∧ Prog i (j + 1) (P''.vol r2).r ∧ SMid i P (P''.vol r2)) := hide ⟨h2, HG.out.1.next HG.out.2.2.1 HD.out d2, HG.out.2.1.vol (d2.mo HRd.out).1 (d2.goes HRd.out.inv HRd.out.saf)⟩
      clear h2 d2
      go_wp2_with fail
      go_roundw
      case rel => exact ⟨j + 1, by omega, by go_num, _, H2⟩
      case measure => simp [intOf]; omega
end Go.Proofs.Ytfpbkghcjaonlaa.Sim

/-
  What the newest writer reads; where it begins.
-/
namespace Go.Proofs.Ytfpbkghcjaonlaa.Sim

section
variable {i : Nat} {r : RVol}
theorem may_new {p : RPen} (hp : r.pens[i]? = some p) (h3 : p.stands.phase = 3) : r.may ((i : Int) + 1) = (p.stands, 0) := by
  unfold RVol.may writerAt
  rw [if_neg (by omega), show ((i : Int) + 1).toNat - 1 = i from by omega, hp]
  simp only
  rw [if_neg (by rw [h3]; decide)]
theorem open_of (hK : Kk (i + 1) r) {p : RPen} (hp : r.pens[i]? = some p) (h3 : p.stands.phase = 3) : p.over = false ∧ p.fenced.length = 4 ∧ fourOf p.status (baseOf p.fenced : Int) = true ∧ p.stands = ⟨3, (baseOf p.fenced : Int), (baseOf p.fenced : Int) + (p.values.length : Int), (durUp p.status (baseOf p.fenced) (p.values.length + 1) : Int)⟩ := by
  obtain ⟨p', hp', ho, hpi⟩ := hK.pen
  rw [hp] at hp'
  have := Option.some.inj hp'
  subst this
  rcases hpi.cases with ⟨h5, _⟩ | ⟨_, _, h5⟩ | ⟨_, _, _, h5⟩ | ⟨a, b, c, h5⟩
  · rw [ho] at h5; simp at h5
  · rw [h5] at h3; simp at h3
  · rw [h5] at h3; simp at h3
  · exact ⟨a, b, c, h5⟩
theorem read_ok (hK : Kk (i + 1) r) {p : RPen} (hp : r.pens[i]? = some p) (h3 : p.stands.phase = 3) {m : Nat} (h1 : 1 ≤ m) (hm : (m : Int) ≤ p.stands.dur) : (r.read ((i : Int) + 1) (m : Int)).2.2 = 0 := by
  obtain ⟨ho, h4, hf, hst⟩ := open_of hK hp h3
  unfold RVol.read
  rw [may_new hp h3]
  simp only
  rw [if_neg (by simp), if_neg (by rw [h3]; simp), if_neg (by omega), show ((i : Int) + 1).toNat - 1 = i from by omega, hp]
  simp only
  unfold RVol.readOf
  have hspec := durUp_spec p.status (baseOf p.fenced) p.values.length hf
  have h4d : 4 ≤ cntR p.status (durUp p.status (baseOf p.fenced) (p.values.length + 1)) := by
    have := hspec.2.2.1
    rw [four_cnt] at this
    simpa using this
  obtain ⟨s, hs, hr⟩ : ∃ s : Nat, s < 6 ∧ reach p.status (durUp p.status (baseOf p.fenced) (p.values.length + 1) : Int) (s : Int) = true := by
    apply Classical.byContradiction
    intro h
    have := cntR_zero (st := p.status) (n := durUp p.status (baseOf p.fenced) (p.values.length + 1)) (fun s hs => by
      cases hr : reach p.status (durUp p.status (baseOf p.fenced) (p.values.length + 1) : Int) (s : Int) with
      | false => rfl
      | true => exact absurd ⟨s, hs, hr⟩ h)
    omega
  have hrd : r.reads p (m : Int) s = true := by
    obtain ⟨g, hg, hu, _⟩ := hK.seg s hs
    unfold RVol.reads
    rw [hg]
    simp only [hu, Bool.and_true]
    unfold reach at hr
    rw [Bool.and_eq_true] at hr
    have := of_decide_eq_true hr.2
    rw [hst] at hm
    simp only at hm
    simp
    omega
  cases hpk : r.pickSeg p (m : Int) with
  | none =>
    unfold RVol.pickSeg at hpk
    rw [List.find?_range_eq_none] at hpk
    have := hpk s hs
    rw [hrd] at this
    simp at this
  | some t =>
    have ht : t < 6 := by
      unfold RVol.pickSeg at hpk
      simpa using List.mem_of_find?_eq_some hpk
    obtain ⟨g, hg, hu, _, hge⟩ := hK.seg t ht
    simp only [Option.bind_some, hg]
    rw [if_neg (by omega)]
theorem read_none {p : RPen} (hp : r.pens[i]? = some p) (h3 : p.stands.phase = 3) {m : Int} (hm : p.stands.dur < m) : r.read ((i : Int) + 1) m = (r, 0, 8) := by
  unfold RVol.read
  rw [may_new hp h3]
  simp only
  rw [if_neg (by simp), if_neg (by rw [h3]; simp), if_pos (.inr hm)]
/-- What an older writer ever called durable lies below the Base. -/
theorem old_dur (h : Inv r) (sf : Saf r) {j : Nat} {p q : RPen} (hp : r.pens[i]? = some p) (h4 : 4 ≤ p.fenced.length) (hq : r.pens[j]? = some q) (hj : j < i) : q.stands.dur ≤ (baseOf p.fenced : Int) := by
  apply Classical.byContradiction
  intro hlt
  obtain ⟨n, hn⟩ : ∃ n : Nat, q.stands.dur = (n : Int) := ⟨q.stands.dur.toNat, by omega⟩
  obtain ⟨_, hpre⟩ := pre_dur h sf hq (n := n) (by omega) (by omega)
  have d : Dec r.pens ((i : Int) + 1) p := ⟨i, rfl, hp, h4⟩
  obtain ⟨p1, q1, _, d2, _, hx⟩ := ext_all h sf hpre _ _ p (Nat.le_refl _) d (by omega)
  have := hx ((i : Int) + 1, (baseOf p.fenced : Int)) (by rw [d2.uniq d]; exact dec_top) (by simp only; omega)
  simp only at this
  omega
theorem once_le (hK : Kk (i + 1) r) {p : RPen} (hp : r.pens[i]? = some p) (h3 : p.stands.phase = 3) {n : Nat} {v : Int} (ho : Once r n v) : (n : Int) ≤ p.stands.dur := by
  obtain ⟨h1, j, q, hq, hd, _⟩ := ho
  obtain ⟨ho, h4, hf, hst⟩ := open_of hK hp h3
  have hjl := (List.getElem?_eq_some_iff.1 hq).1
  rw [hK.len] at hjl
  by_cases e : j = i
  · subst e
    rw [hp] at hq
    rw [Option.some.inj hq]; exact hd
  · have := old_dur hK.inv hK.saf hp (by omega) hq (by omega)
    have := (durUp_spec p.status (baseOf p.fenced) p.values.length hf).1
    rw [hst]
    simp only
    omega
/-- The next writer begins where the last one, all of whose records were durable, ended. -/
theorem base_next (h : Inv r) (sf : Saf r) {p q : RPen} (hp : r.pens[i]? = some p) (h4 : p.fenced.length = 4) (hq : r.pens[i + 1]? = some q) (hq4 : q.fenced.length = 4) (hf : fourOf p.status ((baseOf p.fenced + p.values.length : Nat) : Int) = true) : baseOf q.fenced = baseOf p.fenced + p.values.length := by
  have d : Dec r.pens ((i : Int) + 1) p := ⟨i, rfl, hp, by omega⟩
  have dq : Dec r.pens (((i + 1 : Nat) : Int) + 1) q := ⟨i + 1, rfl, hq, by omega⟩
  have hpre := pre_four h sf hp (by omega) hf (Int.le_refl _)
  obtain ⟨p1, q1, d1, d2, hx1, hx2⟩ := ext_all h sf hpre _ _ q (Nat.le_refl _) dq (by omega)
  rw [d1.uniq d, d2.uniq dq] at hx1
  rw [d2.uniq dq] at hx2
  have hlow := hx2 (((i + 1 : Nat) : Int) + 1, (baseOf q.fenced : Int)) dec_top (by simp only; omega)
  simp only at hlow
  have hin : ((i : Int) + 1, (baseOf p.fenced : Int)) ∈ bestUp q.fenced 4 := by
    have := hx1.subset dec_top
    unfold decCuts at this
    rcases List.mem_append.1 this with h | h
    · exact h
    · have := List.mem_singleton.1 h
      simp only [Prod.mk.injEq] at this
      omega
  by_cases hz : baseOf q.fenced = 0
  · omega
  · have hbest := best_cases h dq
    have hb := base_eq hq4
    rcases baseFold_mem (bestUp q.fenced 4) (q.fenced.map note3) 0 with hx | ⟨x, hx, hxe⟩
    · omega
    · obtain ⟨m, hm, rfl⟩ := List.mem_map.1 hx
      obtain ⟨⟨qq, hqq, hqe⟩, hk2, hto⟩ := sf.fnet (i + 1) q hq m hm
      obtain ⟨q1, q2, _⟩ := reach_spec (bestUp q.fenced 4) m.marks
      have hreach : baseOf q.fenced = reachFrom (bestUp q.fenced 4) 0 m.marks := by rw [← hb, hxe]; rfl
      obtain ⟨n, hn⟩ : ∃ n, n = baseOf q.fenced := ⟨_, rfl⟩
      have hnl : n - 1 < m.marks.length := by omega
      have hgb : good (bestUp q.fenced 4) (n : Int) m.marks[n - 1] = true := by
        rw [← hreach, ← hn] at q2
        unfold okUp at q2
        rw [List.all_eq_true] at q2
        have := q2 (n - 1) (by simp; omega)
        rw [List.getD_eq_getElem?_getD, List.getElem?_eq_getElem hnl, Option.getD_some, show ((n - 1 : Nat) : Int) + 1 = (n : Int) from by omega] at this
        exact this
      have hmk := sf.mrk qq hqq (by rw [hqe]; exact hk2)
      rw [hqe] at hmk
      obtain ⟨_, v, hrec⟩ := hmk (n - 1) hnl
      rw [show ((n - 1 : Nat) : Int) + 1 = (n : Int) from by omega] at hrec
      obtain ⟨⟨c, hc, hce⟩, hall⟩ := good_mem hgb
      rcases hbest with h0 | ⟨t', q', d', ht', h0⟩
      · rw [h0] at hc; simp at hc
      · have hctop : c.1 ≤ t' := by
          rw [h0] at hc
          have := top_max (d'.sorted h) c hc
          rw [topOf_dec] at this
          exact this
        obtain ⟨e1, e2, pe, de, hb1, hb2⟩ := hrec
        have hlen : n ≤ baseOf pe.fenced + pe.values.length := by
          have := (List.getElem?_eq_some_iff.1 hb2).1
          omega
        by_cases hep : m.marks[n - 1] = (i : Int) + 1
        · rw [hep] at de
          rw [de.uniq d] at hlen
          omega
        · have := hall _ hin (by simp only; omega)
          simp only at this
          omega
/-- The first writer begins at zero. -/
theorem base_first (sf : Saf r) (h1 : r.pens.length = 1) {p : RPen} (hp : r.pens[0]? = some p) (h4 : p.fenced.length = 4) (hv : p.values = []) : baseOf p.fenced = 0 := by
  apply Classical.byContradiction
  intro hz
  have hb := base_eq h4
  rcases baseFold_mem (bestUp p.fenced 4) (p.fenced.map note3) 0 with hx | ⟨x, hx, hxe⟩
  · omega
  · obtain ⟨m, hm, rfl⟩ := List.mem_map.1 hx
    obtain ⟨⟨qq, hqq, hqe⟩, hk2, hto⟩ := sf.fnet 0 p hp m hm
    obtain ⟨q1, q2, _⟩ := reach_spec (bestUp p.fenced 4) m.marks
    have hreach : baseOf p.fenced = reachFrom (bestUp p.fenced 4) 0 m.marks := by rw [← hb, hxe]; rfl
    have hmk := sf.mrk qq hqq (by rw [hqe]; exact hk2)
    rw [hqe] at hmk
    obtain ⟨_, v, _, _, pe, ⟨j, _, hj, _⟩, _, hb2⟩ := hmk 0 (by omega)
    have hj0 : j = 0 := by have := (List.getElem?_eq_some_iff.1 hj).1; omega
    subst hj0
    rw [hp] at hj
    rw [← Option.some.inj hj, hv] at hb2
    simp at hb2
theorem Done.four (hK : Kk (i + 1) r) {p : RPen} (hp : r.pens[i]? = some p) (hd : Done p) : p.fenced.length = 4 ∧ fourOf p.status ((baseOf p.fenced + p.values.length : Nat) : Int) = true := by
  obtain ⟨ho, h4, hf, hst⟩ := open_of hK hp hd.1
  refine ⟨h4, ?_⟩
  have := hd.2
  rw [hst] at this
  simp only at this
  have hs := (durUp_spec p.status (baseOf p.fenced) p.values.length hf).2.2.1
  rw [show durUp p.status (baseOf p.fenced) (p.values.length + 1) = baseOf p.fenced + p.values.length from by omega] at hs
  exact hs
end
end Go.Proofs.Ytfpbkghcjaonlaa.Sim

/-
  sixfoldlaw's player: newest, tells.
-/
namespace Go.Proofs.Ytfpbkghcjaonlaa.Sim
open Go.RowKit

section
variable {k : Nat → Nat} {w wr : World} {b px : Nat} {P : PSt} {X : List (Nat × Nat × List Value)}
theorem ASt.calm (h : ASt k w wr b px P X) :
    Calls Try.prog 20 #[.pointer (some ⟨b, 0, none⟩)] wr fun e w' => e = .returned (.bool true) ∧ ∃ r', CalmTo P.r r' ∧ ASt k w w' b px (P.vol r') X := by
  refine (h.call (Q := fun e P' => e = .returned (.bool true) ∧ ∃ r', CalmTo P.r r' ∧ P' = P.vol r') (fun _ _ hW => (pl_calm hW).mono (fun _ _ ⟨e1, r', k2, e2, e3, e4⟩ => ⟨P.vol r', k2, ⟨e1, r', e2, rfl⟩, e3, e4⟩))).mono ?_
  rintro e w' ⟨P', ⟨e1, r', e2, rfl⟩, h2⟩
  exact ⟨e1, r', e2, h2⟩
theorem ASt.open_ (h : ASt k w wr b px P X) (h9 : P.r.pens.length < 9) :
    Calls Try.prog 11 #[.pointer (some ⟨b, 0, none⟩)] wr fun e w' => e = .returned (.bool true) ∧ ASt k w w' b px P.opened X := by
  refine (h.call (Q := fun e P' => e = .returned (.bool true) ∧ P' = P.opened) (fun _ _ hW => (pl_open hW h9).mono (fun _ _ ⟨e1, k2, e3, e4⟩ => ⟨P.opened, k2, ⟨e1, rfl⟩, e3, e4⟩))).mono ?_
  rintro e w' ⟨P', ⟨e1, rfl⟩, h2⟩
  exact ⟨e1, h2⟩
theorem ASt.settle (h : ASt k w wr b px P X) (i : Nat) (hpr : Prog i 0 P.r) :
    Calls Try.prog 19 #[.pointer (some ⟨b, 0, none⟩), .int .i64 ((i : Int) + 1)] wr fun e w' => e = .returned (.bool true) ∧ ∃ P', SettleTo i P P' ∧ ASt k w w' b px P' X := by
  refine (h.call (Q := fun e P' => e = .returned (.bool true) ∧ SettleTo i P P') (fun _ _ hW => (pl_settle hW i hpr).mono (fun _ _ ⟨e1, P', k2, e2, e3, e4⟩ => ⟨P', k2, ⟨e1, e2⟩, e3, e4⟩))).mono ?_
  rintro e w' ⟨P', ⟨e1, e2⟩, h2⟩
  exact ⟨e1, P', e2, h2⟩
end
theorem open_segs {r : RVol} (h : r.pens.length < 9) : r.open_.1.segs = r.segs := by
  rw [open_eq h]; simp only; rw [sendUp_eq, sendsUp_segs]; rfl
/-- What a newest writer leaves. -/
structure NewTo (P P' : PSt) : Prop where
  most : P'.most = P.most
  len : P'.pens.length = P.pens.length + 1
  old : ∀ j : Nat, j < P.pens.length → P'.pens[j]? = P.pens[j]?
  goes : Goes P.r P'.r
  mo : ∀ (j : Nat) (p : RPen), P.r.pens[j]? = some p → ∃ p' : RPen, P'.r.pens[j]? = some p' ∧ p.fenced <+: p'.fenced ∧ p.status <+: p'.status ∧ p'.values = p.values
  k : Kk (P.pens.length + 1) P'.r
  done : ∃ (p : RPen) (q : PPen), P'.r.pens[P.pens.length]? = some p ∧ P'.pens[P.pens.length]? = some q ∧ q.last = p.stands ∧ Done p ∧ p.values = []

set_option maxRecDepth 3000 in
set_option maxHeartbeats 8000000 in
theorem pl_newest {k : Nat → Nat} {w : World} {b px : Nat} {P : PSt} (h : Pl k w b px P) (h9 : P.r.pens.length < 9) :
    Calls Try.prog 16 #[.pointer (some ⟨b, 0, none⟩)] w fun e w' => e = .returned (.int .i64 ((P.pens.length : Int) + 1)) ∧ ∃ P' k', NewTo P P' ∧ Evo k k' cPS w w' ∧ Pl k' w' b px P' := by
  have HC := hide (ASt.start h).calm
  have HI := hide h.2
  have H9 := hide h9
  obtain ⟨n, hn⟩ : ∃ n, n = P.pens.length := ⟨_, rfl⟩
  have HL : Hid (n = P.pens.length ∧ P.r.pens.length = n) := hide ⟨hn, by rw [hn]; exact h.2.len.symm⟩
  rw [← hn]
  clear h h9 hn
  go_enter Try.func16, Try.ntmps16
  go_wp2_with fail
  refine HC.out.mono ?_
  rintro e1 w1 ⟨rfl, r1, c1, h1⟩
  have hl1 : r1.pens.length = n := by rw [c1.mo.len]; exact HL.out.2
  have hlt9 : r1.pens.length < 9 := by rw [hl1, ← HL.out.2]; exact H9.out
  have HO := hide (h1.open_ hlt9)
  have HC1 := hide c1
  have HI1 : Hid (Inv r1 ∧ r1.pens.length = n ∧ r1.pens.length < 9) := hide ⟨h1.inv.inv, hl1, hlt9⟩
  clear h1 c1 hl1 hlt9 HC
  go_wp2_with fail
  refine HO.out.mono ?_
  rintro e2 w2 ⟨rfl, h2⟩
  obtain ⟨P2, hP2⟩ : ∃ P2, P2 = (P.vol r1).opened := ⟨_, rfl⟩
  rw [← hP2] at h2
  have hr2 : P2.r = r1.open_.1 := by rw [hP2]; rfl
  have hp2 : P2.pens = P.pens ++ [ppen0] := by rw [hP2]; rfl
  have hm2 : P2.most = P.most := by rw [hP2]; rfl
  have hK2 : Kk (n + 1) P2.r := by
    refine ⟨h2.inv.inv, h2.inv.saf, by rw [hr2, open_pens HI1.out.2.2]; simp [HI1.out.2.1], fun g hg => ?_⟩
    rw [hr2, open_segs HI1.out.2.2] at hg
    exact HC1.out.up g hg
  have hpn : P2.r.pens[n]? = some pen0 := by
    rw [hr2, open_pens HI1.out.2.2, List.getElem?_append_right (by rw [HI1.out.2.1]; exact Nat.le_refl _), HI1.out.2.1]
    simp
  have HS := hide (h2.settle n (Prog.start2 hK2 hpn rfl))
  have HG2 : Hid (Goes P.r P2.r) := hide (by rw [hr2]; exact HC1.out.goes.trans (goes_open HI1.out.1 HC1.out.goes.saf))
  have HM2 : Hid (∀ (j : Nat) (p : RPen), P.r.pens[j]? = some p → ∃ p' : RPen, P2.r.pens[j]? = some p' ∧ p.fenced <+: p'.fenced ∧ p.status <+: p'.status ∧ p'.values = p.values) := hide (fun j p hp => by
    obtain ⟨p', hp', a⟩ := HC1.out.mo.pen j p hp
    refine ⟨p', ?_, a⟩
    rw [hr2, open_pens HI1.out.2.2, List.getElem?_append_left (List.getElem?_eq_some_iff.1 hp').1]; exact hp')
  have HP2 : Hid (P2.pens = P.pens ++ [ppen0] ∧ P2.most = P.most ∧ P2.r.pens[n]? = some pen0) := hide ⟨hp2, hm2, hpn⟩
  obtain ⟨a, cap, z3, hbl, -⟩ := h2.arr
  have hl2 : P2.pens.length = n + 1 := by rw [hp2, List.length_append, ← HL.out.1]; rfl
  rw [hl2] at z3
  have hcast : ((n + 1 : Nat) : Int) = (n : Int) + 1 := by omega
  have HS' : Hid (Calls Try.prog 19 #[.pointer (some ⟨b, 0, none⟩), .int .i64 ((n + 1 : Nat) : Int)] w2 fun e w' => e = .returned (.bool true) ∧ ∃ P', SettleTo n P2 P' ∧ ASt k w w' b px P' []) := hide (by rw [hcast]; exact HS.out)
  have HE : Hid (((n + 1 : Nat) : Int) = (n : Int) + 1) := hide hcast
  generalize n + 1 = n1 at z3 HS' HE
  clear h2 hP2 hr2 hp2 hm2 hK2 hpn HS hl2 hcast HO
  go_wp2_with fail
  refine HS'.out.mono ?_
  rintro e3 w3 ⟨rfl, P3, s3, h3⟩
  have H3 := hide h3
  have HS3 := hide s3
  clear h3 s3 z3 hbl HS'
  go_wp2_with fail
  go_ret
  obtain ⟨k', ev, hp, _⟩ := H3.out
  have s3 := HS3.out
  obtain ⟨hn, hn2⟩ := HL.out
  obtain ⟨q1, q2, q3⟩ := HP2.out
  refine ⟨by rw [HE.out]; rfl, P3, k', ⟨s3.most.trans q2, by rw [s3.len, q1]; simp, fun j hj => ?_, HG2.out.trans s3.goes, fun j p hp => ?_, by rw [← hn]; exact s3.k, ?_⟩, ev, hp⟩
  · rw [s3.oth j (by omega), q1, List.getElem?_append_left hj]
  · obtain ⟨p', hp', a1, a2, a3⟩ := HM2.out j p hp
    obtain ⟨p'', hp'', b1, b2, b3⟩ := s3.mo.pen j p' hp'
    exact ⟨p'', hp'', a1.trans b1, a2.trans b2, b3.trans a3⟩
  · obtain ⟨p, q, d1, d2, d3, d4, d5⟩ := s3.done
    rw [← hn]
    obtain ⟨p', hp', _, _, hv⟩ := s3.mo.pen n pen0 q3
    rw [d1] at hp'
    rw [← Option.some.inj hp'] at hv
    exact ⟨p, q, d1, d2, d3, d4, hv⟩
end Go.Proofs.Ytfpbkghcjaonlaa.Sim
