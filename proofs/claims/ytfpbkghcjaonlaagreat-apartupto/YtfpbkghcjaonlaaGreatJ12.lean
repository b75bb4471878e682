import Derived.Test.YtfpbkghcjaonlaaGreatJ11
import Derived.Test.YtfpbkghcjaonlaaGreatJ09
/-
  sixfoldref: writerHears, MFenced.
-/
namespace Go.Proofs.YtfpbkghcjaonlaaGreat
open Go.RowKit

set_option maxRecDepth 2000 in
set_option maxHeartbeats 4000000 in
theorem wHears_fenced {k : Nat → Nat} {w : World} {q : Nat} {r : RVol} (i : Nat) (hi : i < r.pens.length) (m : Msg) (vc vm : Value) (hk : m.kind = 2) (hto : m.to_ = (i : Int) + 1) (hc : CutsIm k w vc m.cuts) (hm : IntsIm k w vm m.marks) (hY : YVol k w q r) (hok : YOk r)
    (hph : r.pens[i].stands.phase = 1) (hnl : r.net.length ≤ 3000000000) (hmk : MsgOk m) :
    Calls Tryz.prog 116 #[.pointer (some ⟨q, 0, none⟩), .agg #[.int .i64 m.kind, .int .i64 m.frm, .int .i64 m.to_, .int .i64 m.epoch, .int .i64 m.lsn, .int .i64 m.value, .int .i64 m.scl, vc, vm]] w fun e w' => e = .returned (.tuple #[]) ∧
      ∃ k', Evo k k' cRef w w' ∧ YVol k' w' q (r.heard i r.pens[i] m) := by
  obtain ⟨vSegs, vPens, sb, pb, g, cap, vNet, rows, hN, hS, hP, hB, hNet, l1, y4, h1, hp, hpen⟩ := pen_open hY i hi
  have hi9 : (i : Int) < 9 := by have := hP.l2; omega
  have hil : (i : Int) < (r.pens.length : Int) := by omega
  have hgl := World.block_lt_of_cell? w _ hp
  have hql := hB.lt
  have HST : Hid (∀ W, Below w.heap.size w W → Calls Tryz.prog 103 #[.pointer (some ⟨pb[i], 0, none⟩), .int .i64 ((i : Int) + 1)] W fun e w' => e = .returned r.pens[i].stands.val ∧ Below W.heap.size W w') := hide fun W hW =>
    stands_any _ (hpen.evo (Evo.of_below (C := noC) hW) (noC_not _) (noC_not _) (noC_not _) (noC_not _) (noC_not _)) (hok.pk _ (List.getElem_mem hi))
  have hix : (i : Int) + 1 - 1 = (i : Int) := by omega
  have hpk := hok.pk _ (List.getElem_mem hi)
  obtain ⟨z0, z1, z2, hzz⟩ := Rows.shape hc
  subst hzz
  obtain ⟨y0, y1, y2, hyy⟩ := Rows.shape hm
  subst hyy
  generalize hpp : pb[i] = pp at *
  have HPP := hide hpp
  clear hpp
  unfold WSt.val at HST
  generalize r.pens[i].stands = st at *
  obtain ⟨m0, m1, m2, m3, m4, m5, m6, mc, mm⟩ := m
  dsimp only at hk hto hc hm
  have HMK := hide hmk
  clear hmk
  subst hk hto
  have hbA := ((Below.refl w.heap.size w).alloc (Nat.le_refl _) (Obj.cells #[.int .i64 2, .int .i64 m1, .int .i64 ((i : Int) + 1), .int .i64 m3, .int .i64 m4, .int .i64 m5, .int .i64 m6, .slice z0 z1 z2, .slice y0 y1 y2] 109))
  dsimp only
  go_enter Tryz.func116, Tryz.ntmps116
  go_wp2_with fail
  go_quiet (fail)
  go_wp2_with fail
  refine (HST.out _ (below_drewN hbA _)).mono ?_
  rintro e1 w1 ⟨rfl, hb1⟩
  have hs1 : w.heap.size + 1 ≤ w1.heap.size := by have := hb1.size; simpa using this
  have hr1 : w1.heap[w.heap.size]? = _ := (hb1.block w.heap.size (by simp)).trans (heap_alloc_new w _)
  have c0 : w1.cell? ⟨w.heap.size, 0, none⟩ = some (.int .i64 2) := by rw [cell_of_row _ _ 0 _ _ _ hr1]; rfl
  have c2 : w1.cell? ⟨w.heap.size, 2, none⟩ = some (.int .i64 ((i : Int) + 1)) := by rw [cell_of_row _ _ 2 _ _ _ hr1]; rfl
  have hws : w.heap.size < w1.heap.size := by omega
  have hB1 : Below w.heap.size w w1 := (below_drewN hbA _).trans (hb1.mono (by simp))
  go_wp2_with fail
  obtain ⟨W0, hW0⟩ : ∃ W0, W0 = w1.alloc (Obj.cells #[.int .i64 1, .int .i64 st.base, .int .i64 st.next, .int .i64 st.dur] 105) := ⟨_, rfl⟩
  rw [← hW0]
  obtain ⟨kx, hkx⟩ : ∃ kx : Nat → Nat, kx = fun b => if b < w.heap.size then k b else 0 := ⟨_, rfl⟩
  have evx : Evo k kx noC w W0 := by rw [hW0, hkx]; exact ((Evo.of_below hB1).alloc _).recolour _ (fun x hx => if_pos hx)
  have hM0 : Blk kx W0 0 w.heap.size 109 [.int .i64 2, .int .i64 m1, .int .i64 ((i : Int) + 1), .int .i64 m3, .int .i64 m4, .int .i64 m5, .int .i64 m6, .slice z0 z1 z2, .slice y0 y1 y2] := by
    refine ⟨?_, by rw [hkx]; simp⟩
    rw [hW0, Below.heap_alloc _ _ _ hws]; exact hr1
  have hpx := hpen.evo evx (noC_not _) (noC_not _) (noC_not _) (noC_not _) (noC_not _)
  obtain ⟨vF, vS, vV, pB, pF, pS, pV⟩ := hpx.ex
  have HX := hide (And.intro hW0 (And.intro hkx (And.intro hr1 hB1)))
  obtain ⟨bm, hbm⟩ : ∃ bm, bm = w.heap.size := ⟨_, rfl⟩
  rw [← hbm] at hM0
  rw [← hbm]
  clear hW0 hkx hr1 hB1 c0 c2 hws hs1 hb1 hbA HST hpen hbm
  have HF := hide pF
  obtain ⟨fa, fcap, hvf, hcells⟩ := msgs_cells pF
  subst hvf
  have hfl := hpk.fl
  go_loopw [6] (fun x wr => Below W0.heap.size W0 wr ∧ ∃ j : Nat, j ≤ r.pens[i].fenced.length ∧ x = .int .i64 j ∧ Hid (heardIn (r.pens[i].fenced.take j) m1 = false)) (fun x _ => r.pens[i].fenced.length - (intOf x).toNat)
  case atStart => exact ⟨Below.refl _ _, 0, Nat.zero_le _, rfl, hide rfl⟩
  case round =>
    obtain ⟨hBw, j, hj, rfl, hno⟩ := hrel
    have evw : Evo kx kx noC W0 wr := Evo.of_below hBw
    have hMw := hM0.evo evw (noC_not _)
    have pBw := pB.evo evw (noC_not _)
    have q0 : wr.cell? ⟨pp, 0, none⟩ = _ := pBw.cell 0
    simp only [List.getElem?_cons_zero] at q0
    have x1 : wr.cell? ⟨bm, 1, none⟩ = some (.int .i64 m1) := hMw.cell 1
    have xl := hMw.lt
    have pl := pBw.lt
    by_cases hlt : j < r.pens[i].fenced.length
    · obtain ⟨gb, vc, vm, rfl, _, g1, _⟩ := hcells j hlt
      have hgb : gb < W0.heap.size := World.block_lt_of_cell? W0 _ g1
      have g1w := (hBw.cell (p := ⟨gb, j * 9 + 1, none⟩) hgb).trans g1
      have hsz := hBw.size
      have hgb2 : gb < wr.heap.size := by omega
      have ht := heardIn_take r.pens[i].fenced m1 j hlt
      cases he : (r.pens[i].fenced[j].frm == m1)
      · rw [he] at ht
        have HT := hide ht
        clear ht hcells
        go_wp2_with fail
        go_quiet (fail)
        go_wp2_with fail
        go_roundw
        case rel => exact ⟨below_drewN hBw _, j + 1, by omega, by go_num, hide (by rw [HT.out, hno.out]; rfl)⟩
        case measure => simp [intOf]; omega
      · have HH := hide (heardIn_hit r.pens[i].fenced m1 j hlt he)
        clear ht hcells
        go_wp2_with fail
        go_quiet (fail)
        go_wp2_with fail
        refine bodyPost_ret (v := .tuple #[]) (by simp [results, Tryz.results116]) rfl ⟨rfl, kx, ((evx.trans evw).mono (fun _ h => h.elim)).drewN _, ?_⟩
        unfold RVol.heard
        rw [if_pos HH.out]
        exact hY.evo ((evx.trans evw).drewN _) (noC_not _) (fun c _ _ => noC_not c)
    · have hje : j = r.pens[i].fenced.length := by omega
      have HNo : Hid (heardIn r.pens[i].fenced m1 = false) := hide (by have := hno.out; rw [hje, List.take_length] at this; exact this)
      have hd : decide ((j : Int) < (r.pens[i].fenced.length : Int)) = false := by simp; omega
      clear hje hcells
      go_wp2_with fail
      obtain ⟨frows, pFr, pA⟩ := HF.out
      have hfr : frows.length = r.pens[i].fenced.length := pA.1.symm
      have HFR := hide hfr
      have x0 : wr.cell? ⟨bm, 0, none⟩ = some (.int .i64 2) := hMw.cell 0
      have x2 : wr.cell? ⟨bm, 2, none⟩ = some (.int .i64 ((i : Int) + 1)) := hMw.cell 2
      have x3 : wr.cell? ⟨bm, 3, none⟩ = some (.int .i64 m3) := hMw.cell 3
      have x4 : wr.cell? ⟨bm, 4, none⟩ = some (.int .i64 m4) := hMw.cell 4
      have x5 : wr.cell? ⟨bm, 5, none⟩ = some (.int .i64 m5) := hMw.cell 5
      have x6 : wr.cell? ⟨bm, 6, none⟩ = some (.int .i64 m6) := hMw.cell 6
      have x7 : wr.cell? ⟨bm, 7, none⟩ = some (.slice z0 z1 z2) := hMw.cell 7
      have x8 : wr.cell? ⟨bm, 8, none⟩ = some (.slice y0 y1 y2) := hMw.cell 8
      have e2 : Evo kx kx noC W0 (wr.alloc (Obj.cells #[.int .i64 2, .int .i64 m1, .int .i64 ((i : Int) + 1), .int .i64 m3, .int .i64 m4, .int .i64 m5, .int .i64 m6, .slice z0 z1 z2, .slice y0 y1 y2] 109)).drew := (evw.alloc _).drew
      have hR := pFr.evo e2 (noC_not _)
      have pB2 := pB.evo e2 (noC_not _)
      have hnews : ∀ x u, ([msgCells ⟨2, m1, (i : Int) + 1, m3, m4, m5, m6, mc, mm⟩ (.slice z0 z1 z2) (.slice y0 y1 y2)] : List (List Value)).flatten[x]? = some u → (wr.alloc (Obj.cells #[.int .i64 2, .int .i64 m1, .int .i64 ((i : Int) + 1), .int .i64 m3, .int .i64 m4, .int .i64 m5, .int .i64 m6, .slice z0 z1 z2, .slice y0 y1 y2] 109)).drew.cell? ((⟨wr.heap.size, 0, none⟩ : Addr).add x) = some u := fun x u hx => by
        rw [Addr.add_lit, Nat.zero_add]
        show World.cell? (wr.alloc _) _ = _
        rw [cell_of_row _ wr.heap.size x _ _ _ (heap_alloc_new wr _)]
        simpa [msgCells] using hx
      clear hfr
      go_cut [] (fun wc => Hid (∃ k2, Evo k k2 (fun c => c = cP i ∨ c = cP i + 1) w wc ∧ PenIs k2 wc (cP i) pp { r.pens[i] with fenced := r.pens[i].fenced ++ [⟨2, m1, (i : Int) + 1, m3, m4, m5, m6, mc, mm⟩] } ∧ Blk k2 wc 0 bm 109 [.int .i64 2, .int .i64 m1, .int .i64 ((i : Int) + 1), .int .i64 m3, .int .i64 m4, .int .i64 m5, .int .i64 m6, .slice z0 z1 z2, .slice y0 y1 y2]))
      case first =>
        go_region_law
          (refine step_append_rows kx (cP i + 1) (.tmp 88) (.tmp 90) 66 109 _ 9 104 _ frows [msgCells ⟨2, m1, (i : Int) + 1, m3, m4, m5, m6, mc, mm⟩ (.slice z0 z1 z2) (.slice y0 y1 y2)] r.pens[i].fenced.length ⟨wr.heap.size, 0, none⟩ 1 1 HFR.out rfl rfl Tryz.underlying66 Tryz.infoMessage rfl (by decide) rfl rfl hR rfl (by simp [msgCells]) hnews (by simp [msgCells, Value.oneCell']) (by simp only [maxLen]; omega) (by omega) ?_; intro ao1 cap1 w2 k2 hR2 hE2; have y2' : w2.cell? ⟨pp, 0, none⟩ = _ := (pB2.evo hE2 (by omega)).cell 0; simp only [List.getElem?_cons_zero] at y2'; have yf' : w2.frozen? ⟨pp, 0, none⟩ = false := (pB2.evo hE2 (by omega)).free 0; have yl' := (pB2.evo hE2 (by omega)).lt)
        all_goals go_wp2_with fail
        all_goals go_meet
        all_goals
          obtain ⟨f1, f2, f3⟩ := push_fin (Evo.refl _ noC _) pB2 (by omega) hR2 hE2 0
          have eA := (e2.mono (D := fun c => c = cP i ∨ c = cP i + 1) (fun _ h => h.elim)).trans f1
          have him : ¬ (IM = cP i ∨ IM = cP i + 1) := by unfold cP IM; omega
          have hpe : PenIs k2 (w2.setCell ⟨pp, 0, none⟩ (.slice ao1 (r.pens[i].fenced.length + 1) cap1)) (cP i) pp { r.pens[i] with fenced := r.pens[i].fenced ++ [⟨2, m1, (i : Int) + 1, m3, m4, m5, m6, mc, mm⟩] } := ⟨_, _, _, f2, MsgsIs.snoc pA (hc.evo evx (noC_not _)) (hm.evo evx (noC_not _)) eA him f3, pS.evo eA (by omega) him, pV.evo eA (by omega)⟩
          exact hide ⟨k2, (evx.mono (fun _ h => h.elim)).trans eA, hpe, hM0.evo eA (by unfold cP; omega)⟩
      case rest =>
        clear hR pB2 hnews e2 x0 x2 x3 x4 x5 x6 x7 x8 x1 xl pl q0 hMw pBw evw hBw pFr pA HFR
        obtain ⟨k2, ev2, hp2, hM2⟩ := hcut.out
        obtain ⟨vF2, vS2, vV2, qB, qF, qS, qV⟩ := hp2.ex
        obtain ⟨fa2, fcap2, hvf2, _⟩ := msgs_cells qF
        have q0 : wc.cell? ⟨pp, 0, none⟩ = some vF2 := qB.cell 0
        rw [hvf2] at q0
        simp only [List.length_append, List.length_singleton] at q0
        have x2 : wc.cell? ⟨bm, 2, none⟩ = some (.int .i64 ((i : Int) + 1)) := hM2.cell 2
        have xl := hM2.lt
        have pl := qB.lt
        have hYs : YVol k2 wc q (r.setPen i { r.pens[i] with fenced := r.pens[i].fenced ++ [⟨2, m1, (i : Int) + 1, m3, m4, m5, m6, mc, mm⟩] }) := YVol.set_pen hN hS hP i h1 ev2 (fun c h => by omega) (by rw [HPP.out]; exact hp2)
        have evR : Evo k k2 cRef w wc := ev2.mono (fun c h => by unfold cP at h; unfold cRef; omega)
        by_cases hf4 : r.pens[i].fenced.length + 1 = 4
        · have HE : Hid (r.heard i r.pens[i] ⟨2, m1, (i : Int) + 1, m3, m4, m5, m6, mc, mm⟩ = (r.setPen i { r.pens[i] with fenced := r.pens[i].fenced ++ [⟨2, m1, (i : Int) + 1, m3, m4, m5, m6, mc, mm⟩] }).sendUp (cutMsg ((i : Int) + 1) (decCuts (r.pens[i].fenced ++ [⟨2, m1, (i : Int) + 1, m3, m4, m5, m6, mc, mm⟩]) ((i : Int) + 1))) 6) := hide (by
            unfold RVol.heard; rw [if_neg (by rw [HNo.out]; simp), if_pos hf4])
          have HD := hide (decided_any ((i : Int) + 1) (qB.cell 0) qF (by simp; omega) (by simp; omega) (fun m' hm' => by
            rcases List.mem_append.1 hm' with h | h
            · exact hpk.f m' h
            · rw [List.mem_singleton.1 h]; exact HMK.out))
          have hset : (r.setPen i { r.pens[i] with fenced := r.pens[i].fenced ++ [⟨2, m1, (i : Int) + 1, m3, m4, m5, m6, mc, mm⟩] }).net = r.net := rfl
          have HSN := hide hset
          generalize r.setPen i { r.pens[i] with fenced := r.pens[i].fenced ++ [⟨2, m1, (i : Int) + 1, m3, m4, m5, m6, mc, mm⟩] } = r2 at *
          generalize decCuts (r.pens[i].fenced ++ [⟨2, m1, (i : Int) + 1, m3, m4, m5, m6, mc, mm⟩]) ((i : Int) + 1) = dc at *
          generalize baseOf (r.pens[i].fenced ++ [⟨2, m1, (i : Int) + 1, m3, m4, m5, m6, mc, mm⟩]) = ba at *
          have hlen4 : r.pens[i].fenced.length = 3 := by omega
          rw [hlen4] at q0
          clear hset hf4 hp2 qB qF qS qV hN hS hP hlen4 hcut HF hpx pB pF pS pV hM0
          go_wp2_with fail
          refine HD.out.mono ?_
          rintro e3 w3 ⟨⟨z, rfl, hz⟩, hb3⟩
          obtain ⟨s0, s1, hzz⟩ := Made.form hz
          obtain ⟨sl, hsl⟩ : ∃ sl, z = .slice s0 sl s1 := ⟨_, hzz⟩
          have HS3 : Hid (∃ k', Evo k k' cRef w w3 ∧ Blk k' w3 0 bm 109 [.int .i64 2, .int .i64 m1, .int .i64 ((i : Int) + 1), .int .i64 m3, .int .i64 m4, .int .i64 m5, .int .i64 m6, .slice z0 z1 z2, .slice y0 y1 y2] ∧ CutsIm k' w3 z dc ∧ YVol k' w3 q (r2.sendUp (cutMsg ((i : Int) + 1) dc) 0)) := by
            have e3 : Evo k2 (fun b => if b < wc.heap.size then k2 b else IM) noC wc w3 := (Evo.of_below (k := k2) hb3).recolour _ (fun x hx => if_pos hx)
            exact hide ⟨_, evR.trans (e3.mono (fun _ h => h.elim)), hM2.evo e3 (noC_not _), Made.coloured IM hz, hYs.evo e3 (noC_not _) (fun c _ _ => noC_not c)⟩
          subst hsl
          clear hzz hz HD hYs hM2 evR ev2 x2 xl pl q0
          go_wp2_with fail
          go_loopw [9] (fun x wr => ∃ j : Nat, j ≤ 6 ∧ x = .int .i64 j ∧ Hid (∃ k', Evo k k' cRef w wr ∧ Blk k' wr 0 bm 109 [.int .i64 2, .int .i64 m1, .int .i64 ((i : Int) + 1), .int .i64 m3, .int .i64 m4, .int .i64 m5, .int .i64 m6, .slice z0 z1 z2, .slice y0 y1 y2] ∧ CutsIm k' wr (.slice s0 sl s1) dc ∧ YVol k' wr q (r2.sendUp (cutMsg ((i : Int) + 1) dc) j))) (fun x _ => 6 - (intOf x).toNat)
          case atStart => exact ⟨0, by omega, rfl, HS3⟩
          case round =>
            obtain ⟨j, hj, rfl, hst⟩ := hrel
            have x2 : wr.cell? ⟨bm, 2, none⟩ = some (.int .i64 ((i : Int) + 1)) := by obtain ⟨k', _, hx, _⟩ := hst.out; exact hx.cell 2
            have xl : bm < wr.heap.size := by obtain ⟨k', _, hx, _⟩ := hst.out; exact hx.lt
            by_cases hlt : j < 6
            · have hd : decide ((j : Int) < 6) = true := by simp; omega
              have HS : Hid (Calls Tryz.prog 67 #[.pointer (some ⟨q, 0, none⟩), .agg #[.int .i64 3, .int .i64 ((i : Int) + 1), .int .i64 j, .int .i64 ((i : Int) + 1), .int .i64 0, .int .i64 0, .int .i64 0, .slice s0 sl s1, .slice none 0 0]] wr fun e w' => e = .returned (.tuple #[]) ∧
                  ∃ k', Evo k k' cRef w w' ∧ Blk k' w' 0 bm 109 [.int .i64 2, .int .i64 m1, .int .i64 ((i : Int) + 1), .int .i64 m3, .int .i64 m4, .int .i64 m5, .int .i64 m6, .slice z0 z1 z2, .slice y0 y1 y2] ∧ CutsIm k' w' (.slice s0 sl s1) dc ∧ YVol k' w' q (r2.sendUp (cutMsg ((i : Int) + 1) dc) (j + 1))) := hide (by
                obtain ⟨k', ev, hx, hcu, hy⟩ := hst.out
                have hl := RVol.sendUp_len r2 (cutMsg ((i : Int) + 1) dc) j
                rw [HSN.out] at hl
                refine (refSend_any (cutMsg ((i : Int) + 1) dc j) hy (by omega) hcu (Rows.nil _ _ _ _ _)).mono ?_
                rintro e w' ⟨rfl, k3, ev3, hy3⟩
                exact ⟨rfl, k3, ev.trans (ev3.mono (fun c h => cRef_of h)), hx.evo ev3 (by decide), hcu.evo ev3 (by decide), hy3⟩)
              clear hst
              go_wp2_with fail
              refine HS.out.mono ?_
              rintro e1 w4 ⟨rfl, HY2⟩
              go_wp2_with fail
              go_roundw
              case rel => exact ⟨j + 1, by omega, by go_num, hide HY2⟩
              case measure => simp [intOf]; omega
            · have hj6 : j = 6 := by omega
              have hd : decide ((j : Int) < 6) = false := by simp; omega
              rw [hj6] at hst
              clear hj6
              go_wp2_with fail
              go_end0
              obtain ⟨k', ev, _, _, hy⟩ := hst.out
              exact ⟨rfl, k', ev, by rw [HE.out]; exact hy⟩
        · have b4 : (((r.pens[i].fenced.length : Int) + 1) == 4) = false := by simp; omega
          have HE : Hid (r.heard i r.pens[i] ⟨2, m1, (i : Int) + 1, m3, m4, m5, m6, mc, mm⟩ = r.setPen i { r.pens[i] with fenced := r.pens[i].fenced ++ [⟨2, m1, (i : Int) + 1, m3, m4, m5, m6, mc, mm⟩] }) := hide (by
            unfold RVol.heard; rw [if_neg (by rw [HNo.out]; simp), if_neg hf4])
          clear hf4
          go_wp2_with fail
          go_end0
          exact ⟨rfl, k2, evR, by rw [HE.out]; exact hYs⟩
end Go.Proofs.YtfpbkghcjaonlaaGreat

/-
  sixfoldref: writerHears, whole.
-/
namespace Go.Proofs.YtfpbkghcjaonlaaGreat
open Go.RowKit

theorem refWriterHears_any {k : Nat → Nat} {w : World} {q : Nat} {r : RVol} (m : Msg) (vc vm : Value) (h1 : 1 ≤ m.to_) (h2 : m.to_ ≤ (r.pens.length : Int)) (hc : CutsIm k w vc m.cuts) (hm : IntsIm k w vm m.marks) (hY : YVol k w q r) (hok : YOk r) (hnl : r.net.length ≤ 3000000000) (hmk : MsgOk m) :
    Calls Tryz.prog 116 #[.pointer (some ⟨q, 0, none⟩), .agg #[.int .i64 m.kind, .int .i64 m.frm, .int .i64 m.to_, .int .i64 m.epoch, .int .i64 m.lsn, .int .i64 m.value, .int .i64 m.scl, vc, vm]] w fun e w' => e = .returned (.tuple #[]) ∧
      ∃ k', Evo k k' cRef w w' ∧ YVol k' w' q (r.wHears m) := by
  obtain ⟨i, hti⟩ : ∃ i : Nat, m.to_ = (i : Int) + 1 := ⟨(m.to_ - 1).toNat, by omega⟩
  have hi : i < r.pens.length := by omega
  have e1 : m.to_.toNat - 1 = i := by omega
  unfold RVol.wHears
  rw [e1, List.getElem?_eq_getElem hi]
  dsimp only
  by_cases h5 : m.kind = 5
  · rw [if_pos h5]
    obtain ⟨z0, z1, z2, hzz⟩ := Rows.shape hc
    subst hzz
    obtain ⟨y0, y1, y2, hyy⟩ := Rows.shape hm
    subst hyy
    rw [h5, hti]
    exact wHears_refused i hi _ _ _ _ _ _ _ _ _ _ _ hY hok
  · rw [if_neg h5]
    by_cases h4 : m.kind = 4 ∧ (r.pens[i].stands.phase = 2 ∨ r.pens[i].stands.phase = 3)
    · rw [if_pos h4]
      exact wHears_status i hi m vc vm h4.1 hti hc hm hY hok h4.2
    · rw [if_neg h4]
      by_cases h2 : m.kind = 2 ∧ r.pens[i].stands.phase = 1
      · rw [if_pos h2]
        exact wHears_fenced i hi m vc vm h2.1 hti hc hm hY hok h2.2 hnl hmk
      · rw [if_neg h2]
        obtain ⟨z0, z1, z2, hzz⟩ := Rows.shape hc
        subst hzz
        obtain ⟨y0, y1, y2, hyy⟩ := Rows.shape hm
        subst hyy
        rw [hti]
        refine (wHears_none i hi _ _ _ _ _ _ _ _ _ _ _ _ hY hok h5 h4 h2).mono ?_
        rintro e w' ⟨rfl, hb⟩
        exact ⟨rfl, k, Evo.of_below hb, hY.evo (Evo.of_below (C := noC) hb) (noC_not _) (fun c _ _ => noC_not c)⟩
end Go.Proofs.YtfpbkghcjaonlaaGreat

/-
  sixfoldref: segmentHears: MNeed, MFill, a refusal.
-/
namespace Go.Proofs.YtfpbkghcjaonlaaGreat
open Go.RowKit

def RVol.setSeg (r : RVol) (s : Nat) (g : RSeg) : RVol := { r with segs := r.segs.set s g }
def refusedMsg (m : Msg) (e : Int) : Msg := ⟨5, m.to_, m.frm, e, 0, 0, 0, [], []⟩
def fillMsg (m : Msg) (x : Ent) : Msg := ⟨8, m.to_, m.frm, x.epoch, x.lsn, x.value, 0, [], []⟩
def fencedMsg (m : Msg) (g : RSeg) : Msg := ⟨2, m.to_, m.frm, m.epoch, 0, 0, 0, g.cuts, marksOf g.entries⟩
def RSeg.epochUp (g : RSeg) (e : Int) : RSeg := { g with epochs := g.epochs ++ [e] }
def RSeg.cutBy (g : RSeg) (l : List (Int × Int)) : RSeg := { g with lists := g.lists ++ [l], entries := g.entries.map (siftBy l) }
def RSeg.coming (g : RSeg) (m : Msg) : RSeg := { g with entries := comeTo g.entries (m.lsn, m.epoch, m.value) }
def RSeg.afterCut (g : RSeg) (m : Msg) : RSeg := if topOf g.cuts = m.epoch then g.epochUp m.epoch else (g.epochUp m.epoch).cutBy m.cuts
def RVol.sHears (r : RVol) (m : Msg) : RVol := match r.segs[m.to_.toNat]? with
  | none => r
  | some g =>
    if m.kind = 7 then (match keptAt g.entries m.lsn with | some x => r.send (fillMsg m x) | none => r)
    else if m.kind = 8 then (if good g.cuts m.lsn m.epoch then r.setSeg m.to_.toNat (g.coming m) else r)
    else if m.epoch < g.epoch then r.send (refusedMsg m g.epoch)
    else if m.kind = 1 then (r.setSeg m.to_.toNat (g.epochUp m.epoch)).send (fencedMsg m g)
    else if m.kind = 3 then (r.setSeg m.to_.toNat (g.afterCut m)).send (statusMsg m.to_.toNat (g.afterCut m))
    else if m.epoch = g.epoch ∧ topOf g.cuts = g.epoch then
      (match keptAt g.entries m.lsn with | some _ => r.send (statusMsg m.to_.toNat g) | none => r.setSeg m.to_.toNat (g.coming m))
    else r

theorem cuts_le {g : RSeg} (h : StoreOk g) : g.cuts.length ≤ 1000 := by
  unfold RSeg.cuts
  rw [List.getLastD_eq_getLast?]
  cases hx : g.lists.getLast? with
  | none => simp
  | some l => exact h.lk l (List.mem_of_getLast? hx)

theorem seg_come {k : Nat → Nat} {w : World} {q : Nat} {r : RVol} {vSegs vPens : Value} {sb pb : List Nat} (hN : YNet k w q r.wi r.fl vSegs vPens r.net) (hS : SegsIs k w vSegs sb r.segs) (hP : PensIs k w vPens pb r.pens) (s : Nat) (h1 : s < sb.length) (h2 : s < r.segs.length) (hsk : StoreOk r.segs[s]) (x0 x1 x2 : Int) :
    Calls Tryz.prog 125 #[.pointer (some ⟨sb[s], 0, none⟩), .agg #[.int .i64 x0, .int .i64 x1, .int .i64 x2]] w fun e w' => e = .returned (.tuple #[]) ∧
      ∃ k', Evo k k' cRef w w' ∧ YVol k' w' q (r.setSeg s { r.segs[s] with entries := comeTo r.segs[s].entries (x0, x1, x2) }) := by
  obtain ⟨vE, vL, vN, sB, sE, sL, sN⟩ := (hS.all s h1 h2).ex
  have l1 := hS.l1
  refine (come_any x0 x1 x2 (by omega) sB sN hsk.nl).mono ?_
  rintro e w' ⟨rfl, k', vN', ev, hB, hR⟩
  refine ⟨rfl, k', ev.mono (fun c h => by unfold cS at h; unfold cRef; omega), YVol.set_seg hN hS hP s h1 ev (fun c h => by omega) ⟨vE, vL, vN', hB, sE.evo ev (by omega), sL.evo ev (by omega) (by unfold cS IM; omega), hR⟩⟩

set_option maxRecDepth 3000 in
set_option maxHeartbeats 4000000 in
theorem sHears_need {k : Nat → Nat} {w : World} {q : Nat} {r : RVol} (s : Nat) (hs : s < 6) (h2 : s < r.segs.length) (m : Msg) (vc vm : Value) (hto : m.to_ = (s : Int)) (hc : CutsIm k w vc m.cuts) (hm : IntsIm k w vm m.marks) (hY : YVol k w q r) (hok : YOk r)
    (hk : m.kind = 7) :
    Calls Tryz.prog 117 #[.pointer (some ⟨q, 0, none⟩), .agg #[.int .i64 m.kind, .int .i64 m.frm, .int .i64 m.to_, .int .i64 m.epoch, .int .i64 m.lsn, .int .i64 m.value, .int .i64 m.scl, vc, vm]] w fun e w' => e = .returned (.tuple #[]) ∧
      ∃ k', Evo k k' cRef w w' ∧ YVol k' w' q (match keptAt r.segs[s].entries m.lsn with | some x => r.send (fillMsg m x) | none => r) := by
  obtain ⟨vSegs, vPens, sb, pb, g, cap, vNet, rows, hN, hS, hP, hBv, hNet, l1, y3, h1, _, hp, hst⟩ := seg_open hY s hs
  have hsk := hok.sk r.segs[s] (List.getElem_mem h2)
  obtain ⟨vE, vL, vN, sB, sE, sL, sN⟩ := hst.ex
  have HEP : Hid (∀ W, Below w.heap.size w W → Calls Tryz.prog 82 #[.pointer (some ⟨sb[s], 0, none⟩)] W fun e w' => e = .returned (.int .i64 r.segs[s].epoch) ∧ Below W.heap.size W w') := hide fun W hW =>
    have ev : Evo k k noC w W := Evo.of_below hW
    epoch_any ((sB.evo ev (noC_not _)).cell 1) (sE.evo ev (noC_not _)) hsk.e0 hsk.el
  have HLS : Hid (∀ W, Below w.heap.size w W → Calls Tryz.prog 89 #[.pointer (some ⟨sb[s], 0, none⟩)] W fun e w' => (∃ z, e = .returned z ∧ CutsIm k w z r.segs[s].cuts) ∧ Below W.heap.size W w') := hide fun W hW =>
    list_in hW (sB.cell 2) sL hsk.l0 hsk.ll
  have hgl := World.block_lt_of_cell? w _ hp
  have hql := hBv.lt
  have hs6 : (s : Int) < 6 := by omega
  obtain ⟨z0, z1, z2, hzz⟩ := Rows.shape hc
  subst hzz
  obtain ⟨y0, y1, y2, hyy⟩ := Rows.shape hm
  subst hyy
  have HKP : Hid (∀ W, Below w.heap.size w W → Calls Tryz.prog 84 #[.pointer (some ⟨sb[s], 0, none⟩), .int .i64 m.lsn] W fun e w' => e = .returned (.tuple #[recVal (keptAt r.segs[s].entries m.lsn), .bool (keptAt r.segs[s].entries m.lsn).isSome]) ∧ Below W.heap.size W w') := hide fun W hW =>
    have ev : Evo k k noC w W := Evo.of_below hW
    kept_any m.lsn ((sB.evo ev (noC_not _)).cell 3) (sN.evo ev (noC_not _)) hsk.nl
  have HSD : Hid (∀ x : Ent, ∀ W, Below w.heap.size w W → Calls Tryz.prog 67 #[.pointer (some ⟨q, 0, none⟩), .agg #[.int .i64 8, .int .i64 m.to_, .int .i64 m.frm, .int .i64 x.epoch, .int .i64 x.lsn, .int .i64 x.value, .int .i64 0, .slice none 0 0, .slice none 0 0]] W fun e w' => e = .returned (.tuple #[]) ∧
      ∃ k', Evo k k' (fun c => c = cY ∨ c = cNet) W w' ∧ YVol k' w' q (r.send (fillMsg m x))) := hide fun x W hW =>
    refSend_any (fillMsg m x) (hY.evo (Evo.of_below (C := noC) hW) (noC_not _) (fun c _ _ => noC_not c)) hok.nl (Rows.nil _ _ _ _ _) (Rows.nil _ _ _ _ _)
  generalize hpp : sb[s] = pp at *
  have HPP := hide hpp
  clear hpp
  generalize hold : r.segs[s].epoch = old at *
  have HOLD := hide hold
  clear hold
  generalize hcu : r.segs[s].cuts = cu at *
  have HCU := hide hcu
  clear hcu
  obtain ⟨m0, m1, m2, m3, m4, m5, m6, mc, mm⟩ := m
  dsimp only at *
  subst hto
  subst hk
  generalize keptAt r.segs[s].entries m4 = ka at *
  have hbA := ((Below.refl w.heap.size w).alloc (Nat.le_refl _) (Obj.cells #[.int .i64 7, .int .i64 m1, .int .i64 (s : Int), .int .i64 m3, .int .i64 m4, .int .i64 m5, .int .i64 m6, .slice z0 z1 z2, .slice y0 y1 y2] 109))
  go_enter Tryz.func117, Tryz.ntmps117
  go_wp2_with fail
  go_quiet (fail)
  go_wp2_with fail
  refine (HEP.out _ (below_drewN hbA _)).mono ?_
  rintro e1 w1 ⟨rfl, hb1⟩
  have hs1 : w.heap.size + 1 ≤ w1.heap.size := by have := hb1.size; simpa using this
  have hr1 : w1.heap[w.heap.size]? = _ := (hb1.block w.heap.size (by simp)).trans (heap_alloc_new w _)
  have hB1 : Below w.heap.size w w1 := (below_drewN hbA _).trans (hb1.mono (by simp))
  clear hbA hb1 HEP
  go_wp2_with fail
  refine (HLS.out _ hB1).mono ?_
  rintro e2 w2 ⟨⟨zl, rfl, hzl⟩, hb2⟩
  obtain ⟨x0, x1, x2, hzz⟩ := Rows.shape hzl
  subst hzz
  have hs2 := hb2.size
  have hr2 : w2.heap[w.heap.size]? = some (.cells #[.int .i64 7, .int .i64 m1, .int .i64 (s : Int), .int .i64 m3, .int .i64 m4, .int .i64 m5, .int .i64 m6, .slice z0 z1 z2, .slice y0 y1 y2] 109 (0, 0)) := (hb2.block w.heap.size (by omega)).trans hr1
  have hB2 : Below w.heap.size w w2 := hB1.trans (hb2.mono (by omega))
  obtain ⟨bm, hbm⟩ : ∃ bm, bm = w.heap.size := ⟨_, rfl⟩
  obtain ⟨kx, hkx⟩ : ∃ kx : Nat → Nat, kx = fun b => if b < w.heap.size then k b else 0 := ⟨_, rfl⟩
  have evx : Evo k kx noC w w2 := by rw [hkx]; exact (Evo.of_below hB2).recolour _ (fun x hx => if_pos hx)
  have hM : Blk kx w2 0 bm 109 [.int .i64 7, .int .i64 m1, .int .i64 (s : Int), .int .i64 m3, .int .i64 m4, .int .i64 m5, .int .i64 m6, .slice z0 z1 z2, .slice y0 y1 y2] := by rw [hbm]; exact ⟨hr2, by rw [hkx]; simp⟩
  clear hb2 hB1 hr1 hr2 HLS hs1 hs2
  rw [← hbm] at *
  have HBM := hide hbm
  have HKX := hide hkx
  clear hbm hkx
  have x0' : w2.cell? ⟨bm, 0, none⟩ = some (.int .i64 7) := hM.cell 0
  have x1' : w2.cell? ⟨bm, 1, none⟩ = some (.int .i64 m1) := hM.cell 1
  have x2' : w2.cell? ⟨bm, 2, none⟩ = some (.int .i64 (s : Int)) := hM.cell 2
  have x3' : w2.cell? ⟨bm, 3, none⟩ = some (.int .i64 m3) := hM.cell 3
  have x4' : w2.cell? ⟨bm, 4, none⟩ = some (.int .i64 m4) := hM.cell 4
  have x5' : w2.cell? ⟨bm, 5, none⟩ = some (.int .i64 m5) := hM.cell 5
  have x7' : w2.cell? ⟨bm, 7, none⟩ = some (.slice z0 z1 z2) := hM.cell 7
  have xl := hM.lt
  have hY2 : YVol kx w2 q r := hY.evo evx (noC_not _) (fun c _ _ => noC_not c)
  have hst2 := hst.evo evx (noC_not _) (noC_not _) (noC_not _) (noC_not _) (noC_not _)
  go_wp2_with fail
  refine (HKP.out _ (hB2.alloc hB2.size _)).mono ?_
  rintro e3 w3 ⟨rfl, hb3⟩
  have hs3 := hb3.size
  simp only [World.size_alloc] at hs3
  have hB3 : Below w2.heap.size w2 w3 := ((Below.refl _ _).alloc (Nat.le_refl _) _).trans (hb3.mono (by simp))
  have hM3 := hM.evo (Evo.of_below (C := noC) hB3) (noC_not _)
  have u1 : w3.cell? ⟨bm, 1, none⟩ = some (.int .i64 m1) := hM3.cell 1
  have u2 : w3.cell? ⟨bm, 2, none⟩ = some (.int .i64 (s : Int)) := hM3.cell 2
  have ul := hM3.lt
  have hb3' : Below w.heap.size w w3 := hB2.trans (hB3.mono hB2.size)
  cases ka with
  | none =>
    simp only [recVal, Option.isSome]
    go_wp2_with fail
    go_end0
    exact ⟨rfl, k, Evo.of_below (hb3'.alloc hb3'.size _), hY.evo (Evo.of_below (C := noC) (hb3'.alloc hb3'.size _)) (noC_not _) (fun c _ _ => noC_not c)⟩
  | some x =>
    simp only [recVal, Option.isSome]
    go_wp2_with fail
    refine (HSD.out x _ (hb3'.alloc hb3'.size _)).mono ?_
    rintro e4 w4 ⟨rfl, k4, ev4, hY4⟩
    go_wp2_with fail
    go_end0
    exact ⟨rfl, k4, (Evo.of_below (hb3'.alloc hb3'.size _)).trans (ev4.mono (fun c h => cRef_of h)), hY4⟩

set_option maxRecDepth 3000 in
set_option maxHeartbeats 4000000 in
theorem sHears_fill {k : Nat → Nat} {w : World} {q : Nat} {r : RVol} (s : Nat) (hs : s < 6) (h2 : s < r.segs.length) (m : Msg) (vc vm : Value) (hto : m.to_ = (s : Int)) (hc : CutsIm k w vc m.cuts) (hm : IntsIm k w vm m.marks) (hY : YVol k w q r) (hok : YOk r)
    (hk : m.kind = 8) :
    Calls Tryz.prog 117 #[.pointer (some ⟨q, 0, none⟩), .agg #[.int .i64 m.kind, .int .i64 m.frm, .int .i64 m.to_, .int .i64 m.epoch, .int .i64 m.lsn, .int .i64 m.value, .int .i64 m.scl, vc, vm]] w fun e w' => e = .returned (.tuple #[]) ∧
      ∃ k', Evo k k' cRef w w' ∧ YVol k' w' q (if good r.segs[s].cuts m.lsn m.epoch then r.setSeg s (r.segs[s].coming m) else r) := by
  obtain ⟨vSegs, vPens, sb, pb, g, cap, vNet, rows, hN, hS, hP, hBv, hNet, l1, y3, h1, _, hp, hst⟩ := seg_open hY s hs
  have hsk := hok.sk r.segs[s] (List.getElem_mem h2)
  obtain ⟨vE, vL, vN, sB, sE, sL, sN⟩ := hst.ex
  have HEP : Hid (∀ W, Below w.heap.size w W → Calls Tryz.prog 82 #[.pointer (some ⟨sb[s], 0, none⟩)] W fun e w' => e = .returned (.int .i64 r.segs[s].epoch) ∧ Below W.heap.size W w') := hide fun W hW =>
    have ev : Evo k k noC w W := Evo.of_below hW
    epoch_any ((sB.evo ev (noC_not _)).cell 1) (sE.evo ev (noC_not _)) hsk.e0 hsk.el
  have HLS : Hid (∀ W, Below w.heap.size w W → Calls Tryz.prog 89 #[.pointer (some ⟨sb[s], 0, none⟩)] W fun e w' => (∃ z, e = .returned z ∧ CutsIm k w z r.segs[s].cuts) ∧ Below W.heap.size W w') := hide fun W hW =>
    list_in hW (sB.cell 2) sL hsk.l0 hsk.ll
  have hgl := World.block_lt_of_cell? w _ hp
  have hql := hBv.lt
  have hs6 : (s : Int) < 6 := by omega
  obtain ⟨z0, z1, z2, hzz⟩ := Rows.shape hc
  subst hzz
  obtain ⟨y0, y1, y2, hyy⟩ := Rows.shape hm
  subst hyy
  have hcl : r.segs[s].cuts.length ≤ 1000 := cuts_le hsk
  have HCM : Hid (∀ W, Below w.heap.size w W → Calls Tryz.prog 125 #[.pointer (some ⟨sb[s], 0, none⟩), .agg #[.int .i64 m.lsn, .int .i64 m.epoch, .int .i64 m.value]] W fun e w' => e = .returned (.tuple #[]) ∧
      ∃ k', Evo k k' cRef W w' ∧ YVol k' w' q (r.setSeg s (r.segs[s].coming m))) := hide fun W hW =>
    have ev : Evo k k noC w W := Evo.of_below hW
    seg_come (hN.evo ev (noC_not _) (noC_not _) (noC_not _)) (hS.evo ev (noC_not _) (noC_not _) (fun c _ _ => noC_not c)) (hP.evo ev (noC_not _) (noC_not _) (fun c _ _ => noC_not c)) s h1 h2 hsk m.lsn m.epoch m.value
  generalize hpp : sb[s] = pp at *
  have HPP := hide hpp
  clear hpp
  generalize hold : r.segs[s].epoch = old at *
  have HOLD := hide hold
  clear hold
  generalize hcu : r.segs[s].cuts = cu at *
  have HCU := hide hcu
  clear hcu
  obtain ⟨m0, m1, m2, m3, m4, m5, m6, mc, mm⟩ := m
  dsimp only at *
  subst hto
  subst hk
  obtain ⟨rr, hrr⟩ : ∃ rr, rr = (if good cu m4 m3 = true then r.setSeg s (r.segs[s].coming ⟨8, m1, (s : Int), m3, m4, m5, m6, mc, mm⟩) else r) := ⟨_, rfl⟩
  rw [← hrr]
  have HRR := hide hrr
  clear hrr
  have hbA := ((Below.refl w.heap.size w).alloc (Nat.le_refl _) (Obj.cells #[.int .i64 8, .int .i64 m1, .int .i64 (s : Int), .int .i64 m3, .int .i64 m4, .int .i64 m5, .int .i64 m6, .slice z0 z1 z2, .slice y0 y1 y2] 109))
  go_enter Tryz.func117, Tryz.ntmps117
  go_wp2_with fail
  go_quiet (fail)
  go_wp2_with fail
  refine (HEP.out _ (below_drewN hbA _)).mono ?_
  rintro e1 w1 ⟨rfl, hb1⟩
  have hs1 : w.heap.size + 1 ≤ w1.heap.size := by have := hb1.size; simpa using this
  have hr1 : w1.heap[w.heap.size]? = _ := (hb1.block w.heap.size (by simp)).trans (heap_alloc_new w _)
  have hB1 : Below w.heap.size w w1 := (below_drewN hbA _).trans (hb1.mono (by simp))
  clear hbA hb1 HEP
  go_wp2_with fail
  refine (HLS.out _ hB1).mono ?_
  rintro e2 w2 ⟨⟨zl, rfl, hzl⟩, hb2⟩
  obtain ⟨x0, x1, x2, hzz⟩ := Rows.shape hzl
  subst hzz
  have hs2 := hb2.size
  have hr2 : w2.heap[w.heap.size]? = some (.cells #[.int .i64 8, .int .i64 m1, .int .i64 (s : Int), .int .i64 m3, .int .i64 m4, .int .i64 m5, .int .i64 m6, .slice z0 z1 z2, .slice y0 y1 y2] 109 (0, 0)) := (hb2.block w.heap.size (by omega)).trans hr1
  have hB2 : Below w.heap.size w w2 := hB1.trans (hb2.mono (by omega))
  obtain ⟨bm, hbm⟩ : ∃ bm, bm = w.heap.size := ⟨_, rfl⟩
  obtain ⟨kx, hkx⟩ : ∃ kx : Nat → Nat, kx = fun b => if b < w.heap.size then k b else 0 := ⟨_, rfl⟩
  have evx : Evo k kx noC w w2 := by rw [hkx]; exact (Evo.of_below hB2).recolour _ (fun x hx => if_pos hx)
  have hM : Blk kx w2 0 bm 109 [.int .i64 8, .int .i64 m1, .int .i64 (s : Int), .int .i64 m3, .int .i64 m4, .int .i64 m5, .int .i64 m6, .slice z0 z1 z2, .slice y0 y1 y2] := by rw [hbm]; exact ⟨hr2, by rw [hkx]; simp⟩
  clear hb2 hB1 hr1 hr2 HLS hs1 hs2
  rw [← hbm] at *
  have HBM := hide hbm
  have HKX := hide hkx
  clear hbm hkx
  have x0' : w2.cell? ⟨bm, 0, none⟩ = some (.int .i64 8) := hM.cell 0
  have x1' : w2.cell? ⟨bm, 1, none⟩ = some (.int .i64 m1) := hM.cell 1
  have x2' : w2.cell? ⟨bm, 2, none⟩ = some (.int .i64 (s : Int)) := hM.cell 2
  have x3' : w2.cell? ⟨bm, 3, none⟩ = some (.int .i64 m3) := hM.cell 3
  have x4' : w2.cell? ⟨bm, 4, none⟩ = some (.int .i64 m4) := hM.cell 4
  have x5' : w2.cell? ⟨bm, 5, none⟩ = some (.int .i64 m5) := hM.cell 5
  have x7' : w2.cell? ⟨bm, 7, none⟩ = some (.slice z0 z1 z2) := hM.cell 7
  have xl := hM.lt
  have hY2 : YVol kx w2 q r := hY.evo evx (noC_not _) (fun c _ _ => noC_not c)
  have hst2 := hst.evo evx (noC_not _) (noC_not _) (noC_not _) (noC_not _) (noC_not _)
  go_wp2_with fail
  have HG := hide (good_any m4 m3 (Rows.evo hzl (Evo.of_below (C := noC) (hB2.alloc hB2.size (Obj.cells #[.int .i64 m4, .int .i64 m3, .int .i64 m5] 59))) (noC_not _)) (by omega))
  generalize good cu m4 m3 = gd at *
  refine HG.out.mono ?_
  rintro e3 w3 ⟨rfl, hw3⟩
  subst hw3
  clear HG
  cases gd
  · go_wp2_with fail
    go_end0
    exact ⟨rfl, k, Evo.of_below (hB2.alloc hB2.size _), by rw [HRR.out, if_neg (by simp)]; exact hY.evo (Evo.of_below (C := noC) (hB2.alloc hB2.size _)) (noC_not _) (fun c _ _ => noC_not c)⟩
  · go_wp2_with fail
    refine (HCM.out _ (hB2.alloc hB2.size _)).mono ?_
    rintro e4 w4 ⟨rfl, k4, ev4, hY4⟩
    go_wp2_with fail
    go_end0
    exact ⟨rfl, k4, (Evo.of_below (hB2.alloc hB2.size _)).trans ev4, by rw [HRR.out, if_pos (by simp)]; exact hY4⟩

set_option maxRecDepth 3000 in
set_option maxHeartbeats 4000000 in
theorem sHears_refused {k : Nat → Nat} {w : World} {q : Nat} {r : RVol} (s : Nat) (hs : s < 6) (h2 : s < r.segs.length) (m : Msg) (vc vm : Value) (hto : m.to_ = (s : Int)) (hc : CutsIm k w vc m.cuts) (hm : IntsIm k w vm m.marks) (hY : YVol k w q r) (hok : YOk r)
    (h7 : m.kind ≠ 7) (h8 : m.kind ≠ 8) (hlo : m.epoch < r.segs[s].epoch) :
    Calls Tryz.prog 117 #[.pointer (some ⟨q, 0, none⟩), .agg #[.int .i64 m.kind, .int .i64 m.frm, .int .i64 m.to_, .int .i64 m.epoch, .int .i64 m.lsn, .int .i64 m.value, .int .i64 m.scl, vc, vm]] w fun e w' => e = .returned (.tuple #[]) ∧
      ∃ k', Evo k k' cRef w w' ∧ YVol k' w' q (r.send (refusedMsg m r.segs[s].epoch)) := by
  obtain ⟨vSegs, vPens, sb, pb, g, cap, vNet, rows, hN, hS, hP, hBv, hNet, l1, y3, h1, _, hp, hst⟩ := seg_open hY s hs
  have hsk := hok.sk r.segs[s] (List.getElem_mem h2)
  obtain ⟨vE, vL, vN, sB, sE, sL, sN⟩ := hst.ex
  have HEP : Hid (∀ W, Below w.heap.size w W → Calls Tryz.prog 82 #[.pointer (some ⟨sb[s], 0, none⟩)] W fun e w' => e = .returned (.int .i64 r.segs[s].epoch) ∧ Below W.heap.size W w') := hide fun W hW =>
    have ev : Evo k k noC w W := Evo.of_below hW
    epoch_any ((sB.evo ev (noC_not _)).cell 1) (sE.evo ev (noC_not _)) hsk.e0 hsk.el
  have HLS : Hid (∀ W, Below w.heap.size w W → Calls Tryz.prog 89 #[.pointer (some ⟨sb[s], 0, none⟩)] W fun e w' => (∃ z, e = .returned z ∧ CutsIm k w z r.segs[s].cuts) ∧ Below W.heap.size W w') := hide fun W hW =>
    list_in hW (sB.cell 2) sL hsk.l0 hsk.ll
  have hgl := World.block_lt_of_cell? w _ hp
  have hql := hBv.lt
  have hs6 : (s : Int) < 6 := by omega
  obtain ⟨z0, z1, z2, hzz⟩ := Rows.shape hc
  subst hzz
  obtain ⟨y0, y1, y2, hyy⟩ := Rows.shape hm
  subst hyy
  have HSD : Hid (∀ W, Below w.heap.size w W → Calls Tryz.prog 67 #[.pointer (some ⟨q, 0, none⟩), .agg #[.int .i64 5, .int .i64 m.to_, .int .i64 m.frm, .int .i64 r.segs[s].epoch, .int .i64 0, .int .i64 0, .int .i64 0, .slice none 0 0, .slice none 0 0]] W fun e w' => e = .returned (.tuple #[]) ∧
      ∃ k', Evo k k' (fun c => c = cY ∨ c = cNet) W w' ∧ YVol k' w' q (r.send (refusedMsg m r.segs[s].epoch))) := hide fun W hW =>
    refSend_any (refusedMsg m r.segs[s].epoch) (hY.evo (Evo.of_below (C := noC) hW) (noC_not _) (fun c _ _ => noC_not c)) hok.nl (Rows.nil _ _ _ _ _) (Rows.nil _ _ _ _ _)
  generalize hpp : sb[s] = pp at *
  have HPP := hide hpp
  clear hpp
  generalize hold : r.segs[s].epoch = old at *
  have HOLD := hide hold
  clear hold
  generalize hcu : r.segs[s].cuts = cu at *
  have HCU := hide hcu
  clear hcu
  obtain ⟨m0, m1, m2, m3, m4, m5, m6, mc, mm⟩ := m
  dsimp only at *
  subst hto
  have k7 : (m0 == 7) = false := by simpa using h7
  have k8 : (m0 == 8) = false := by simpa using h8
  clear h7 h8
  have hbA := ((Below.refl w.heap.size w).alloc (Nat.le_refl _) (Obj.cells #[.int .i64 m0, .int .i64 m1, .int .i64 (s : Int), .int .i64 m3, .int .i64 m4, .int .i64 m5, .int .i64 m6, .slice z0 z1 z2, .slice y0 y1 y2] 109))
  go_enter Tryz.func117, Tryz.ntmps117
  go_wp2_with fail
  go_quiet (fail)
  go_wp2_with fail
  refine (HEP.out _ (below_drewN hbA _)).mono ?_
  rintro e1 w1 ⟨rfl, hb1⟩
  have hs1 : w.heap.size + 1 ≤ w1.heap.size := by have := hb1.size; simpa using this
  have hr1 : w1.heap[w.heap.size]? = _ := (hb1.block w.heap.size (by simp)).trans (heap_alloc_new w _)
  have hB1 : Below w.heap.size w w1 := (below_drewN hbA _).trans (hb1.mono (by simp))
  clear hbA hb1 HEP
  go_wp2_with fail
  refine (HLS.out _ hB1).mono ?_
  rintro e2 w2 ⟨⟨zl, rfl, hzl⟩, hb2⟩
  obtain ⟨x0, x1, x2, hzz⟩ := Rows.shape hzl
  subst hzz
  have hs2 := hb2.size
  have hr2 : w2.heap[w.heap.size]? = some (.cells #[.int .i64 m0, .int .i64 m1, .int .i64 (s : Int), .int .i64 m3, .int .i64 m4, .int .i64 m5, .int .i64 m6, .slice z0 z1 z2, .slice y0 y1 y2] 109 (0, 0)) := (hb2.block w.heap.size (by omega)).trans hr1
  have hB2 : Below w.heap.size w w2 := hB1.trans (hb2.mono (by omega))
  obtain ⟨bm, hbm⟩ : ∃ bm, bm = w.heap.size := ⟨_, rfl⟩
  obtain ⟨kx, hkx⟩ : ∃ kx : Nat → Nat, kx = fun b => if b < w.heap.size then k b else 0 := ⟨_, rfl⟩
  have evx : Evo k kx noC w w2 := by rw [hkx]; exact (Evo.of_below hB2).recolour _ (fun x hx => if_pos hx)
  have hM : Blk kx w2 0 bm 109 [.int .i64 m0, .int .i64 m1, .int .i64 (s : Int), .int .i64 m3, .int .i64 m4, .int .i64 m5, .int .i64 m6, .slice z0 z1 z2, .slice y0 y1 y2] := by rw [hbm]; exact ⟨hr2, by rw [hkx]; simp⟩
  clear hb2 hB1 hr1 hr2 HLS hs1 hs2
  rw [← hbm] at *
  have HBM := hide hbm
  have HKX := hide hkx
  clear hbm hkx
  have x0' : w2.cell? ⟨bm, 0, none⟩ = some (.int .i64 m0) := hM.cell 0
  have x1' : w2.cell? ⟨bm, 1, none⟩ = some (.int .i64 m1) := hM.cell 1
  have x2' : w2.cell? ⟨bm, 2, none⟩ = some (.int .i64 (s : Int)) := hM.cell 2
  have x3' : w2.cell? ⟨bm, 3, none⟩ = some (.int .i64 m3) := hM.cell 3
  have x4' : w2.cell? ⟨bm, 4, none⟩ = some (.int .i64 m4) := hM.cell 4
  have x5' : w2.cell? ⟨bm, 5, none⟩ = some (.int .i64 m5) := hM.cell 5
  have x7' : w2.cell? ⟨bm, 7, none⟩ = some (.slice z0 z1 z2) := hM.cell 7
  have xl := hM.lt
  have hY2 : YVol kx w2 q r := hY.evo evx (noC_not _) (fun c _ _ => noC_not c)
  have hst2 := hst.evo evx (noC_not _) (noC_not _) (noC_not _) (noC_not _) (noC_not _)
  go_wp2_with fail
  refine (HSD.out _ (hB2.alloc hB2.size _)).mono ?_
  rintro e4 w4 ⟨rfl, k4, ev4, hY4⟩
  go_wp2_with fail
  go_end0
  exact ⟨rfl, k4, (Evo.of_below (hB2.alloc hB2.size _)).trans (ev4.mono (fun c h => cRef_of h)), hY4⟩

end Go.Proofs.YtfpbkghcjaonlaaGreat
