import Derived.Test.YtfpbkghcjaonlaaGreatJ10
/-
  sixfoldref: Resend.
-/
namespace Go.Proofs.YtfpbkghcjaonlaaGreat
open Go.RowKit

def cutMsg (n : Int) (l : List (Int × Int)) (s : Nat) : Msg := ⟨3, n, s, n, 0, 0, 0, l, []⟩
def resMsg (p : RPen) (x : WSt) (n : Int) (s : Nat) : Option Msg :=
  if x.phase = 1 then (if heardIn p.fenced s then none else some (fenceMsg n s))
  else if heardIn p.status s = false then some (cutMsg n (decCuts p.fenced n) s)
  else if x.base < notedN p.status s + 1 ∧ notedN p.status s + 1 ≤ x.next then some (writeMsg n (notedN p.status s + 1) (p.values.getD (notedN p.status s - x.base).toNat 0) s) else none
def RVol.sendO (r : RVol) (o : Option Msg) : RVol := match o with | some m => r.send m | none => r
def RVol.sendsUp (r : RVol) (f : Nat → Option Msg) : Nat → RVol
  | 0 => r
  | n + 1 => (r.sendsUp f n).sendO (f n)
theorem RVol.sendsUp_len (r : RVol) (f : Nat → Option Msg) : ∀ n, (r.sendsUp f n).net.length ≤ r.net.length + n
  | 0 => Nat.le_refl _
  | n + 1 => by
    have h1 := RVol.sendsUp_len r f n
    show ((r.sendsUp f n).sendO (f n)).net.length ≤ _
    cases f n with
    | none => show (r.sendsUp f n).net.length ≤ _; omega
    | some m =>
      have h2 := sendNet_len (r.sendsUp f n).fl (r.sendsUp f n).net m
      show (sendNet _ _ _).length ≤ _
      omega

def RVol.resend (r : RVol) (n : Int) : RVol × Int :=
  if (r.may n).2 ≠ 0 then (r, (r.may n).2)
  else match r.pens[n.toNat - 1]? with
  | none => (r, 0)
  | some p => (r.sendsUp (resMsg p (r.may n).1 n) 6, 0)

theorem notedN_range (ms : List Msg) (s : Int) (h : ∀ m ∈ ms, m.scl ≤ 4000000000) : 0 ≤ notedN ms s ∧ notedN ms s ≤ 4000000000 := by
  unfold notedN
  suffices ∀ (l : List Msg) (x : Int), 0 ≤ x → x ≤ 4000000000 → (∀ m ∈ l, m.scl ≤ 4000000000) → 0 ≤ l.foldl (noteStep s) x ∧ l.foldl (noteStep s) x ≤ 4000000000 from this ms 0 (by omega) (by omega) h
  intro l
  induction l with
  | nil => intro x h1 h2 _; exact ⟨h1, h2⟩
  | cons m l ih =>
    intro x h1 h2 hm
    have hms := hm m (by simp)
    have : 0 ≤ noteStep s x m ∧ noteStep s x m ≤ 4000000000 := by
      unfold noteStep; split
      · split <;> omega
      · omega
    exact ih _ this.1 this.2 (fun m' h' => hm m' (by simp [h']))

/-- What a slice that a call has built is, coloured. -/
theorem Made.coloured {k : Nat → Nat} {w w' : World} {e size : Nat} {v : Value} {rows : List (List Value)} (c : Nat) (h : Made w' w.heap.size e size v rows) : Rows (fun b => if b < w.heap.size then k b else c) w' c e size v rows := Rows.fresh c h.1 rfl h.2

theorem stands_many_of {p : RPen} (ho : p.over = false) (h1 : p.stands.phase ≠ 1) : 4 ≤ p.fenced.length ∧ p.stands.next = p.stands.base + (p.values.length : Int) := by
  revert h1
  unfold RPen.stands
  rw [if_neg (by simp [ho])]
  split
  · intro h; simp at h
  · intro _
    refine ⟨by omega, ?_⟩
    split <;> rfl

set_option maxRecDepth 3000 in
set_option maxHeartbeats 800000 in
theorem refResend_any {k : Nat → Nat} {w : World} {q : Nat} {r : RVol} (n : Int) (hY : YVol k w q r) (hok : YOk r) (hnl : r.net.length ≤ 3000000000) (hf : ∀ p ∈ r.pens, p.Fine) (hsc : ∀ p ∈ r.pens, ∀ m ∈ p.status, m.scl ≤ 4000000000) :
    Calls Tryz.prog 31 #[.pointer (some ⟨q, 0, none⟩), .int .i64 n] w fun e w' => e = .returned (.int .i64 (r.resend n).2) ∧ ∃ k', Evo k k' cRef w w' ∧ YVol k' w' q (r.resend n).1 := by
  have HM := hide (refMay_any n hY hok)
  unfold WSt.val at HM
  by_cases he : (r.may n).2 ≠ 0
  · have HE : Hid (r.resend n = (r, (r.may n).2)) := hide (by unfold RVol.resend; rw [if_pos he])
    have he' : ((r.may n).2 != 0) = true := by simpa using he
    clear he
    generalize r.may n = m at *
    go_enter Tryz.func31, Tryz.ntmps31
    go_wp2_with fail
    refine HM.out.mono ?_
    rintro e1 w1 ⟨rfl, hb1⟩
    go_wp2_with fail
    go_ret
    exact ⟨by rw [HE.out]; rfl, k, Evo.of_below (hb1.alloc hb1.size _), by rw [HE.out]; exact hY.evo (Evo.of_below (C := noC) (hb1.alloc hb1.size _)) (noC_not _) (fun c _ _ => noC_not c)⟩
  · have he0 : (r.may n).2 = 0 := by omega
    obtain ⟨i, hi, hni, hme, hov⟩ := RVol.may_ok he0 hf
    have hbd := RPen.stands_le (hok.pk _ (List.getElem_mem hi)) hov
    have hmany := fun h => stands_many_of hov h
    have hpk := hok.pk _ (List.getElem_mem hi)
    have hscl := hsc _ (List.getElem_mem hi)
    rw [hme] at HM
    dsimp only at HM
    subst hni
    have HE : Hid (r.resend ((i : Int) + 1) = (r.sendsUp (resMsg r.pens[i] r.pens[i].stands ((i : Int) + 1)) 6, 0)) := hide (by
      unfold RVol.resend; rw [if_neg he]; simp only [hme]; rw [show ((i : Int) + 1).toNat - 1 = i from by omega, List.getElem?_eq_getElem hi])
    clear he he0 hme
    generalize hst : r.pens[i].stands = st at *
    clear hst
    obtain ⟨ph, ba, ne, du⟩ := st
    dsimp only at HM hbd hmany
    obtain ⟨b1, b2, b3, b4, b5, b6⟩ := hbd
    obtain ⟨_, _, _, pb0, g, cap, _, _, _, _, hP0, hB, _, l1, y4, h1, hp, hpen⟩ := pen_open hY i hi
    have hi9 : (i : Int) < 9 := by have := hP0.l2; omega
    have hgl := World.block_lt_of_cell? w _ hp
    have hql := hB.lt
    generalize pb0[i] = pp at *
    go_enter Tryz.func31, Tryz.ntmps31
    go_wp2_with fail
    refine HM.out.mono ?_
    rintro e1 w1 ⟨rfl, hb1⟩
    have z4 : w1.cell? ⟨q, 4, none⟩ = some (.slice (some ⟨g, 0, none⟩) r.pens.length cap) := (hb1.cell (p := ⟨q, 4, none⟩) hB.lt).trans y4
    have zp : w1.cell? ⟨g, i, none⟩ = some (.pointer (some ⟨pp, 0, none⟩)) := (hb1.cell (p := ⟨g, i, none⟩) hgl).trans hp
    have hsz := hb1.size
    have hql1 : q < w1.heap.size := by omega
    have hgl1 : g < w1.heap.size := by omega
    go_wp2_with fail
    obtain ⟨W2, hW2⟩ : ∃ W2, W2 = w1.alloc (Obj.cells #[.int .i64 ph, .int .i64 ba, .int .i64 ne, .int .i64 du] 105) := ⟨_, rfl⟩
    rw [← hW2]
    have ex : Evo k (fun x => if x < w1.heap.size then k x else 0) noC w1 W2 := by rw [hW2]; exact ((Evo.refl k noC w1).alloc _).recolour _ (fun x hx => if_pos hx)
    have hX : Blk (fun x => if x < w1.heap.size then k x else 0) W2 0 w1.heap.size 105 [.int .i64 ph, .int .i64 ba, .int .i64 ne, .int .i64 du] := by
      refine ⟨?_, by simp⟩
      rw [hW2]; exact heap_alloc_new w1 _
    have evx : Evo k (fun x => if x < w1.heap.size then k x else 0) noC w W2 := (Evo.of_below hb1).trans ex
    have HS0 : Hid (∃ k', Evo k k' cRef w W2 ∧ Blk k' W2 0 w1.heap.size 105 [.int .i64 ph, .int .i64 ba, .int .i64 ne, .int .i64 du] ∧ PenIs k' W2 (cP i) pp r.pens[i] ∧ YVol k' W2 q (r.sendsUp (resMsg r.pens[i] ⟨ph, ba, ne, du⟩ ((i : Int) + 1)) 0)) :=
      hide ⟨_, evx.mono (fun _ h => h.elim), hX, hpen.evo evx (noC_not _) (noC_not _) (noC_not _) (noC_not _) (noC_not _), hY.evo evx (noC_not _) (fun c _ _ => noC_not c)⟩
    obtain ⟨b0, hb0⟩ : ∃ b0, b0 = w1.heap.size := ⟨_, rfl⟩
    rw [← hb0] at HS0
    rw [← hb0]
    clear hb0 hW2 ex hX evx z4 zp hb1 hp y4 hB hP0 hpen hsz hql1 hgl1
    go_loopw [8] (fun x wr => ∃ j : Nat, j ≤ 6 ∧ x = .int .i64 j ∧ Hid (∃ k', Evo k k' cRef w wr ∧ Blk k' wr 0 b0 105 [.int .i64 ph, .int .i64 ba, .int .i64 ne, .int .i64 du] ∧ PenIs k' wr (cP i) pp r.pens[i] ∧ YVol k' wr q (r.sendsUp (resMsg r.pens[i] ⟨ph, ba, ne, du⟩ ((i : Int) + 1)) j))) (fun x _ => 6 - (intOf x).toNat)
    case atStart => exact ⟨0, by omega, rfl, HS0⟩
    case round =>
      obtain ⟨j, hj, rfl, hst⟩ := hrel
      obtain ⟨k1, ev1, hX, hpen, hY1⟩ := hst.out
      have x0 : wr.cell? ⟨b0, 0, none⟩ = some (.int .i64 ph) := hX.cell 0
      have x1 : wr.cell? ⟨b0, 1, none⟩ = some (.int .i64 ba) := hX.cell 1
      have x2 : wr.cell? ⟨b0, 2, none⟩ = some (.int .i64 ne) := hX.cell 2
      have xl : b0 < wr.heap.size := hX.lt
      by_cases hlt : j < 6
      · have hd : decide ((j : Int) < 6) = true := by simp; omega
        have hlen := RVol.sendsUp_len r (resMsg r.pens[i] ⟨ph, ba, ne, du⟩ ((i : Int) + 1)) j
        obtain ⟨vF, vS, vV, pB, pF, pS, pV⟩ := hpen.ex
        have HH := hide (heardOf_any (j : Int) (pB.cell 0) pF hpk.fl)
        have HN := hide (noted_any (j : Int) (pB.cell 1) pS hpk.sl)
        have hnr := notedN_range r.pens[i].status j hscl
        -- a send, and what it makes of the state
        have HSend : Hid (∀ (m : Msg) (vc : Value) (W : World) (k2 : Nat → Nat), resMsg r.pens[i] ⟨ph, ba, ne, du⟩ ((i : Int) + 1) j = some m → m.marks = [] → Evo k1 k2 noC wr W → CutsIm k2 W vc m.cuts →
            Calls Tryz.prog 67 #[.pointer (some ⟨q, 0, none⟩), .agg #[.int .i64 m.kind, .int .i64 m.frm, .int .i64 m.to_, .int .i64 m.epoch, .int .i64 m.lsn, .int .i64 m.value, .int .i64 m.scl, vc, .slice none 0 0]] W fun e w' => e = .returned (.tuple #[]) ∧
              ∃ k', Evo k k' cRef w w' ∧ Blk k' w' 0 b0 105 [.int .i64 ph, .int .i64 ba, .int .i64 ne, .int .i64 du] ∧ PenIs k' w' (cP i) pp r.pens[i] ∧ YVol k' w' q (r.sendsUp (resMsg r.pens[i] ⟨ph, ba, ne, du⟩ ((i : Int) + 1)) (j + 1))) := hide fun m vc W k2 hm hmk hev hcu => by
          refine (refSend_any m (hY1.evo hev (noC_not _) (fun c _ _ => noC_not c)) (by omega) hcu (by rw [hmk]; exact Rows.nil _ _ _ _ _)).mono ?_
          rintro e w' ⟨rfl, k3, ev3, hy3⟩
          have hno : ∀ c, c = IM ∨ 20 ≤ c ∨ c = 0 → ¬ (c = cY ∨ c = cNet) := fun c hc h => by unfold IM at hc; unfold cY cNet at h; omega
          refine ⟨rfl, k3, (ev1.trans (hev.mono (fun _ h => h.elim))).trans (ev3.mono (fun c h => cRef_of h)), (hX.evo hev (noC_not _)).evo ev3 (hno _ (.inr (.inr rfl))), (hpen.evo hev (noC_not _) (noC_not _) (noC_not _) (noC_not _) (noC_not _)).evo ev3 (hno _ (.inl rfl)) (hno _ (by unfold cP; omega)) (hno _ (by unfold cP; omega)) (hno _ (by unfold cP; omega)) (hno _ (by unfold cP; omega)), ?_⟩
          show YVol _ _ _ ((r.sendsUp _ j).sendO _)
          rw [hm]; exact hy3
        have HSame : Hid (resMsg r.pens[i] ⟨ph, ba, ne, du⟩ ((i : Int) + 1) j = none → ∃ k', Evo k k' cRef w wr ∧ Blk k' wr 0 b0 105 [.int .i64 ph, .int .i64 ba, .int .i64 ne, .int .i64 du] ∧ PenIs k' wr (cP i) pp r.pens[i] ∧ YVol k' wr q (r.sendsUp (resMsg r.pens[i] ⟨ph, ba, ne, du⟩ ((i : Int) + 1)) (j + 1))) := hide fun hm => by
          refine ⟨k1, ev1, hX, hpen, ?_⟩
          show YVol _ _ _ ((r.sendsUp _ j).sendO _)
          rw [hm]; exact hY1
        have HD : Hid (4 ≤ r.pens[i].fenced.length → Calls Tryz.prog 73 #[.pointer (some ⟨pp, 0, none⟩), .int .i64 ((i : Int) + 1)] wr fun en w' => (∃ z, en = .returned (.tuple #[z, .int .i64 (baseOf r.pens[i].fenced)]) ∧ Made w' wr.heap.size 53 2 z ((decCuts r.pens[i].fenced ((i : Int) + 1)).map cutRow)) ∧ Below wr.heap.size wr w') := hide fun h4 => decided_any _ (pB.cell 0) pF h4 hpk.fl hpk.f
        obtain ⟨va, vcap, hvf, hvals⟩ := ints_cells pV
        have q2 : wr.cell? ⟨pp, 2, none⟩ = some vV := pB.cell 2
        have hpl := pB.lt
        subst hvf
        have hvl := hpk.vl
        clear hst hX hpen hY1 ev1 pB pF pS pV HE HS0 hsc hscl hf
        obtain ⟨nr1, nr2⟩ := hnr
        by_cases hph : ph = 1
        · subst hph
          clear hmany HD hvals
          cases hh : heardIn r.pens[i].fenced j
          · have hm : resMsg r.pens[i] ⟨1, ba, ne, du⟩ ((i : Int) + 1) j = some (fenceMsg ((i : Int) + 1) j) := by unfold resMsg; rw [if_pos rfl, hh]; rfl
            have HC := hide (HSend.out (fenceMsg ((i : Int) + 1) j) (.slice none 0 0) wr k1 hm rfl (Evo.refl _ _ _) (Rows.nil _ _ _ _ _))
            rw [hh] at HH
            clear HSend HSame hm hh
            generalize notedN r.pens[i].status j = no at *
            generalize heardIn r.pens[i].status j = ha at *
            go_wp2_with fail
            refine HH.out.mono ?_
            rintro e2 w2 ⟨rfl, hw⟩
            subst hw
            go_wp2_with fail
            refine HN.out.mono ?_
            rintro e2 w3 ⟨rfl, hw⟩
            subst hw
            go_wp2_with fail
            refine HC.out.mono ?_
            rintro e2 w4 ⟨rfl, HY2⟩
            go_wp2_with fail
            go_roundw
            case rel => exact ⟨j + 1, by omega, by go_num, hide HY2⟩
            case measure => simp [intOf]; omega
          · have hm : resMsg r.pens[i] ⟨1, ba, ne, du⟩ ((i : Int) + 1) j = none := by unfold resMsg; rw [if_pos rfl, hh]; rfl
            have HC := hide (HSame.out hm)
            rw [hh] at HH
            clear HSend HSame hm hh
            generalize notedN r.pens[i].status j = no at *
            generalize heardIn r.pens[i].status j = ha at *
            go_wp2_with fail
            refine HH.out.mono ?_
            rintro e2 w2 ⟨rfl, hw⟩
            subst hw
            go_wp2_with fail
            refine HN.out.mono ?_
            rintro e2 w3 ⟨rfl, hw⟩
            subst hw
            go_wp2_with fail
            go_roundw
            case rel => exact ⟨j + 1, by omega, by go_num, hide HC.out⟩
            case measure => simp [intOf]; omega
        · obtain ⟨h4, hne⟩ := hmany hph
          have hph' : (ph == 1) = false := by simp [hph]
          clear hmany
          cases hh : heardIn r.pens[i].status j
          · have hm : resMsg r.pens[i] ⟨ph, ba, ne, du⟩ ((i : Int) + 1) j = some (cutMsg ((i : Int) + 1) (decCuts r.pens[i].fenced ((i : Int) + 1)) j) := by unfold resMsg; rw [if_neg hph, if_pos hh]
            have HD2 := hide (HD.out h4)
            have HC : Hid (∀ (z : Value) (W : World), Made W wr.heap.size 53 2 z ((decCuts r.pens[i].fenced ((i : Int) + 1)).map cutRow) → Below wr.heap.size wr W → Calls Tryz.prog 67 #[.pointer (some ⟨q, 0, none⟩), .agg #[.int .i64 3, .int .i64 ((i : Int) + 1), .int .i64 j, .int .i64 ((i : Int) + 1), .int .i64 0, .int .i64 0, .int .i64 0, z, .slice none 0 0]] W fun e w' => e = .returned (.tuple #[]) ∧
              ∃ k', Evo k k' cRef w w' ∧ Blk k' w' 0 b0 105 [.int .i64 ph, .int .i64 ba, .int .i64 ne, .int .i64 du] ∧ PenIs k' w' (cP i) pp r.pens[i] ∧ YVol k' w' q (r.sendsUp (resMsg r.pens[i] ⟨ph, ba, ne, du⟩ ((i : Int) + 1)) (j + 1))) := hide fun z W hz hW =>
              HSend.out (cutMsg ((i : Int) + 1) (decCuts r.pens[i].fenced ((i : Int) + 1)) j) z W (fun b => if b < wr.heap.size then k1 b else IM) hm rfl ((Evo.of_below (k := k1) hW).recolour _ (fun x hx => if_pos hx)) (Made.coloured IM hz)
            rw [hh] at HN
            clear HSend HSame hm hh HD hvals hne hph
            generalize notedN r.pens[i].status j = no at *
            generalize heardIn r.pens[i].fenced j = ha at *
            go_wp2_with fail
            refine HH.out.mono ?_
            rintro e2 w2 ⟨rfl, hw⟩
            subst hw
            go_wp2_with fail
            refine HN.out.mono ?_
            rintro e2 w3 ⟨rfl, hw⟩
            subst hw
            go_wp2_with fail
            refine HD2.out.mono ?_
            rintro e2 w4 ⟨⟨z, rfl, hz⟩, hb4⟩
            obtain ⟨z0, z1, hzz⟩ := Made.form hz
            have HC2 := hide (HC.out z w4 hz hb4)
            obtain ⟨zl, hzl⟩ : ∃ zl, z = .slice z0 zl z1 := ⟨_, hzz⟩
            clear hzz hz HC
            subst hzl
            go_wp2_with fail
            refine HC2.out.mono ?_
            rintro e2 w5 ⟨rfl, HY2⟩
            go_wp2_with fail
            go_roundw
            case rel => exact ⟨j + 1, by omega, by go_num, hide HY2⟩
            case measure => simp [intOf]; omega
          · by_cases hin : ba < notedN r.pens[i].status j + 1 ∧ notedN r.pens[i].status j + 1 ≤ ne
            · have hm : resMsg r.pens[i] ⟨ph, ba, ne, du⟩ ((i : Int) + 1) j = some (writeMsg ((i : Int) + 1) (notedN r.pens[i].status j + 1) (r.pens[i].values.getD (notedN r.pens[i].status j - ba).toNat 0) j) := by unfold resMsg; rw [if_neg hph, if_neg (by simp [hh]), if_pos hin]
              rw [hh] at HN
              have d1 : decide (ba < notedN r.pens[i].status j + 1) = true := by simp; omega
              have d2 : decide (notedN r.pens[i].status j + 1 ≤ ne) = true := by simp; omega
              obtain ⟨x, hx⟩ : ∃ x : Nat, notedN r.pens[i].status j = ba + (x : Int) := ⟨(notedN r.pens[i].status j - ba).toNat, by omega⟩
              have hxl : x < r.pens[i].values.length := by omega
              obtain ⟨vb, rfl, hvx⟩ := hvals x hxl
              have hgd : r.pens[i].values.getD (notedN r.pens[i].status j - ba).toNat 0 = r.pens[i].values[x] := by
                rw [show (notedN r.pens[i].status j - ba).toNat = x from by omega, List.getD_eq_getElem?_getD, List.getElem?_eq_getElem hxl]; rfl
              rw [hgd] at hm
              have HC : Hid (Calls Tryz.prog 67 #[.pointer (some ⟨q, 0, none⟩), .agg #[.int .i64 6, .int .i64 ((i : Int) + 1), .int .i64 j, .int .i64 ((i : Int) + 1), .int .i64 (notedN r.pens[i].status j + 1), .int .i64 r.pens[i].values[x], .int .i64 0, .slice none 0 0, .slice none 0 0]] wr.drew fun e w' => e = .returned (.tuple #[]) ∧
                ∃ k', Evo k k' cRef w w' ∧ Blk k' w' 0 b0 105 [.int .i64 ph, .int .i64 ba, .int .i64 ne, .int .i64 du] ∧ PenIs k' w' (cP i) pp r.pens[i] ∧ YVol k' w' q (r.sendsUp (resMsg r.pens[i] ⟨ph, ba, ne, du⟩ ((i : Int) + 1)) (j + 1))) := hide (HSend.out (writeMsg ((i : Int) + 1) (notedN r.pens[i].status j + 1) r.pens[i].values[x] j) (.slice none 0 0) wr.drew k1 hm rfl (Evo.refl _ _ _).drew (Rows.nil _ _ _ _ _))
              have hxw : IntKind.i64.wrap (notedN r.pens[i].status j - ba) = (x : Int) := by rw [IntKind.wrap_i64]; omega
              have hn1 : IntKind.i64.wrap (notedN r.pens[i].status j + 1) = notedN r.pens[i].status j + 1 := by rw [IntKind.wrap_i64]; omega
              have hx0 : (0 : Int) ≤ (x : Int) := by omega
              have hxi : (x : Int) < (r.pens[i].values.length : Int) := by omega
              have hvbl := World.block_lt_of_cell? wr _ hvx
              clear HSend HSame hm hh HD hvals hne hph hgd hin
              generalize r.pens[i].values[x] = va1 at *
              generalize r.pens[i].values.length = vlen at *
              clear hx
              generalize notedN r.pens[i].status j = no at *
              generalize heardIn r.pens[i].fenced j = ha at *
              go_wp2_with fail
              refine HH.out.mono ?_
              rintro e2 w2 ⟨rfl, hw⟩
              subst hw
              go_wp2_with fail
              refine HN.out.mono ?_
              rintro e2 w3 ⟨rfl, hw⟩
              subst hw
              go_wp2_with fail
              go_region_with (go_at_call 67; (try rw [hn1]); refine HC.out.mono ?_; rintro e2 w4 ⟨rfl, HY2⟩)
              all_goals go_wp2_with fail
              all_goals go_roundw
              all_goals first | exact ⟨j + 1, by omega, by go_num, hide HY2⟩ | (simp [intOf]; omega)
            · have hm : resMsg r.pens[i] ⟨ph, ba, ne, du⟩ ((i : Int) + 1) j = none := by unfold resMsg; rw [if_neg hph, if_neg (by simp [hh]), if_neg hin]
              have HC := hide (HSame.out hm)
              rw [hh] at HN
              clear HSend HSame hm hh HD hvals hne hph
              generalize notedN r.pens[i].status j = no at *
              generalize heardIn r.pens[i].fenced j = ha at *
              by_cases hin1 : ba < no + 1
              · have d1 : decide (ba < no + 1) = true := by simpa using hin1
                have d2 : decide (no + 1 ≤ ne) = false := by simp; omega
                clear hin
                go_wp2_with fail
                refine HH.out.mono ?_
                rintro e2 w2 ⟨rfl, hw⟩
                subst hw
                go_wp2_with fail
                refine HN.out.mono ?_
                rintro e2 w3 ⟨rfl, hw⟩
                subst hw
                go_wp2_with fail
                go_roundw
                case rel => exact ⟨j + 1, by omega, by go_num, hide HC.out⟩
                case measure => simp [intOf]; omega
              · have d1 : decide (ba < no + 1) = false := by simpa using hin1
                clear hin
                go_wp2_with fail
                refine HH.out.mono ?_
                rintro e2 w2 ⟨rfl, hw⟩
                subst hw
                go_wp2_with fail
                refine HN.out.mono ?_
                rintro e2 w3 ⟨rfl, hw⟩
                subst hw
                go_wp2_with fail
                go_roundw
                case rel => exact ⟨j + 1, by omega, by go_num, hide HC.out⟩
                case measure => simp [intOf]; omega
      · have hj6 : j = 6 := by omega
        have hd : decide ((j : Int) < 6) = false := by simp; omega
        rw [hj6] at hst
        clear hj6
        go_wp2_with fail
        go_ret
        obtain ⟨k', ev, _, _, hy⟩ := hst.out
        exact ⟨by rw [HE.out]; rfl, k', ev, by rw [HE.out]; exact hy⟩
end Go.Proofs.YtfpbkghcjaonlaaGreat

/-
  sixfoldref: writerHears, but for what it sends.
-/
namespace Go.Proofs.YtfpbkghcjaonlaaGreat
open Go.RowKit

def RVol.setPen (r : RVol) (i : Nat) (p : RPen) : RVol := { r with pens := r.pens.set i p }
def RVol.heard (r : RVol) (i : Nat) (p : RPen) (m : Msg) : RVol :=
  if heardIn p.fenced m.frm then r
  else if p.fenced.length + 1 = 4 then (r.setPen i { p with fenced := p.fenced ++ [m] }).sendUp (cutMsg m.to_ (decCuts (p.fenced ++ [m]) m.to_)) 6
  else r.setPen i { p with fenced := p.fenced ++ [m] }
def RVol.wHears (r : RVol) (m : Msg) : RVol := match r.pens[m.to_.toNat - 1]? with
  | none => r
  | some p =>
    if m.kind = 5 then r.setPen (m.to_.toNat - 1) p.ended
    else if m.kind = 4 ∧ (p.stands.phase = 2 ∨ p.stands.phase = 3) then r.setPen (m.to_.toNat - 1) { p with status := p.status ++ [m] }
    else if m.kind = 2 ∧ p.stands.phase = 1 then r.heard (m.to_.toNat - 1) p m
    else r

/-- MRefused. -/
theorem wHears_refused {k : Nat → Nat} {w : World} {q : Nat} {r : RVol} (i : Nat) (hi : i < r.pens.length) (m1 m3 m4 m5 m6 : Int) (z0 y0 : Option Addr) (z1 z2 y1 y2 : Nat) (hY : YVol k w q r) (hok : YOk r) :
    Calls Tryz.prog 116 #[.pointer (some ⟨q, 0, none⟩), .agg #[.int .i64 5, .int .i64 m1, .int .i64 ((i : Int) + 1), .int .i64 m3, .int .i64 m4, .int .i64 m5, .int .i64 m6, .slice z0 z1 z2, .slice y0 y1 y2]] w fun e w' => e = .returned (.tuple #[]) ∧
      ∃ k', Evo k k' cRef w w' ∧ YVol k' w' q (r.setPen i r.pens[i].ended) := by
  obtain ⟨vSegs, vPens, sb, pb, g, cap, vNet, rows, hN, hS, hP, hB, hNet, l1, y4, h1, hp, hpen⟩ := pen_open hY i hi
  have hi9 : (i : Int) < 9 := by have := hP.l2; omega
  have hil : (i : Int) < (r.pens.length : Int) := by omega
  have hgl := World.block_lt_of_cell? w _ hp
  have hql := hB.lt
  have HST : Hid (∀ W, Below w.heap.size w W → Calls Tryz.prog 103 #[.pointer (some ⟨pb[i], 0, none⟩), .int .i64 ((i : Int) + 1)] W fun e w' => e = .returned r.pens[i].stands.val ∧ Below W.heap.size W w') := hide fun W hW =>
    stands_any _ (hpen.evo (Evo.of_below (C := noC) hW) (noC_not _) (noC_not _) (noC_not _) (noC_not _) (noC_not _)) (hok.pk _ (List.getElem_mem hi))
  have HEnd : Hid (∀ W, Below w.heap.size w W → Calls Tryz.prog 83 #[.pointer (some ⟨pb[i], 0, none⟩), .int .i64 ((i : Int) + 1)] W fun en w' => en = .returned (.tuple #[]) ∧ ∃ k', Evo k k' (fun c => c = cP i) W w' ∧ PenIs k' w' (cP i) pb[i] r.pens[i].ended) := hide fun W hW =>
    end_any _ (hpen.evo (Evo.of_below (C := noC) hW) (noC_not _) (noC_not _) (noC_not _) (noC_not _) (noC_not _)) (hok.pk _ (List.getElem_mem hi)) (by unfold cP IM; omega)
  have hix : (i : Int) + 1 - 1 = (i : Int) := by omega
  generalize hpp : pb[i] = pp at *
  have HPP := hide hpp
  clear hpp hpen
  unfold WSt.val at HST
  generalize r.pens[i].stands = st at *
  go_enter Tryz.func116, Tryz.ntmps116
  go_wp2_with fail
  go_quiet (fail)
  have hbA := ((Below.refl w.heap.size w).alloc (Nat.le_refl _) (Obj.cells #[.int .i64 5, .int .i64 m1, .int .i64 ((i : Int) + 1), .int .i64 m3, .int .i64 m4, .int .i64 m5, .int .i64 m6, .slice z0 z1 z2, .slice y0 y1 y2] 109))
  go_wp2_with fail
  refine (HST.out _ (below_drewN hbA _)).mono ?_
  rintro e1 w1 ⟨rfl, hb1⟩
  have hs1 : w.heap.size + 1 ≤ w1.heap.size := by have := hb1.size; simpa using this
  have hr1 : w1.heap[w.heap.size]? = _ := (hb1.block w.heap.size (by simp)).trans (heap_alloc_new w _)
  have c0 : w1.cell? ⟨w.heap.size, 0, none⟩ = some (.int .i64 5) := by rw [cell_of_row _ _ 0 _ _ _ hr1]; rfl
  have c2 : w1.cell? ⟨w.heap.size, 2, none⟩ = some (.int .i64 ((i : Int) + 1)) := by rw [cell_of_row _ _ 2 _ _ _ hr1]; rfl
  have hws : w.heap.size < w1.heap.size := by omega
  have hB1 : Below w.heap.size w w1 := (below_drewN hbA _).trans (hb1.mono (by simp))
  clear hr1
  go_wp2_with fail
  refine (HEnd.out _ (hB1.alloc hB1.size _)).mono ?_
  rintro e1 w2 ⟨rfl, k2, ev2, hp2⟩
  go_wp2_with fail
  go_end0
  have e1 : Evo k k noC w (w1.alloc (Obj.cells #[.int .i64 st.phase, .int .i64 st.base, .int .i64 st.next, .int .i64 st.dur] 105)) := (Evo.of_below hB1).alloc _
  refine ⟨rfl, k2, (e1.mono (fun _ h => h.elim)).trans (ev2.mono (fun c h => by unfold cP at h; unfold cRef; omega)), ?_⟩
  exact YVol.set_pen (hN.evo e1 (noC_not _) (noC_not _) (noC_not _)) (hS.evo e1 (noC_not _) (noC_not _) (fun c _ _ => noC_not c)) (hP.evo e1 (noC_not _) (noC_not _) (fun c _ _ => noC_not c)) i h1 ev2 (fun c h => by omega) (by rw [HPP.out]; exact hp2)

/-- What a writer does not heed. -/
theorem wHears_none {k : Nat → Nat} {w : World} {q : Nat} {r : RVol} (i : Nat) (hi : i < r.pens.length) (m0 m1 m3 m4 m5 m6 : Int) (z0 y0 : Option Addr) (z1 z2 y1 y2 : Nat) (hY : YVol k w q r) (hok : YOk r)
    (h5 : m0 ≠ 5) (h4 : ¬ (m0 = 4 ∧ (r.pens[i].stands.phase = 2 ∨ r.pens[i].stands.phase = 3))) (h2 : ¬ (m0 = 2 ∧ r.pens[i].stands.phase = 1)) :
    Calls Tryz.prog 116 #[.pointer (some ⟨q, 0, none⟩), .agg #[.int .i64 m0, .int .i64 m1, .int .i64 ((i : Int) + 1), .int .i64 m3, .int .i64 m4, .int .i64 m5, .int .i64 m6, .slice z0 z1 z2, .slice y0 y1 y2]] w fun e w' => e = .returned (.tuple #[]) ∧ Below w.heap.size w w' := by
  obtain ⟨vSegs, vPens, sb, pb, g, cap, vNet, rows, hN, hS, hP, hB, hNet, l1, y4, h1, hp, hpen⟩ := pen_open hY i hi
  have hi9 : (i : Int) < 9 := by have := hP.l2; omega
  have hil : (i : Int) < (r.pens.length : Int) := by omega
  have hgl := World.block_lt_of_cell? w _ hp
  have hql := hB.lt
  have HST : Hid (∀ W, Below w.heap.size w W → Calls Tryz.prog 103 #[.pointer (some ⟨pb[i], 0, none⟩), .int .i64 ((i : Int) + 1)] W fun e w' => e = .returned r.pens[i].stands.val ∧ Below W.heap.size W w') := hide fun W hW =>
    stands_any _ (hpen.evo (Evo.of_below (C := noC) hW) (noC_not _) (noC_not _) (noC_not _) (noC_not _) (noC_not _)) (hok.pk _ (List.getElem_mem hi))
  have hix : (i : Int) + 1 - 1 = (i : Int) := by omega
  clear hpen
  generalize pb[i] = pp at *
  unfold WSt.val at HST
  generalize r.pens[i].stands = st at *
  have b5 : (m0 == 5) = false := by simp [h5]
  have H4 := hide h4
  have H2 := hide h2
  clear h5 h4 h2
  go_enter Tryz.func116, Tryz.ntmps116
  go_wp2_with fail
  go_quiet (fail)
  have hbA := ((Below.refl w.heap.size w).alloc (Nat.le_refl _) (Obj.cells #[.int .i64 m0, .int .i64 m1, .int .i64 ((i : Int) + 1), .int .i64 m3, .int .i64 m4, .int .i64 m5, .int .i64 m6, .slice z0 z1 z2, .slice y0 y1 y2] 109))
  go_wp2_with fail
  refine (HST.out _ (below_drewN hbA _)).mono ?_
  rintro e1 w1 ⟨rfl, hb1⟩
  have hs1 : w.heap.size + 1 ≤ w1.heap.size := by have := hb1.size; simpa using this
  have hr1 : w1.heap[w.heap.size]? = _ := (hb1.block w.heap.size (by simp)).trans (heap_alloc_new w _)
  have c0 : w1.cell? ⟨w.heap.size, 0, none⟩ = some (.int .i64 m0) := by rw [cell_of_row _ _ 0 _ _ _ hr1]; rfl
  have c2 : w1.cell? ⟨w.heap.size, 2, none⟩ = some (.int .i64 ((i : Int) + 1)) := by rw [cell_of_row _ _ 2 _ _ _ hr1]; rfl
  have hws : w.heap.size < w1.heap.size := by omega
  have hB1 : Below w.heap.size w w1 := (below_drewN hbA _).trans (hb1.mono (by simp))
  clear hr1
  by_cases h4 : m0 = 4
  · subst h4
    have p2 : (st.phase == 2) = false := by have := H4.out; simp; omega
    have p3 : (st.phase == 3) = false := by have := H4.out; simp; omega
    clear H4 H2
    go_wp2_with fail
    go_end0
    exact ⟨rfl, hB1.alloc hB1.size _⟩
  · have b4 : (m0 == 4) = false := by simp [h4]
    clear h4
    by_cases h2 : m0 = 2
    · subst h2
      have p1 : (st.phase == 1) = false := by have := H2.out; simp; omega
      clear H4 H2
      go_wp2_with fail
      go_end0
      exact ⟨rfl, hB1.alloc hB1.size _⟩
    · have b2 : (m0 == 2) = false := by simp [h2]
      clear h2 H4 H2
      go_wp2_with fail
      go_end0
      exact ⟨rfl, hB1.alloc hB1.size _⟩
end Go.Proofs.YtfpbkghcjaonlaaGreat

/-
  sixfoldref: writerHears, MStatus and MFenced.
-/
namespace Go.Proofs.YtfpbkghcjaonlaaGreat
open Go.RowKit

theorem Tryz.infoMessage : (Tryz.prog.info? 109).map (fun i => (i.zero, i.size, i.bytes)) = some (some (.agg #[.int .i64 0, .int .i64 0, .int .i64 0, .int .i64 0, .int .i64 0, .int .i64 0, .int .i64 0, .slice none 0 0, .slice none 0 0]), 9, 104) := by kernel_rfl

/-- A message more, heard. -/
theorem MsgsIs.snoc {k k1 : Nat → Nat} {w w1 : World} {c : Nat} {v1 : Value} {ms : List Msg} {m : Msg} {rows : List (List Value)} {vc vm : Value} {C : Nat → Prop} (ha : All2 (MsgIs k w) ms rows) (hc : CutsIm k w vc m.cuts) (hm : IntsIm k w vm m.marks) (ev : Evo k k1 C w w1) (hi : ¬ C IM)
    (hR : Rows k1 w1 c 109 9 v1 (rows ++ [msgCells m vc vm])) : MsgsIs k1 w1 c v1 (ms ++ [m]) :=
  ⟨_, hR, All2.snoc (ha.imp fun _ _ x => x.evo ev hi) ⟨vc, vm, rfl, hc.evo ev hi, hm.evo ev hi⟩⟩

set_option maxHeartbeats 2000000 in
theorem wHears_status {k : Nat → Nat} {w : World} {q : Nat} {r : RVol} (i : Nat) (hi : i < r.pens.length) (m : Msg) (vc vm : Value) (hk : m.kind = 4) (hto : m.to_ = (i : Int) + 1) (hc : CutsIm k w vc m.cuts) (hm : IntsIm k w vm m.marks) (hY : YVol k w q r) (hok : YOk r)
    (hph : r.pens[i].stands.phase = 2 ∨ r.pens[i].stands.phase = 3) :
    Calls Tryz.prog 116 #[.pointer (some ⟨q, 0, none⟩), .agg #[.int .i64 m.kind, .int .i64 m.frm, .int .i64 m.to_, .int .i64 m.epoch, .int .i64 m.lsn, .int .i64 m.value, .int .i64 m.scl, vc, vm]] w fun e w' => e = .returned (.tuple #[]) ∧
      ∃ k', Evo k k' cRef w w' ∧ YVol k' w' q (r.setPen i { r.pens[i] with status := r.pens[i].status ++ [m] }) := by
  obtain ⟨vSegs, vPens, sb, pb, g, cap, vNet, rows, hN, hS, hP, hB, hNet, l1, y4, h1, hp, hpen⟩ := pen_open hY i hi
  have hi9 : (i : Int) < 9 := by have := hP.l2; omega
  have hil : (i : Int) < (r.pens.length : Int) := by omega
  have hgl := World.block_lt_of_cell? w _ hp
  have hql := hB.lt
  have HST : Hid (∀ W, Below w.heap.size w W → Calls Tryz.prog 103 #[.pointer (some ⟨pb[i], 0, none⟩), .int .i64 ((i : Int) + 1)] W fun e w' => e = .returned r.pens[i].stands.val ∧ Below W.heap.size W w') := hide fun W hW =>
    stands_any _ (hpen.evo (Evo.of_below (C := noC) hW) (noC_not _) (noC_not _) (noC_not _) (noC_not _) (noC_not _)) (hok.pk _ (List.getElem_mem hi))
  have hix : (i : Int) + 1 - 1 = (i : Int) := by omega
  have hsl := (hok.pk _ (List.getElem_mem hi)).sl
  obtain ⟨vF, vS, vV, pB, pF, ⟨srows, pS, pA⟩, pV⟩ := hpen.ex
  have hsr : Hid (r.pens[i].status.length = srows.length) := hide pA.1
  have hsrl : srows.length ≤ 4000000000 := by have := pA.1; omega
  obtain ⟨sa, scap, hvf, _⟩ := pS.form
  subst hvf
  obtain ⟨z0, z1, z2, hzz⟩ := Rows.shape hc
  subst hzz
  obtain ⟨y0, y1, y2, hyy⟩ := Rows.shape hm
  subst hyy
  generalize hpp : pb[i] = pp at *
  have HPP := hide hpp
  clear hpp hpen
  unfold WSt.val at HST
  generalize r.pens[i].stands = st at *
  obtain ⟨m0, m1, m2, m3, m4, m5, m6, mc, mm⟩ := m
  dsimp only at hk hto hc hm
  subst hk hto
  have hbA := ((Below.refl w.heap.size w).alloc (Nat.le_refl _) (Obj.cells #[.int .i64 4, .int .i64 m1, .int .i64 ((i : Int) + 1), .int .i64 m3, .int .i64 m4, .int .i64 m5, .int .i64 m6, .slice z0 z1 z2, .slice y0 y1 y2] 109))
  dsimp only
  go_enter Tryz.func116, Tryz.ntmps116
  go_wp2_with fail
  go_quiet (fail)
  go_wp2_with fail
  refine (HST.out _ (below_drewN hbA _)).mono ?_
  rintro e1 w1 ⟨rfl, hb1⟩
  have hs1 : w.heap.size + 1 ≤ w1.heap.size := by have := hb1.size; simpa using this
  have hr1 : w1.heap[w.heap.size]? = _ := (hb1.block w.heap.size (by simp)).trans (heap_alloc_new w _)
  have c0 : w1.cell? ⟨w.heap.size, 0, none⟩ = some (.int .i64 4) := by rw [cell_of_row _ _ 0 _ _ _ hr1]; rfl
  have c1 : w1.cell? ⟨w.heap.size, 1, none⟩ = some (.int .i64 m1) := by rw [cell_of_row _ _ 1 _ _ _ hr1]; rfl
  have c2 : w1.cell? ⟨w.heap.size, 2, none⟩ = some (.int .i64 ((i : Int) + 1)) := by rw [cell_of_row _ _ 2 _ _ _ hr1]; rfl
  have c3 : w1.cell? ⟨w.heap.size, 3, none⟩ = some (.int .i64 m3) := by rw [cell_of_row _ _ 3 _ _ _ hr1]; rfl
  have c4 : w1.cell? ⟨w.heap.size, 4, none⟩ = some (.int .i64 m4) := by rw [cell_of_row _ _ 4 _ _ _ hr1]; rfl
  have c5 : w1.cell? ⟨w.heap.size, 5, none⟩ = some (.int .i64 m5) := by rw [cell_of_row _ _ 5 _ _ _ hr1]; rfl
  have c6 : w1.cell? ⟨w.heap.size, 6, none⟩ = some (.int .i64 m6) := by rw [cell_of_row _ _ 6 _ _ _ hr1]; rfl
  have c7 : w1.cell? ⟨w.heap.size, 7, none⟩ = some (.slice z0 z1 z2) := by rw [cell_of_row _ _ 7 _ _ _ hr1]; rfl
  have c8 : w1.cell? ⟨w.heap.size, 8, none⟩ = some (.slice y0 y1 y2) := by rw [cell_of_row _ _ 8 _ _ _ hr1]; rfl
  have hws : w.heap.size < w1.heap.size := by omega
  have hB1 : Below w.heap.size w w1 := (below_drewN hbA _).trans (hb1.mono (by simp))
  have e1 : Evo k k noC w w1 := Evo.of_below hB1
  have pB1 := pB.evo e1 (noC_not _)
  have zs : w1.cell? ⟨pp, 1, none⟩ = _ := pB1.cell 1
  simp only [List.getElem?_cons_zero, List.getElem?_cons_succ] at zs
  have hpl1 := pB1.lt
  have e2 : Evo k k noC w ((w1.alloc (Obj.cells #[.int .i64 st.phase, .int .i64 st.base, .int .i64 st.next, .int .i64 st.dur] 105)).alloc (Obj.cells #[.int .i64 4, .int .i64 m1, .int .i64 ((i : Int) + 1), .int .i64 m3, .int .i64 m4, .int .i64 m5, .int .i64 m6, .slice z0 z1 z2, .slice y0 y1 y2] 109)).drew := ((e1.alloc _).alloc _).drew
  have hR := pS.evo e2 (noC_not _)
  have pB2 := pB.evo e2 (noC_not _)
  have hnews := cell_two_new' (w1) (Obj.cells #[.int .i64 st.phase, .int .i64 st.base, .int .i64 st.next, .int .i64 st.dur] 105) (msgCells ⟨4, m1, (i : Int) + 1, m3, m4, m5, m6, mc, mm⟩ (.slice z0 z1 z2) (.slice y0 y1 y2)) 109
  clear hr1
  have hp23 : (st.phase == 2) = true ∨ ((st.phase == 2) = false ∧ (st.phase == 3) = true) := by rcases hph with h | h <;> simp [h]
  clear hph
  rcases hp23 with hp2 | ⟨hp2, hp3⟩
  all_goals go_wp2_with fail
  all_goals go_region_law
    (refine step_append_rows k (cP i + 2) (.tmp 49) (.tmp 51) 66 109 _ 9 104 _ srows [msgCells ⟨4, m1, (i : Int) + 1, m3, m4, m5, m6, mc, mm⟩ (.slice z0 z1 z2) (.slice y0 y1 y2)] srows.length ⟨w1.heap.size + 1, 0, none⟩ 1 1 rfl rfl rfl Tryz.underlying66 Tryz.infoMessage rfl (by decide) rfl rfl hR rfl (by simp [msgCells]) (fun j u hj => hnews j u (by simpa using hj)) (by simp [msgCells, Value.oneCell']) (by simp only [maxLen]; omega) (by omega) ?_; intro ao1 cap1 w2 k2 hR2 hE2; have y2' : w2.cell? ⟨pp, 1, none⟩ = _ := (pB2.evo hE2 (by omega)).cell 1; simp only [List.getElem?_cons_zero, List.getElem?_cons_succ] at y2'; have yf' : w2.frozen? ⟨pp, 1, none⟩ = false := (pB2.evo hE2 (by omega)).free 1; have yl' := (pB2.evo hE2 (by omega)).lt)
  all_goals go_end0
  all_goals
    obtain ⟨f1, f2, f3⟩ := push_fin (Evo.refl _ noC _) pB2 (by omega) hR2 hE2 1
    have eA := (e2.mono (D := fun c => c = cP i ∨ c = cP i + 2) (fun _ h => h.elim)).trans f1
    have hpe : PenIs k2 (w2.setCell ⟨pp, 1, none⟩ (.slice ao1 (srows.length + 1) cap1)) (cP i) pp { r.pens[i] with status := r.pens[i].status ++ [⟨4, m1, (i : Int) + 1, m3, m4, m5, m6, mc, mm⟩] } := ⟨_, _, _, f2, pF.evo eA (by omega) (by unfold cP IM; omega), MsgsIs.snoc pA hc hm eA (by unfold cP IM; omega) f3, pV.evo eA (by omega)⟩
    exact ⟨rfl, k2, eA.mono (fun c h => by unfold cP at h; unfold cRef; omega), YVol.set_pen hN hS hP i h1 eA (fun c h => by omega) (by rw [HPP.out]; exact hpe)⟩
end Go.Proofs.YtfpbkghcjaonlaaGreat
