import Derived.Test.YtfpbkghcjaonlaaJ24
/-
  sixfoldlaw's player: pick, network.
-/
namespace Go.Proofs.Ytfpbkghcjaonlaa.Sim
open Go.RowKit

def i64R (n : Int) : Prop := -9223372036854775808 ≤ n ∧ n ≤ 9223372036854775807

set_option maxHeartbeats 1000000 in
theorem pickN_any (w : World) (c n : Int) (h1 : -9223372036854775808 ≤ c) (h2 : c ≤ 9223372036854775807) (hn : 1 ≤ n) (hn2 : n ≤ 1000) :
    Calls Try.prog 22 #[.int .i64 c, .int .i64 n] w fun e w' => e = .returned (.int .i64 (pickOf c n)) ∧ w' = w := by
  have hz : (n == 0) = false := by simp; omega
  have hz2 : ¬ n = 0 := by omega
  by_cases h0 : c < 0
  · have d0 : decide (c < 0) = true := by simpa using h0
    have HE : Hid (pickOf c n = (-(c + 1)) % n) := hide (by unfold pickOf; rw [if_pos h0])
    have hw : IntKind.i64.wrap (c + 1) = c + 1 := by rw [IntKind.wrap_i64] <;> omega
    have hw3 : IntKind.i64.wrap (-(c + 1)) = -(c + 1) := by rw [IntKind.wrap_i64] <;> omega
    have ht : Int.tmod (-(c + 1)) n = (-(c + 1)) % n := Int.tmod_eq_emod_of_nonneg (by omega)
    have hm1 : 0 ≤ (-(c + 1)) % n := Int.emod_nonneg _ hz2
    have hm2 : (-(c + 1)) % n < n := Int.emod_lt_of_pos _ (by omega)
    have hw2 : IntKind.i64.wrap ((-(c + 1)) % n) = (-(c + 1)) % n := by rw [IntKind.wrap_i64] <;> omega
    clear h1 h2 hn hn2 h0
    go_enter Try.func22, Try.ntmps22
    go_wp2
    go_ret
    exact ⟨by rw [HE.out]; rfl, rfl⟩
  · have d0 : decide (c < 0) = false := by simpa using h0
    have HE : Hid (pickOf c n = c % n) := hide (by unfold pickOf; rw [if_neg h0])
    have ht : Int.tmod c n = c % n := Int.tmod_eq_emod_of_nonneg (by omega)
    have hm1 : 0 ≤ c % n := Int.emod_nonneg _ hz2
    have hm2 : c % n < n := Int.emod_lt_of_pos _ (by omega)
    have hw2 : IntKind.i64.wrap (c % n) = c % n := by rw [IntKind.wrap_i64] <;> omega
    clear h1 h2 hn hn2 h0
    go_enter Try.func22, Try.ntmps22
    go_wp2
    go_ret
    exact ⟨by rw [HE.out]; rfl, rfl⟩
theorem pick_lt (c n : Int) (hn : 1 ≤ n) : 0 ≤ pickOf c n ∧ pickOf c n < n := by
  unfold pickOf
  exact ⟨Int.emod_nonneg _ (by omega), Int.emod_lt_of_pos _ (by omega)⟩

theorem place_some {r : RVol} {x : Int} (h0 : 0 ≤ x) (h : x < (flightOf r.net : Int)) : ∃ (i : Nat) (q : Msg × Bool), placeE r.net x = some i ∧ r.net[i]? = some q := by
  have hp := liveOf_place r.net x.toNat
  unfold placeE
  rw [if_neg (by omega)]
  cases hc : placeOf r.net x.toNat with
  | none =>
    have := hp.2 hc
    rw [List.getElem?_eq_none_iff, liveOf_len] at this
    omega
  | some i =>
    obtain ⟨hi, _⟩ := hp.1 i hc
    exact ⟨i, _, rfl, List.getElem?_eq_getElem hi⟩
theorem deliver_ok {r : RVol} {x : Int} (h0 : 0 ≤ x) (h : x < (flightOf r.net : Int)) : (r.deliver x).2 = 0 := by
  obtain ⟨i, q, h1, h2⟩ := place_some h0 h
  unfold RVol.deliver
  rw [h1]
  simp only
  rw [h2]
theorem err12_ok {r : RVol} {x : Int} (h0 : 0 ≤ x) (h : x < (flightOf r.net : Int)) : r.err12 x = 0 := by
  obtain ⟨i, q, h1, h2⟩ := place_some h0 h
  unfold RVol.err12
  rw [h1]; rfl

/-- The player goes on, no writer is opened. -/
def PSame (P P' : PSt) : Prop := P'.most = P.most ∧ Goes0 P.r P'.r ∧ P'.pens.length = P.pens.length
theorem PSame.refl {P : PSt} (h : PlInv P) : PSame P P := ⟨rfl, Goes0.refl h.saf, rfl⟩
theorem PSame.trans {P Q R : PSt} (h : PSame P Q) (g : PSame Q R) : PSame P R := ⟨g.1.trans h.1, h.2.1.trans g.2.1, g.2.2.trans h.2.2⟩
theorem PSame.vol {P : PSt} {r : RVol} (g : Goes P.r r) : PSame P (P.vol r) := ⟨rfl, g.toGoes0, rfl⟩

/-- Where an act stands. -/
def ASt (k : Nat → Nat) (w wr : World) (b px : Nat) (P : PSt) (X : List (Nat × Nat × List Value)) : Prop := ∃ k', Evo k k' cPS w wr ∧ Pl k' wr b px P ∧ ∀ x ∈ X, Blk k' wr 0 x.1 x.2.1 x.2.2
section
variable {k : Nat → Nat} {w wr w' : World} {b px : Nat} {P P' : PSt} {X : List (Nat × Nat × List Value)}
theorem ASt.start (h : Pl k w b px P) : ASt k w w b px P [] := ⟨k, Evo.refl _ _ _, h, fun x hx => by simp at hx⟩
theorem ASt.box (h : ASt k w wr b px P X) (e : Nat) (cs : List Value) : ASt k w (wr.alloc (Obj.cells cs.toArray e)) b px P ((wr.heap.size, e, cs) :: X) := by
  obtain ⟨k', ev, hp, hX⟩ := h
  have e2 : Evo k' (fun g => if g < wr.heap.size then k' g else 0) noC wr (wr.alloc (Obj.cells cs.toArray e)) := ((Evo.refl k' noC wr).alloc _).recolour _ (fun i hi => if_pos hi)
  refine ⟨_, ev.trans (e2.mono (fun _ h => h.elim)), hp.evo e2 (fun c _ _ => noC_not c) (noC_not _), fun x hx => ?_⟩
  rcases List.mem_cons.1 hx with rfl | hx
  · exact ⟨heap_alloc_new wr _, if_neg (Nat.lt_irrefl _)⟩
  · exact (hX x hx).evo e2 (noC_not _)
theorem ASt.below (h : ASt k w wr b px P X) (hb : Below wr.heap.size wr w') : ASt k w w' b px P X := by
  obtain ⟨k', ev, hp, hX⟩ := h
  have e2 : Evo k' k' noC wr w' := Evo.of_below hb
  exact ⟨k', ev.trans (e2.mono (fun _ h => h.elim)), hp.evo e2 (fun c _ _ => noC_not c) (noC_not _), fun x hx => (hX x hx).evo e2 (noC_not _)⟩
theorem ASt.drew (h : ASt k w wr b px P X) : ASt k w wr.drew b px P X := h.below (Below.drew (Below.refl _ _))
theorem ASt.call {F : Nat} {args : Array Value} {Q : Ending → PSt → Prop} (h : ASt k w wr b px P X) (H : ∀ k' W, Pl k' W b px P → Calls Try.prog F args W fun e w' => ∃ P' k'', Q e P' ∧ Evo k' k'' cPS W w' ∧ Pl k'' w' b px P') :
    Calls Try.prog F args wr fun e w' => ∃ P', Q e P' ∧ ASt k w w' b px P' X := by
  obtain ⟨k', ev, hp, hX⟩ := h
  refine (H k' wr hp).mono ?_
  rintro e w' ⟨P', k'', hq, e2, h2⟩
  exact ⟨P', hq, k'', ev.trans e2, h2, fun x hx => (hX x hx).evo e2 (by unfold cPS; omega)⟩
/-- A call of the volume. -/
theorem ASt.vol {F : Nat} {args : Array Value} {ret : Value} {r : RVol} (h : ASt k w wr b px P X) (H : ∀ k' W, Pl k' W b px P → Calls Try.prog F args W fun e w' => e = .returned ret ∧ ∃ k'', Evo k' k'' cXS W w' ∧ Pl k'' w' b px (P.vol r)) :
    Calls Try.prog F args wr fun e w' => e = .returned ret ∧ ASt k w w' b px (P.vol r) X := by
  obtain ⟨k', ev, hp, hX⟩ := h
  refine (H k' wr hp).mono ?_
  rintro e w' ⟨rfl, k'', e2, h2⟩
  exact ⟨rfl, k'', ev.trans (e2.mono (fun c h => by unfold cXS at h; unfold cPS; omega)), h2, fun x hx => (hX x hx).evo e2 (by unfold cXS; omega)⟩
theorem ASt.flight (h : ASt k w wr b px P X) : Calls Try.prog 55 #[.pointer (some ⟨px, 0, none⟩)] wr fun e w' => e = .returned (.int .i64 (flightOf P.r.net)) ∧ w' = wr := by
  obtain ⟨k', ev, hp, hX⟩ := h
  exact pl_flight hp
theorem ASt.ptr (h : ASt k w wr b px P X) : wr.cell? ⟨b, 0, none⟩ = some (.pointer (some ⟨px, 0, none⟩)) ∧ b < wr.heap.size := by
  obtain ⟨k', ev, hp, hX⟩ := h
  exact hp.ptr
theorem ASt.inv (h : ASt k w wr b px P X) : PlInv P := by
  obtain ⟨k', ev, hp, hX⟩ := h
  exact hp.2
theorem ASt.act {g : Nat} {K A B : Int} (h : ASt k w wr b px P ((g, 31, [.int .i64 K, .int .i64 A, .int .i64 B]) :: X)) : wr.cell? ⟨g, 0, none⟩ = some (.int .i64 K) ∧ wr.cell? ⟨g, 1, none⟩ = some (.int .i64 A) ∧ wr.cell? ⟨g, 2, none⟩ = some (.int .i64 B) ∧ g < wr.heap.size := by
  obtain ⟨k', ev, hp, hX⟩ := h
  have h2 := hX _ List.mem_cons_self
  exact ⟨h2.cell 0, h2.cell 1, h2.cell 2, h2.lt⟩
end

/-- What an act leaves. -/
def ActP (k : Nat → Nat) (w w' : World) (b px : Nat) (P : PSt) : Prop := ∃ P' k', PSame P P' ∧ Evo k k' cPS w w' ∧ Pl k' w' b px P'
theorem ASt.actP {k : Nat → Nat} {w w' : World} {b px : Nat} {P P' : PSt} {X : List (Nat × Nat × List Value)} (h : ASt k w w' b px P' X) (hs : PSame P P') : ActP k w w' b px P := by
  obtain ⟨k', ev, hp, _⟩ := h
  exact ⟨P', k', hs, ev, hp⟩

set_option maxRecDepth 3000 in
set_option maxHeartbeats 8000000 in
theorem pl_network_one {k : Nat → Nat} {w : World} {b px : Nat} {P : PSt} (h : Pl k w b px P) (K A B : Int) (hA : i64R A) (hK : K = 9 ∨ K = 10 ∨ K = 11) :
    Calls Try.prog 27 #[.pointer (some ⟨b, 0, none⟩), .agg #[.int .i64 K, .int .i64 A, .int .i64 B]] w fun e w' => e = .returned (.bool true) ∧ ActP k w w' b px P := by
  have h1 := (ASt.start h).box 31 [.int .i64 K, .int .i64 A, .int .i64 B]
  have hfly := h.2.inv.fly
  have hfl := h.2.inv.fl
  obtain ⟨z0, hbl⟩ := h.ptr
  have hbg : ¬ b = w.heap.size := by omega
  obtain ⟨n, hn⟩ : ∃ n, n = flightOf P.r.net := ⟨_, rfl⟩
  have HF := hide h1.flight
  rw [← hn] at HF hfly
  have HN := hide hn
  have H1 := hide h1
  have HI := hide h.2
  unfold i64R at hA
  clear h hn h1
  by_cases h0 : n = 0
  · subst h0
    rcases hK with rfl | rfl | rfl
    all_goals
      go_enter Try.func27, Try.ntmps27
      go_wp2_with fail
      refine HF.out.mono ?_
      rintro e1 w1 ⟨rfl, hw1⟩
      subst hw1
      go_wp2_with fail
      go_ret
      exact ⟨rfl, H1.out.actP (PSame.refl HI.out)⟩
  · have hz : ((n : Int) == 0) = false := by simp; omega
    have hz2 : (n == 0) = false := by simp; omega
    have HPk := hide (fun W => pickN_any W A n hA.1 hA.2 (by omega) (by omega))
    obtain ⟨hp1, hp2⟩ := pick_lt A n (by omega)
    have HD := hide (H1.out.vol (fun k' W hW => pl_deliver hW (pickOf A n)))
    have HDr := hide (H1.out.vol (fun k' W hW => pl_drop hW (pickOf A n)))
    have HC := hide (H1.out.vol (fun k' W hW => pl_copy hW (pickOf A n)))
    have HS1 := hide (PSame.vol (P := P) (goes_deliver HI.out.inv HI.out.saf (pickOf A n)))
    have HS2 := hide (PSame.vol (P := P) (goes_drop HI.out.saf (pickOf A n)))
    have HS3 := hide (PSame.vol (P := P) (goes_copy HI.out.saf (pickOf A n)))
    rw [deliver_ok hp1 (by rw [← HN.out]; exact hp2)] at HD
    rw [err12_ok hp1 (by rw [← HN.out]; exact hp2)] at HDr HC
    generalize pickOf A n = x at *
    rcases hK with rfl | rfl | rfl
    · go_enter Try.func27, Try.ntmps27
      go_wp2_with fail
      refine HF.out.mono ?_
      rintro e1 w1 ⟨rfl, hw1⟩
      subst hw1
      go_wp2_with fail
      refine (HPk.out _).mono ?_
      rintro e2 w2 ⟨rfl, hw2⟩
      subst hw2
      go_wp2_with fail
      refine HD.out.mono ?_
      rintro e3 w3 ⟨rfl, h3⟩
      go_wp2_with fail
      go_ret
      exact ⟨rfl, h3.actP HS1.out⟩
    · go_enter Try.func27, Try.ntmps27
      go_wp2_with fail
      refine HF.out.mono ?_
      rintro e1 w1 ⟨rfl, hw1⟩
      subst hw1
      go_wp2_with fail
      refine (HPk.out _).mono ?_
      rintro e2 w2 ⟨rfl, hw2⟩
      subst hw2
      go_wp2_with fail
      refine HDr.out.mono ?_
      rintro e3 w3 ⟨rfl, h3⟩
      go_wp2_with fail
      go_ret
      exact ⟨rfl, h3.actP HS2.out⟩
    · go_enter Try.func27, Try.ntmps27
      go_wp2_with fail
      refine HF.out.mono ?_
      rintro e1 w1 ⟨rfl, hw1⟩
      subst hw1
      go_wp2_with fail
      refine (HPk.out _).mono ?_
      rintro e2 w2 ⟨rfl, hw2⟩
      subst hw2
      go_wp2_with fail
      refine HC.out.mono ?_
      rintro e3 w3 ⟨rfl, h3⟩
      go_wp2_with fail
      go_ret
      exact ⟨rfl, h3.actP HS3.out⟩

set_option maxRecDepth 3000 in
set_option maxHeartbeats 8000000 in
theorem pl_network_arrive {k : Nat → Nat} {w : World} {b px : Nat} {P : PSt} (h : Pl k w b px P) (A B : Int) (hA : i64R A) :
    Calls Try.prog 27 #[.pointer (some ⟨b, 0, none⟩), .agg #[.int .i64 12, .int .i64 A, .int .i64 B]] w fun e w' => e = .returned (.bool true) ∧ ActP k w w' b px P := by
  have h1 := (ASt.start h).box 31 [.int .i64 12, .int .i64 A, .int .i64 B]
  have hfly := h.2.inv.fly
  have hfl := h.2.inv.fl
  obtain ⟨z0, hbl⟩ := h.ptr
  have hbg : ¬ b = w.heap.size := by omega
  obtain ⟨n, hn⟩ : ∃ n, n = flightOf P.r.net := ⟨_, rfl⟩
  have HF := hide h1.flight
  rw [← hn] at HF hfly
  have HN := hide hn
  have H1 := hide h1
  have HI := hide h.2
  unfold i64R at hA
  clear h hn h1
  by_cases h0 : n = 0
  · subst h0
    go_enter Try.func27, Try.ntmps27
    go_wp2_with fail
    refine HF.out.mono ?_
    rintro e1 w1 ⟨rfl, hw1⟩
    subst hw1
    go_wp2_with fail
    go_ret
    exact ⟨rfl, H1.out.actP (PSame.refl HI.out)⟩
  · have hz : ((n : Int) == 0) = false := by simp; omega
    have HPk := hide (fun W => pickN_any W A n hA.1 hA.2 (by omega) (by omega))
    have HPm := hide (fun W => pickN_any W A 60 hA.1 hA.2 (by omega) (by omega))
    obtain ⟨hm1, hm2⟩ := pick_lt A 60 (by omega)
    generalize pickOf A n = x at *
    obtain ⟨q, hq⟩ : ∃ q : Nat, pickOf A 60 = (q : Int) := ⟨(pickOf A 60).toNat, by omega⟩
    rw [hq] at HPm hm2
    clear hq hm1
    have hq60 : q < 60 := by omega
    clear hm2
    go_enter Try.func27, Try.ntmps27
    go_wp2_with fail
    refine HF.out.mono ?_
    rintro e1 w1 ⟨rfl, hw1⟩
    subst hw1
    go_wp2_with fail
    refine (HPk.out _).mono ?_
    rintro e2 w2 ⟨rfl, hw2⟩
    subst hw2
    go_wp2_with fail
    go_loopw [5, 7, 8] (fun vn ve vi wr => ve = .int .i64 0 ∧ ∃ j : Nat, j ≤ q + 1 ∧ vi = .int .i64 j ∧ ∃ P', vn = .int .i64 (flightOf P'.r.net) ∧ Hid (PSame P P' ∧ ASt k w wr b px P' [(w.heap.size, 31, [.int .i64 12, .int .i64 A, .int .i64 B])])) (fun _ _ vi _ => q + 1 - (intOf vi).toNat)
    case atStart => exact ⟨rfl, 0, Nat.zero_le _, rfl, P, by rw [HN.out], hide ⟨PSame.refl HI.out, H1.out⟩⟩
    case round =>
      obtain ⟨rfl, j, hj, rfl, P', rfl, hst⟩ := hrel
      obtain ⟨a0, a1, a2, al⟩ := hst.out.2.act
      obtain ⟨y0, yl⟩ := hst.out.2.ptr
      have hfly' := hst.out.2.inv.inv.fly
      have hfl' := hst.out.2.inv.inv.fl
      have HD := hide (hst.out.2.vol (fun k' W hW => pl_deliver hW 0))
      have HDo : Hid (0 < flightOf P'.r.net → (P'.r.deliver 0).2 = 0) := hide (fun hp => deliver_ok (by omega) (by omega))
      have HS1 := hide (hst.out.1.trans (PSame.vol (P := P') (goes_deliver hst.out.2.inv.inv hst.out.2.inv.saf 0)))
      obtain ⟨f, hf⟩ : ∃ f, f = flightOf P'.r.net := ⟨_, rfl⟩
      rw [← hf] at HDo hfly' ⊢
      have HFe := hide hf
      clear hf
      by_cases hjq : j ≤ q
      · have d1 : decide ((j : Int) ≤ (q : Int)) = true := by simp; omega
        by_cases hf0 : 0 < f
        · have d2 : decide ((0 : Int) < (f : Int)) = true := by simp; omega
          have d3 : decide (0 < f) = true := by simpa using hf0
          rw [HDo.out hf0] at HD
          go_wp2_with fail
          refine (HPm.out _).mono ?_
          rintro e4 w4 ⟨rfl, hw4⟩
          subst hw4
          go_wp2_with fail
          refine HD.out.mono ?_
          rintro e5 w5 ⟨rfl, h5⟩
          have HF5 := hide h5.flight
          obtain ⟨u0, ul⟩ := h5.ptr
          have H5 := hide h5
          clear h5
          go_wp2_with fail
          refine HF5.out.mono ?_
          rintro e6 w6 ⟨rfl, hw6⟩
          subst hw6
          go_wp2_with fail
          go_roundw
          case rel => exact ⟨rfl, j + 1, by omega, by go_num, P'.vol (P'.r.deliver 0).1, rfl, hide ⟨HS1.out, H5.out⟩⟩
          case measure => simp [intOf]; omega
        · have d2 : decide ((0 : Int) < (f : Int)) = false := by simp; omega
          have d3 : decide (0 < f) = false := by simpa using hf0
          have d4 : ¬ 0 < f := hf0
          go_wp2_with fail
          refine (HPm.out _).mono ?_
          rintro e4 w4 ⟨rfl, hw4⟩
          subst hw4
          go_wp2_with fail
          go_ret
          exact ⟨rfl, hst.out.2.actP hst.out.1⟩
      · have d1 : decide ((j : Int) ≤ (q : Int)) = false := by simp; omega
        have d1' : ¬ j ≤ q := hjq
        go_wp2_with fail
        refine (HPm.out _).mono ?_
        rintro e4 w4 ⟨rfl, hw4⟩
        subst hw4
        go_wp2_with fail
        go_ret
        exact ⟨rfl, hst.out.2.actP hst.out.1⟩
end Go.Proofs.Ytfpbkghcjaonlaa.Sim

/-
  sixfoldlaw's player: act, where segments and the network are told what to do.
-/
namespace Go.Proofs.Ytfpbkghcjaonlaa.Sim
open Go.RowKit

theorem sync_err {r : RVol} (h6 : r.segs.length = 6) {s : Int} (h0 : 0 ≤ s) (hs : s < 6) : (r.sync s).2 = 0 ∨ (r.sync s).2 = 9 := by
  unfold RVol.sync
  rw [if_neg (by omega), List.getElem?_eq_getElem (show s.toNat < r.segs.length by omega)]
  simp only
  split
  · exact .inl rfl
  · exact .inr rfl
theorem crash_err {r : RVol} (h6 : r.segs.length = 6) {s : Int} (h0 : 0 ≤ s) (hs : s < 6) : (r.crash s).2 = 0 ∨ (r.crash s).2 = 9 := by
  unfold RVol.crash
  rw [if_neg (by omega), List.getElem?_eq_getElem (show s.toNat < r.segs.length by omega)]
  simp only
  split
  · exact .inl rfl
  · exact .inr rfl
theorem restart_err {r : RVol} (h6 : r.segs.length = 6) {s : Int} (h0 : 0 ≤ s) (hs : s < 6) : (r.restart s).2 = 0 ∨ (r.restart s).2 = 10 := by
  unfold RVol.restart
  rw [if_neg (by omega), List.getElem?_eq_getElem (show s.toNat < r.segs.length by omega)]
  simp only
  split
  · exact .inr rfl
  · exact .inl rfl
theorem gossip_err {r : RVol} (h6 : r.segs.length = 6) {a b : Int} (h0 : 0 ≤ a) (hs : a < 6) (h2 : 0 ≤ b) (h3 : b < 6) (hne : a ≠ b) : (r.gossip a b).2 = 0 ∨ (r.gossip a b).2 = 9 := by
  unfold RVol.gossip
  rw [if_neg (by omega), List.getElem?_eq_getElem (show a.toNat < r.segs.length by omega)]
  simp only
  split
  · exact .inl rfl
  · exact .inr rfl
theorem resend_err {r : RVol} {i : Nat} (hi : i < r.pens.length) : (r.resend ((i : Int) + 1)).2 = 0 ∨ (r.resend ((i : Int) + 1)).2 = 4 := by
  have hm : r.may ((i : Int) + 1) = (r.pens[i].stands, if r.pens[i].stands.phase = 4 then 4 else 0) := by
    unfold RVol.may writerAt
    rw [if_neg (by omega), show ((i : Int) + 1).toNat - 1 = i from by omega, List.getElem?_eq_getElem hi]
  unfold RVol.resend
  rw [hm]
  simp only
  by_cases hp : r.pens[i].stands.phase = 4
  · rw [if_pos hp]; simp
  · rw [if_neg hp]
    simp only [ne_eq, not_true_eq_false, if_false]
    split <;> exact .inl rfl

/-- The player goes on. -/
def PStep (P P' : PSt) : Prop := P'.most = P.most ∧ Goes0 P.r P'.r ∧ (P'.pens.length = P.pens.length ∨ ((P.pens.length : Int) < P.most ∧ P'.pens.length = P.pens.length + 1))
theorem PSame.step {P P' : PSt} (h : PSame P P') : PStep P P' := ⟨h.1, h.2.1, .inl h.2.2⟩
def ActS (k : Nat → Nat) (w w' : World) (b px : Nat) (P : PSt) : Prop := ∃ P' k', PStep P P' ∧ Evo k k' cPS w w' ∧ Pl k' w' b px P'
theorem ASt.actS {k : Nat → Nat} {w w' : World} {b px : Nat} {P P' : PSt} {X : List (Nat × Nat × List Value)} (h : ASt k w w' b px P' X) (hs : PStep P P') : ActS k w w' b px P := by
  obtain ⟨k', ev, hp, _⟩ := h
  exact ⟨P', k', hs, ev, hp⟩

set_option maxRecDepth 3000 in
set_option maxHeartbeats 8000000 in
theorem act_sync {k : Nat → Nat} {w : World} {b px : Nat} {P : PSt} (h : Pl k w b px P) (A B : Int) (hA : i64R A) :
    Calls Try.prog 12 #[.pointer (some ⟨b, 0, none⟩), .agg #[.int .i64 4, .int .i64 A, .int .i64 B]] w fun e w' => e = .returned (.bool true) ∧ ActS k w w' b px P := by
  have h1 := (ASt.start h).box 31 [.int .i64 4, .int .i64 A, .int .i64 B]
  obtain ⟨z0, hbl⟩ := h.ptr
  have hbg : ¬ b = w.heap.size := by omega
  have HPs := hide (fun W => pickN_any W A 6 hA.1 hA.2 (by omega) (by omega))
  obtain ⟨hp1, hp2⟩ := pick_lt A 6 (by omega)
  have h6 := h.2.inv.s6
  have H1 := hide h1
  have HI := hide h.2
  clear h1
  have HC := hide (H1.out.vol (fun k' W hW => pl_sync hW (pickOf A 6)))
  have HG := hide (PSame.vol (P := P) (goes_sync HI.out.inv HI.out.saf (pickOf A 6))).step
  have he := sync_err h6 hp1 hp2
  generalize pickOf A 6 = s at *
  generalize (P.r.sync s).2 = er at *
  clear h hA h6 hp1 hp2
  rcases he with rfl | rfl
  all_goals
    go_enter Try.func12, Try.ntmps12
    go_wp2_with fail
    refine (HPs.out _).mono ?_
    rintro e1 w1 ⟨rfl, hw1⟩
    subst hw1
    go_wp2_with fail
    refine HC.out.mono ?_
    rintro e2 w2 ⟨rfl, h2⟩
    go_wp2_with fail
    go_ret
    exact ⟨rfl, h2.actS HG.out⟩

set_option maxRecDepth 3000 in
set_option maxHeartbeats 8000000 in
theorem act_crash {k : Nat → Nat} {w : World} {b px : Nat} {P : PSt} (h : Pl k w b px P) (A B : Int) (hA : i64R A) :
    Calls Try.prog 12 #[.pointer (some ⟨b, 0, none⟩), .agg #[.int .i64 6, .int .i64 A, .int .i64 B]] w fun e w' => e = .returned (.bool true) ∧ ActS k w w' b px P := by
  have h1 := (ASt.start h).box 31 [.int .i64 6, .int .i64 A, .int .i64 B]
  obtain ⟨z0, hbl⟩ := h.ptr
  have hbg : ¬ b = w.heap.size := by omega
  have HPs := hide (fun W => pickN_any W A 6 hA.1 hA.2 (by omega) (by omega))
  obtain ⟨hp1, hp2⟩ := pick_lt A 6 (by omega)
  have h6 := h.2.inv.s6
  have H1 := hide h1
  have HI := hide h.2
  clear h1
  have HC := hide (H1.out.vol (fun k' W hW => pl_crash hW (pickOf A 6)))
  have HG := hide (PSame.vol (P := P) (goes_crash HI.out.inv HI.out.saf (pickOf A 6))).step
  have he := crash_err h6 hp1 hp2
  generalize pickOf A 6 = s at *
  generalize (P.r.crash s).2 = er at *
  clear h hA h6 hp1 hp2
  rcases he with rfl | rfl
  all_goals
    go_enter Try.func12, Try.ntmps12
    go_wp2_with fail
    refine (HPs.out _).mono ?_
    rintro e1 w1 ⟨rfl, hw1⟩
    subst hw1
    go_wp2_with fail
    refine HC.out.mono ?_
    rintro e2 w2 ⟨rfl, h2⟩
    go_wp2_with fail
    go_ret
    exact ⟨rfl, h2.actS HG.out⟩

set_option maxRecDepth 3000 in
set_option maxHeartbeats 8000000 in
theorem act_restart {k : Nat → Nat} {w : World} {b px : Nat} {P : PSt} (h : Pl k w b px P) (A B : Int) (hA : i64R A) :
    Calls Try.prog 12 #[.pointer (some ⟨b, 0, none⟩), .agg #[.int .i64 7, .int .i64 A, .int .i64 B]] w fun e w' => e = .returned (.bool true) ∧ ActS k w w' b px P := by
  have h1 := (ASt.start h).box 31 [.int .i64 7, .int .i64 A, .int .i64 B]
  obtain ⟨z0, hbl⟩ := h.ptr
  have hbg : ¬ b = w.heap.size := by omega
  have HPs := hide (fun W => pickN_any W A 6 hA.1 hA.2 (by omega) (by omega))
  obtain ⟨hp1, hp2⟩ := pick_lt A 6 (by omega)
  have h6 := h.2.inv.s6
  have H1 := hide h1
  have HI := hide h.2
  clear h1
  have HC := hide (H1.out.vol (fun k' W hW => pl_restart hW (pickOf A 6)))
  have HG := hide (PSame.vol (P := P) (goes_restart HI.out.inv HI.out.saf (pickOf A 6))).step
  have he := restart_err h6 hp1 hp2
  generalize pickOf A 6 = s at *
  generalize (P.r.restart s).2 = er at *
  clear h hA h6 hp1 hp2
  rcases he with rfl | rfl
  all_goals
    go_enter Try.func12, Try.ntmps12
    go_wp2_with fail
    refine (HPs.out _).mono ?_
    rintro e1 w1 ⟨rfl, hw1⟩
    subst hw1
    go_wp2_with fail
    refine HC.out.mono ?_
    rintro e2 w2 ⟨rfl, h2⟩
    go_wp2_with fail
    go_ret
    exact ⟨rfl, h2.actS HG.out⟩

set_option maxRecDepth 3000 in
set_option maxHeartbeats 8000000 in
theorem act_net {k : Nat → Nat} {w : World} {b px : Nat} {P : PSt} (h : Pl k w b px P) (K A B : Int) (hA : i64R A) (hK : K = 9 ∨ K = 10 ∨ K = 11 ∨ K = 12) :
    Calls Try.prog 12 #[.pointer (some ⟨b, 0, none⟩), .agg #[.int .i64 K, .int .i64 A, .int .i64 B]] w fun e w' => e = .returned (.bool true) ∧ ActS k w w' b px P := by
  have h1 := (ASt.start h).box 31 [.int .i64 K, .int .i64 A, .int .i64 B]
  obtain ⟨z0, hbl⟩ := h.ptr
  have hbg : ¬ b = w.heap.size := by omega
  have HPs := hide (fun W => pickN_any W A 6 hA.1 hA.2 (by omega) (by omega))
  obtain ⟨hp1, hp2⟩ := pick_lt A 6 (by omega)
  have h6 := h.2.inv.s6
  have H1 := hide h1
  have HI := hide h.2
  clear h1
  have HC : Hid (Calls Try.prog 27 #[.pointer (some ⟨b, 0, none⟩), .agg #[.int .i64 K, .int .i64 A, .int .i64 B]] (w.alloc (Obj.cells #[.int .i64 K, .int .i64 A, .int .i64 B] 31)) fun e w' => e = .returned (.bool true) ∧ ActS k w w' b px P) := hide (by
    obtain ⟨k1, ev1, hp1, _⟩ := H1.out
    have hc : Calls Try.prog 27 #[.pointer (some ⟨b, 0, none⟩), .agg #[.int .i64 K, .int .i64 A, .int .i64 B]] (w.alloc (Obj.cells #[.int .i64 K, .int .i64 A, .int .i64 B] 31)) fun e w' => e = .returned (.bool true) ∧ ActP k1 (w.alloc (Obj.cells #[.int .i64 K, .int .i64 A, .int .i64 B] 31)) w' b px P := by
      rcases hK with rfl | rfl | rfl | rfl
      · exact pl_network_one hp1 9 A B hA (by decide)
      · exact pl_network_one hp1 10 A B hA (by decide)
      · exact pl_network_one hp1 11 A B hA (by decide)
      · exact pl_network_arrive hp1 A B hA
    refine hc.mono ?_
    rintro e w' ⟨rfl, P', k', hs, ev, hp⟩
    exact ⟨rfl, P', k', hs.step, ev1.trans ev, hp⟩)
  generalize pickOf A 6 = s at *
  clear h hA h6 hp1 hp2
  rcases hK with rfl | rfl | rfl | rfl
  all_goals
    go_enter Try.func12, Try.ntmps12
    go_wp2_with fail
    refine (HPs.out _).mono ?_
    rintro e1 w1 ⟨rfl, hw1⟩
    subst hw1
    go_wp2_with fail
    refine HC.out.mono ?_
    rintro e2 w2 ⟨rfl, h2⟩
    go_wp2_with fail
    go_ret
    exact ⟨rfl, h2⟩

set_option maxRecDepth 3000 in
set_option maxHeartbeats 8000000 in
theorem act_gossip {k : Nat → Nat} {w : World} {b px : Nat} {P : PSt} (h : Pl k w b px P) (A B : Int) (hA : i64R A) (hB : i64R B) :
    Calls Try.prog 12 #[.pointer (some ⟨b, 0, none⟩), .agg #[.int .i64 5, .int .i64 A, .int .i64 B]] w fun e w' => e = .returned (.bool true) ∧ ActS k w w' b px P := by
  have h1 := (ASt.start h).box 31 [.int .i64 5, .int .i64 A, .int .i64 B]
  obtain ⟨z0, hbl⟩ := h.ptr
  have hbg : ¬ b = w.heap.size := by omega
  have HPs := hide (fun W => pickN_any W A 6 hA.1 hA.2 (by omega) (by omega))
  obtain ⟨hp1, hp2⟩ := pick_lt A 6 (by omega)
  have h6 := h.2.inv.s6
  have H1 := hide h1
  have HI := hide h.2
  clear h1
  obtain ⟨hq1, hq2⟩ := pick_lt B 5 (by omega)
  have HPb := hide (fun W => pickN_any W B 5 hB.1 hB.2 (by omega) (by omega))
  obtain ⟨s, hs⟩ : ∃ s, s = pickOf A 6 := ⟨_, rfl⟩
  obtain ⟨t, ht⟩ : ∃ t, t = pickOf B 5 := ⟨_, rfl⟩
  rw [← hs] at HPs hp1 hp2
  rw [← ht] at HPb hq1 hq2
  clear hs ht
  have hw1 : IntKind.i64.wrap (s + 1) = s + 1 := by rw [IntKind.wrap_i64] <;> omega
  have hw2 : IntKind.i64.wrap (s + 1 + t) = s + 1 + t := by rw [IntKind.wrap_i64] <;> omega
  have ht : Int.tmod (s + 1 + t) 6 = (s + 1 + t) % 6 := Int.tmod_eq_emod_of_nonneg (by omega)
  have hr1 : 0 ≤ (s + 1 + t) % 6 := Int.emod_nonneg _ (by omega)
  have hr2 : (s + 1 + t) % 6 < 6 := Int.emod_lt_of_pos _ (by omega)
  have hw3 : IntKind.i64.wrap ((s + 1 + t) % 6) = (s + 1 + t) % 6 := by rw [IntKind.wrap_i64] <;> omega
  have hne : s ≠ (s + 1 + t) % 6 := by omega
  have HC := hide (H1.out.drew.vol (fun k' W hW => pl_gossip hW s ((s + 1 + t) % 6)))
  have HG := hide (PSame.vol (P := P) (goes_gossip HI.out.saf s ((s + 1 + t) % 6))).step
  have he := gossip_err h6 hp1 hp2 hr1 hr2 hne
  have y0 : (w.alloc (Obj.cells #[.int .i64 5, .int .i64 A, .int .i64 B] 31)).cell? ⟨b, 0, none⟩ = some (.pointer (some ⟨px, 0, none⟩)) := H1.out.ptr.1
  have y2 : (w.alloc (Obj.cells #[.int .i64 5, .int .i64 A, .int .i64 B] 31)).cell? ⟨w.heap.size, 2, none⟩ = some (.int .i64 B) := H1.out.act.2.2.1
  generalize (P.r.gossip s ((s + 1 + t) % 6)).2 = er at *
  clear h hA hB h6 hp1 hp2 hq1 hq2 hr1 hr2 hne
  rcases he with rfl | rfl
  all_goals
    go_enter Try.func12, Try.ntmps12
    go_wp2_with fail
    refine (HPs.out _).mono ?_
    rintro e1 w1 ⟨rfl, hw1⟩
    subst hw1
    go_wp2_with fail
    go_region_held3 (fun W => W.cell? ⟨b, 0, none⟩ = some (.pointer (some ⟨px, 0, none⟩)) ∧ W.cell? ⟨w.heap.size, 2, none⟩ = some (.int .i64 B)) (first | exact ⟨y0, y2⟩ | exact HSx)
      (first
        | (go_at_call 22; refine (HPb.out _).mono ?_; rintro e2 w2 ⟨rfl, hw2⟩; subst hw2)
        | (go_at_call 29; refine HC.out.mono ?_; rintro e2 w2 ⟨rfl, h2⟩; have HSx := And.intro h2.ptr.1 h2.act.2.2.1; have H2x := hide h2; clear h2))
    clear HSx
    go_wp2_with fail
    go_ret
    exact ⟨rfl, H2x.out.actS HG.out⟩

end Go.Proofs.Ytfpbkghcjaonlaa.Sim

/-
  sixfoldlaw's player: act, where writers are told what to do.
-/
namespace Go.Proofs.Ytfpbkghcjaonlaa.Sim
open Go.RowKit

theorem ASt.drewN {k : Nat → Nat} {w wr : World} {b px : Nat} {P : PSt} {X : List (Nat × Nat × List Value)} (h : ASt k w wr b px P X) (n : Nat) : ASt k w (wr.drewN n) b px P X := by
  obtain ⟨k', ev, hp, hX⟩ := h
  have e2 : Evo k' k' noC wr (wr.drewN n) := (Evo.refl k' noC wr).drewN n
  exact ⟨k', ev.trans (e2.mono (fun _ h => h.elim)), hp.evo e2 (fun c _ _ => noC_not c) (noC_not _), fun x hx => (hX x hx).evo e2 (noC_not _)⟩
theorem Pl.most {k : Nat → Nat} {w : World} {b px : Nat} {P : PSt} (h : Pl k w b px P) : w.cell? ⟨b, 4, none⟩ = some (.int .i64 P.most) := by
  obtain ⟨vP, gs, ho⟩ := h.1.2
  exact ho.blk.cell 4

set_option maxRecDepth 3000 in
set_option maxHeartbeats 8000000 in
theorem act_open {k : Nat → Nat} {w : World} {b px : Nat} {P : PSt} (h : Pl k w b px P) (A B : Int) (hA : i64R A) (hm : P.most ≤ 9) :
    Calls Try.prog 12 #[.pointer (some ⟨b, 0, none⟩), .agg #[.int .i64 1, .int .i64 A, .int .i64 B]] w fun e w' => e = .returned (.bool true) ∧ ActS k w w' b px P := by
  have h1 := (ASt.start h).box 31 [.int .i64 1, .int .i64 A, .int .i64 B]
  obtain ⟨a, cap, z3, hbl, -⟩ := h.arr
  have z4 := h.most
  have hbg : ¬ b = w.heap.size := by omega
  have HPs := hide (fun W => pickN_any W A 6 hA.1 hA.2 (by omega) (by omega))
  generalize pickOf A 6 = s at *
  have hlen := h.2.len
  have H1 := hide h1
  have HI := hide h.2
  by_cases hc : P.most ≤ (P.pens.length : Int)
  · have d1 : decide (P.most ≤ (P.pens.length : Int)) = true := by simpa using hc
    clear h hA hm hlen hc h1
    go_enter Try.func12, Try.ntmps12
    go_wp2_with fail
    refine (HPs.out _).mono ?_
    rintro e1 w1 ⟨rfl, hw1⟩
    subst hw1
    go_wp2_with fail
    go_region
    go_wp2_with fail
    go_ret
    exact ⟨rfl, H1.out.drew.actS (PSame.refl HI.out).step⟩
  · have d1 : decide (P.most ≤ (P.pens.length : Int)) = false := by simpa using hc
    have HO := hide (H1.out.drew.call (Q := fun e P' => e = .returned (.bool true) ∧ P' = P.opened) (fun k' W hW => (pl_open hW (by omega)).mono (fun e w' ⟨e1, k2, e2, e3⟩ => ⟨P.opened, k2, ⟨e1, rfl⟩, e2, e3⟩)))
    have HS : Hid (PStep P P.opened) := hide ⟨rfl, (goes_open HI.out.inv HI.out.saf).toGoes0, .inr ⟨by omega, by simp [PSt.opened]⟩⟩
    clear h hA hm hlen hc h1
    go_enter Try.func12, Try.ntmps12
    go_wp2_with fail
    refine (HPs.out _).mono ?_
    rintro e1 w1 ⟨rfl, hw1⟩
    subst hw1
    go_wp2_with fail
    go_region
    go_wp2_with fail
    refine HO.out.mono ?_
    rintro e2 w2 ⟨P', ⟨rfl, rfl⟩, h2⟩
    go_wp2_with fail
    go_ret
    exact ⟨rfl, h2.actS HS.out⟩

set_option maxRecDepth 3000 in
set_option maxHeartbeats 8000000 in
theorem act_resend {k : Nat → Nat} {w : World} {b px : Nat} {P : PSt} (h : Pl k w b px P) (A B : Int) (hA : i64R A) (h0 : 0 < P.pens.length) :
    Calls Try.prog 12 #[.pointer (some ⟨b, 0, none⟩), .agg #[.int .i64 2, .int .i64 A, .int .i64 B]] w fun e w' => e = .returned (.bool true) ∧ ActS k w w' b px P := by
  have h1 := (ASt.start h).box 31 [.int .i64 2, .int .i64 A, .int .i64 B]
  obtain ⟨a, cap, z3, hbl, -⟩ := h.arr
  have z0 := h.ptr.1
  have hbg : ¬ b = w.heap.size := by omega
  have h9 := h.2.p9
  have HPs := hide (fun W => pickN_any W A 6 hA.1 hA.2 (by omega) (by omega))
  have HPw := hide (fun W => pickN_any W A (P.pens.length : Int) hA.1 hA.2 (by omega) (by omega))
  obtain ⟨hp1, hp2⟩ := pick_lt A (P.pens.length : Int) (by omega)
  obtain ⟨i, hi⟩ : ∃ i : Nat, pickOf A (P.pens.length : Int) = (i : Int) := ⟨(pickOf A (P.pens.length : Int)).toNat, by omega⟩
  rw [hi] at HPw hp2
  clear hi hp1
  have hil : i < P.pens.length := by omega
  have hlen := h.2.len
  generalize pickOf A 6 = s at *
  have hw1 : IntKind.i64.wrap (1 + (i : Int)) = (i : Int) + 1 := by rw [IntKind.wrap_i64] <;> omega
  have d0 : ((P.pens.length : Int) == 0) = false := by rw [beq_eq_false_iff_ne]; omega
  have d0' : (P.pens.length == 0) = false := by rw [beq_eq_false_iff_ne]; omega
  have H1 := hide (fun n => h1.drewN n)
  have HI := hide h.2
  clear h1
  have HC := hide (fun n => (H1.out n).vol (fun k' W hW => pl_resend hW ((i : Int) + 1)))
  have HG := hide (PSame.vol (P := P) (goes_resend HI.out.saf ((i : Int) + 1))).step
  have he := resend_err (r := P.r) (i := i) (by omega)
  generalize (P.r.resend ((i : Int) + 1)).2 = er at *
  clear h hA h9 hp2 hil hlen
  rcases he with rfl | rfl
  all_goals
    go_enter Try.func12, Try.ntmps12
    go_wp2_with fail
    refine (HPs.out _).mono ?_
    rintro e1 w1 ⟨rfl, hw1⟩
    subst hw1
    go_wp2_with fail
    go_quiet ((go_at_call 22; exact Calls.quiet_of_same (HPw.out _)))
    go_wp2_with fail
    refine (HC.out _).mono ?_
    rintro e2 w2 ⟨rfl, h2⟩
    go_wp2_with fail
    go_ret
    exact ⟨rfl, h2.actS HG.out⟩

set_option maxRecDepth 3000 in
set_option maxHeartbeats 8000000 in
theorem act_append {k : Nat → Nat} {w : World} {b px : Nat} {P : PSt} (h : Pl k w b px P) (A B : Int) (hA : i64R A) (h0 : 0 < P.pens.length) :
    Calls Try.prog 12 #[.pointer (some ⟨b, 0, none⟩), .agg #[.int .i64 3, .int .i64 A, .int .i64 B]] w fun e w' => e = .returned (.bool true) ∧ ActS k w w' b px P := by
  have h1 := (ASt.start h).box 31 [.int .i64 3, .int .i64 A, .int .i64 B]
  obtain ⟨a, cap, z3, hbl, -⟩ := h.arr
  have z0 := h.ptr.1
  have hbg : ¬ b = w.heap.size := by omega
  have h9 := h.2.p9
  have HPs := hide (fun W => pickN_any W A 6 hA.1 hA.2 (by omega) (by omega))
  have HPw := hide (fun W => pickN_any W A (P.pens.length : Int) hA.1 hA.2 (by omega) (by omega))
  obtain ⟨hp1, hp2⟩ := pick_lt A (P.pens.length : Int) (by omega)
  obtain ⟨i, hi⟩ : ∃ i : Nat, pickOf A (P.pens.length : Int) = (i : Int) := ⟨(pickOf A (P.pens.length : Int)).toNat, by omega⟩
  rw [hi] at HPw hp2
  clear hi hp1
  have hil : i < P.pens.length := by omega
  have hlen := h.2.len
  generalize pickOf A 6 = s at *
  have hw1 : IntKind.i64.wrap (1 + (i : Int)) = (i : Int) + 1 := by rw [IntKind.wrap_i64] <;> omega
  have d0 : ((P.pens.length : Int) == 0) = false := by rw [beq_eq_false_iff_ne]; omega
  have d0' : (P.pens.length == 0) = false := by rw [beq_eq_false_iff_ne]; omega
  have H1 := hide (fun n => h1.drewN n)
  have HI := hide h.2
  clear h1
  have HS1 : Hid (PStep P (P.appended i B)) := hide ⟨rfl, (goes_append HI.out.inv HI.out.saf ((i : Int) + 1) B).2.1, .inl (by unfold PSt.appended; simp only; split <;> simp)⟩
  have HS0 := hide (PSame.refl HI.out).step
  by_cases he : (P.r.append ((i : Int) + 1) B).2.2 = 0
  · have HC := hide (fun n => (H1.out n).call (Q := fun e P' => e = .returned (.tuple #[.bool true, .bool true]) ∧ P' = P.appended i B) (fun k' W hW => (pl_appends_yes hW i hil B he).mono (fun e w' ⟨e1, k2, e2, e3⟩ => ⟨P.appended i B, k2, ⟨e1, rfl⟩, e2, e3⟩)))
    clear h hA h9 hp2 hil hlen he
    go_enter Try.func12, Try.ntmps12
    go_wp2_with fail
    refine (HPs.out _).mono ?_
    rintro e1 w1 ⟨rfl, hw1⟩
    subst hw1
    go_wp2_with fail
    go_quiet ((go_at_call 22; exact Calls.quiet_of_same (HPw.out _)))
    go_wp2_with fail
    refine (HC.out _).mono ?_
    rintro e2 w2 ⟨P', ⟨rfl, rfl⟩, h2⟩
    go_wp2_with fail
    go_ret
    exact ⟨rfl, h2.actS HS1.out⟩
  · have HC := hide (fun n => (H1.out n).call (Q := fun e P' => e = .returned (.tuple #[.bool false, .bool true]) ∧ P' = P) (fun k' W hW => (pl_appends_no hW i hil B he).mono (fun e w' ⟨e1, k2, e2, e3⟩ => ⟨P, k2, ⟨e1, rfl⟩, e2, e3⟩)))
    clear h hA h9 hp2 hil hlen he
    go_enter Try.func12, Try.ntmps12
    go_wp2_with fail
    refine (HPs.out _).mono ?_
    rintro e1 w1 ⟨rfl, hw1⟩
    subst hw1
    go_wp2_with fail
    go_quiet ((go_at_call 22; exact Calls.quiet_of_same (HPw.out _)))
    go_wp2_with fail
    refine (HC.out _).mono ?_
    rintro e2 w2 ⟨P', ⟨rfl, rfl⟩, h2⟩
    go_wp2_with fail
    go_ret
    exact ⟨rfl, h2.actS HS0.out⟩

set_option maxRecDepth 3000 in
set_option maxHeartbeats 8000000 in
theorem act_read {k : Nat → Nat} {w : World} {b px : Nat} {P : PSt} (h : Pl k w b px P) (A B : Int) (hA : i64R A) (h0 : 0 < P.pens.length) (hB : i64R B) :
    Calls Try.prog 12 #[.pointer (some ⟨b, 0, none⟩), .agg #[.int .i64 8, .int .i64 A, .int .i64 B]] w fun e w' => e = .returned (.bool true) ∧ ActS k w w' b px P := by
  have h1 := (ASt.start h).box 31 [.int .i64 8, .int .i64 A, .int .i64 B]
  obtain ⟨a, cap, z3, hbl, -⟩ := h.arr
  have z0 := h.ptr.1
  have hbg : ¬ b = w.heap.size := by omega
  have h9 := h.2.p9
  have HPs := hide (fun W => pickN_any W A 6 hA.1 hA.2 (by omega) (by omega))
  have HPw := hide (fun W => pickN_any W A (P.pens.length : Int) hA.1 hA.2 (by omega) (by omega))
  obtain ⟨hp1, hp2⟩ := pick_lt A (P.pens.length : Int) (by omega)
  obtain ⟨i, hi⟩ : ∃ i : Nat, pickOf A (P.pens.length : Int) = (i : Int) := ⟨(pickOf A (P.pens.length : Int)).toNat, by omega⟩
  rw [hi] at HPw hp2
  clear hi hp1
  have hil : i < P.pens.length := by omega
  have hlen := h.2.len
  generalize pickOf A 6 = s at *
  have hw1 : IntKind.i64.wrap (1 + (i : Int)) = (i : Int) + 1 := by rw [IntKind.wrap_i64] <;> omega
  have d0 : ((P.pens.length : Int) == 0) = false := by rw [beq_eq_false_iff_ne]; omega
  have d0' : (P.pens.length == 0) = false := by rw [beq_eq_false_iff_ne]; omega
  have H1 := hide (fun n => h1.drewN n)
  have HI := hide h.2
  clear h1
  have HPb := hide (fun W => pickN_any W B 42 hB.1 hB.2 (by omega) (by omega))
  generalize pickOf B 42 = lsn at *
  have HS : Hid (PStep P (P.readsP i lsn)) := hide (by
    have g := (goes_read HI.out.inv HI.out.saf ((i : Int) + 1) lsn).toGoes0
    unfold PSt.readsP
    split
    · exact ⟨rfl, g, .inl rfl⟩
    · exact ⟨rfl, g, .inl rfl⟩)
  have HC := hide (fun n => (H1.out n).call (Q := fun e P' => e = .returned (.bool true) ∧ P' = P.readsP i lsn) (fun k' W hW => (pl_reads hW i hil lsn).mono (fun e w' ⟨e1, k2, e2, e3⟩ => ⟨P.readsP i lsn, k2, ⟨e1, rfl⟩, e2, e3⟩)))
  clear h hA hB h9 hp2 hil hlen
  · skip
    go_enter Try.func12, Try.ntmps12
    go_wp2_with fail
    refine (HPs.out _).mono ?_
    rintro e1 w1 ⟨rfl, hw1⟩
    subst hw1
    go_wp2_with fail
    go_quiet ((go_at_call 22; exact Calls.quiet_of_same (HPw.out _)))
    go_wp2_with fail
    refine (HPb.out _).mono ?_
    rintro e3 w3 ⟨rfl, hw3⟩
    subst hw3
    go_wp2_with fail
    refine (HC.out _).mono ?_
    rintro e2 w2 ⟨P', ⟨rfl, rfl⟩, h2⟩
    go_wp2_with fail
    go_ret
    exact ⟨rfl, h2.actS HS.out⟩

set_option maxRecDepth 3000 in
set_option maxHeartbeats 8000000 in
theorem act_writer {k : Nat → Nat} {w : World} {b px : Nat} {P : PSt} (h : Pl k w b px P) (A B : Int) (hA : i64R A) (h0 : 0 < P.pens.length) :
    Calls Try.prog 12 #[.pointer (some ⟨b, 0, none⟩), .agg #[.int .i64 16, .int .i64 A, .int .i64 B]] w fun e w' => e = .returned (.bool true) ∧ ActS k w w' b px P := by
  have h1 := (ASt.start h).box 31 [.int .i64 16, .int .i64 A, .int .i64 B]
  obtain ⟨a, cap, z3, hbl, -⟩ := h.arr
  have z0 := h.ptr.1
  have hbg : ¬ b = w.heap.size := by omega
  have h9 := h.2.p9
  have HPs := hide (fun W => pickN_any W A 6 hA.1 hA.2 (by omega) (by omega))
  have HPw := hide (fun W => pickN_any W A (P.pens.length : Int) hA.1 hA.2 (by omega) (by omega))
  obtain ⟨hp1, hp2⟩ := pick_lt A (P.pens.length : Int) (by omega)
  obtain ⟨i, hi⟩ : ∃ i : Nat, pickOf A (P.pens.length : Int) = (i : Int) := ⟨(pickOf A (P.pens.length : Int)).toNat, by omega⟩
  rw [hi] at HPw hp2
  clear hi hp1
  have hil : i < P.pens.length := by omega
  have hlen := h.2.len
  generalize pickOf A 6 = s at *
  have hw1 : IntKind.i64.wrap (1 + (i : Int)) = (i : Int) + 1 := by rw [IntKind.wrap_i64] <;> omega
  have d0 : ((P.pens.length : Int) == 0) = false := by rw [beq_eq_false_iff_ne]; omega
  have d0' : (P.pens.length == 0) = false := by rw [beq_eq_false_iff_ne]; omega
  have H1 := hide (fun n => h1.drewN n)
  have HI := hide h.2
  clear h1
  obtain ⟨p, hp⟩ : ∃ p, P.r.pens[i]? = some p := ⟨P.r.pens[i]'(by omega), List.getElem?_eq_getElem (by omega)⟩
  have HC := hide (fun n => (H1.out n).call (Q := fun e P' => e = .returned (.bool true) ∧ PStep P P') (fun k' W hW => (pl_asks hW i hil p hp).mono (fun e w' ⟨e1, k2, P', e2, e3, e4, e5, e6⟩ => ⟨P', k2, ⟨e1, e6, by rw [e4]; exact Goes0.refl HI.out.saf, .inl (by rw [e5, told_eq hil, List.length_set])⟩, e2, e3⟩)))
  clear h hA h9 hp2 hil hlen hp
  · skip
    go_enter Try.func12, Try.ntmps12
    go_wp2_with fail
    refine (HPs.out _).mono ?_
    rintro e1 w1 ⟨rfl, hw1⟩
    subst hw1
    go_wp2_with fail
    go_quiet ((go_at_call 22; exact Calls.quiet_of_same (HPw.out _)))
    go_wp2_with fail
    refine (HC.out _).mono ?_
    rintro e2 w2 ⟨P', ⟨rfl, hs⟩, h2⟩
    go_wp2_with fail
    go_ret
    exact ⟨rfl, h2.actS hs⟩

set_option maxRecDepth 3000 in
set_option maxHeartbeats 8000000 in
theorem act_other {k : Nat → Nat} {w : World} {b px : Nat} {P : PSt} (h : Pl k w b px P) (K A B : Int) (hA : i64R A) (h0 : 0 < P.pens.length) (hK : (K == 1) = false ∧ (K == 2) = false ∧ (K == 3) = false ∧ (K == 4) = false ∧ (K == 5) = false ∧ (K == 6) = false ∧ (K == 7) = false ∧ (K == 8) = false ∧ (K == 9) = false ∧ (K == 10) = false ∧ (K == 11) = false ∧ (K == 12) = false ∧ (K == 16) = false) :
    Calls Try.prog 12 #[.pointer (some ⟨b, 0, none⟩), .agg #[.int .i64 K, .int .i64 A, .int .i64 B]] w fun e w' => e = .returned (.bool true) ∧ ActS k w w' b px P := by
  have h1 := (ASt.start h).box 31 [.int .i64 K, .int .i64 A, .int .i64 B]
  obtain ⟨a, cap, z3, hbl, -⟩ := h.arr
  have z0 := h.ptr.1
  have hbg : ¬ b = w.heap.size := by omega
  have h9 := h.2.p9
  have HPs := hide (fun W => pickN_any W A 6 hA.1 hA.2 (by omega) (by omega))
  have HPw := hide (fun W => pickN_any W A (P.pens.length : Int) hA.1 hA.2 (by omega) (by omega))
  obtain ⟨hp1, hp2⟩ := pick_lt A (P.pens.length : Int) (by omega)
  obtain ⟨i, hi⟩ : ∃ i : Nat, pickOf A (P.pens.length : Int) = (i : Int) := ⟨(pickOf A (P.pens.length : Int)).toNat, by omega⟩
  rw [hi] at HPw hp2
  clear hi hp1
  have hil : i < P.pens.length := by omega
  have hlen := h.2.len
  generalize pickOf A 6 = s at *
  have hw1 : IntKind.i64.wrap (1 + (i : Int)) = (i : Int) + 1 := by rw [IntKind.wrap_i64] <;> omega
  have d0 : ((P.pens.length : Int) == 0) = false := by rw [beq_eq_false_iff_ne]; omega
  have d0' : (P.pens.length == 0) = false := by rw [beq_eq_false_iff_ne]; omega
  have H1 := hide (fun n => h1.drewN n)
  have HI := hide h.2
  clear h1
  have HS0 := hide (PSame.refl HI.out).step
  obtain ⟨k1, k2, k3, k4, k5, k6, k7, k8, k9, k10, k11, k12, k16⟩ := hK
  clear h hA h9 hp2 hil hlen
  · skip
    go_enter Try.func12, Try.ntmps12
    go_wp2_with fail
    refine (HPs.out _).mono ?_
    rintro e1 w1 ⟨rfl, hw1⟩
    subst hw1
    go_wp2_with fail
    go_quiet ((go_at_call 22; exact Calls.quiet_of_same (HPw.out _)))
    go_wp2_with fail
    go_ret
    exact ⟨rfl, (H1.out _).actS HS0.out⟩

set_option maxRecDepth 3000 in
set_option maxHeartbeats 8000000 in
theorem act_none {k : Nat → Nat} {w : World} {b px : Nat} {P : PSt} (h : Pl k w b px P) (K A B : Int) (hA : i64R A) (h0 : P.pens.length = 0) (hK : (K == 1) = false ∧ (K == 4) = false ∧ (K == 5) = false ∧ (K == 6) = false ∧ (K == 7) = false ∧ (K == 9) = false ∧ (K == 10) = false ∧ (K == 11) = false ∧ (K == 12) = false) :
    Calls Try.prog 12 #[.pointer (some ⟨b, 0, none⟩), .agg #[.int .i64 K, .int .i64 A, .int .i64 B]] w fun e w' => e = .returned (.bool true) ∧ ActS k w w' b px P := by
  have h1 := (ASt.start h).box 31 [.int .i64 K, .int .i64 A, .int .i64 B]
  obtain ⟨a, cap, z3, hbl, -⟩ := h.arr
  have hbg : ¬ b = w.heap.size := by omega
  have HPs := hide (fun W => pickN_any W A 6 hA.1 hA.2 (by omega) (by omega))
  generalize pickOf A 6 = s at *
  rw [h0] at z3
  have H1 := hide h1
  have HI := hide h.2
  obtain ⟨k1, k4, k5, k6, k7, k9, k10, k11, k12⟩ := hK
  clear h hA h0 h1
  go_enter Try.func12, Try.ntmps12
  go_wp2_with fail
  refine (HPs.out _).mono ?_
  rintro e1 w1 ⟨rfl, hw1⟩
  subst hw1
  go_wp2_with fail
  go_ret
  exact ⟨rfl, H1.out.actS (PSame.refl HI.out).step⟩

/-- One act. -/
theorem pl_act {k : Nat → Nat} {w : World} {b px : Nat} {P : PSt} (h : Pl k w b px P) (K A B : Int) (hA : i64R A) (hB : i64R B) (hm : P.most ≤ 9) :
    Calls Try.prog 12 #[.pointer (some ⟨b, 0, none⟩), .agg #[.int .i64 K, .int .i64 A, .int .i64 B]] w fun e w' => e = .returned (.bool true) ∧ ActS k w w' b px P := by
  by_cases c1 : K = 1
  · subst c1; exact act_open h A B hA hm
  by_cases c4 : K = 4
  · subst c4; exact act_sync h A B hA
  by_cases c5 : K = 5
  · subst c5; exact act_gossip h A B hA hB
  by_cases c6 : K = 6
  · subst c6; exact act_crash h A B hA
  by_cases c7 : K = 7
  · subst c7; exact act_restart h A B hA
  by_cases c9 : K = 9 ∨ K = 10 ∨ K = 11 ∨ K = 12
  · exact act_net h K A B hA c9
  by_cases h0 : P.pens.length = 0
  · exact act_none h K A B hA h0 (by simp; omega)
  by_cases c2 : K = 2
  · subst c2; exact act_resend h A B hA (by omega)
  by_cases c3 : K = 3
  · subst c3; exact act_append h A B hA (by omega)
  by_cases c8 : K = 8
  · subst c8; exact act_read h A B hA (by omega) hB
  by_cases c16 : K = 16
  · subst c16; exact act_writer h A B hA (by omega)
  exact act_other h K A B hA (by omega) (by simp; omega)
end Go.Proofs.Ytfpbkghcjaonlaa.Sim
