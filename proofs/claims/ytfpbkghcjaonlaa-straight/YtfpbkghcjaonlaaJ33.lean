import Derived.Test.YtfpbkghcjaonlaaJ32
import Derived.BigQuiet
/-
  sixfoldlaw: Straight, walked.
-/
namespace Go.Proofs.Ytfpbkghcjaonlaa.Sim
open Go.RowKit

set_option maxRecDepth 3000 in
set_option maxHeartbeats 16000000 in
theorem straight_law (w : World) (a b : Int) (ha : i64R a) (hb : i64R b) (va : Option Addr) (vals : List Int) (cap : Nat) (hs : ValsIs w va vals) :
    Calls Try.prog 7 #[.agg #[.int .i64 a, .int .i64 b], .slice va vals.length cap] w fun e w' => e = .returned (.bool true) ∧ Below w.heap.size w w' := by
  have HSc := hide hs
  have HC := hide (fun W => config_any W a b ha hb)
  obtain ⟨n, hnn⟩ : ∃ n, n = vals.length := ⟨_, rfl⟩
  rw [← hnn]
  have HNn := hide hnn
  clear hs ha hb hnn
  go_enter Try.func7, Try.ntmps7
  go_wp2_with fail
  refine (HC.out _).mono ?_
  rintro e1 w1 ⟨wi, fl, rfl, hc, hb1⟩
  have HB1 : Hid (Below w.heap.size w w1) := hide (((Below.refl w.heap.size w).alloc (Nat.le_refl _) _).trans (hb1.mono (by simp)))
  have HPl := hide (lawP_player w w1 HB1.out wi fl 7 hc)
  clear hc hb1
  go_wp2_with fail
  refine HPl.out.mono ?_
  rintro e2 w2 ⟨pb, px, rfl, h2⟩
  have HN := hide (h2.newest (by simp))
  simp only [List.length_nil] at HN
  clear h2 HPl
  have hz : ((((0 : Nat) : Int) + 1) == 0) = false := by decide
  go_wp2_with fail
  refine HN.out.mono ?_
  rintro e3 w3 ⟨P3, ⟨rfl, hnew⟩, h3⟩
  have H3 : Hid (LawP w w3 pb px P3 ∧ StrT vals 0 P3) := hide ⟨h3, by
    obtain ⟨p, q, hp, hq, hl, hd, hv⟩ := hnew.done
    have hk : Kk 1 P3.r := hnew.k
    have hp : P3.r.pens[0]? = some p := hp
    obtain ⟨_, h4, _⟩ := open_of hk hp hd.1
    exact ⟨hk, hnew.len, p, hp, hd.1, base_first hk.saf hk.len hp h4 hv, by rw [hv]; rfl⟩⟩
  clear h3 hnew HN
  go_wp2_with fail
  go_loopw [7] (fun v wr => ∃ j : Nat, j ≤ n ∧ j ≤ 40 ∧ v = .int .i64 j ∧ ∃ P', Hid (LawP w wr pb px P' ∧ StrT vals j P')) (fun v _ => 40 - (intOf v).toNat)
  case atStart => exact ⟨0, Nat.zero_le _, Nat.zero_le _, rfl, P3, H3⟩
  case round =>
    obtain ⟨j, hjn, hj40, rfl, P', hst⟩ := hrel
    by_cases hlt : j < n ∧ j < 40
    · obtain ⟨hltn, hlt40⟩ := hlt
      have hd : decide ((j : Int) < (n : Int)) = true := by simp; omega
      have hd2 : decide ((j : Int) < 40) = true := by simp; omega
      have hjv : j < vals.length := by rw [← HNn.out]; exact hltn
      obtain ⟨sg, so, rfl, hsg, s0⟩ := HSc.out.below hst.out.1.below j hjv
      have hw : IntKind.i64.wrap ((j : Int) + 1) = ((j + 1 : Nat) : Int) := by rw [IntKind.wrap_i64] <;> omega
      have hil : 0 < P'.pens.length := by rw [hst.out.2.len]; decide
      have HNx : Hid (∀ (Q : PSt), StrT vals j Q → (Q.r.append 1 vals[j]).2.2 = 0 → PlInv (Q.appended 0 vals[j]) → StrT vals (j + 1) (Q.appended 0 vals[j])) := hide (fun Q h h0 hi => h.next hjv h0 hi)
      have HVal : Hid (∀ W, Below w.heap.size w W → W.cell? ⟨sg, so + j, none⟩ = some (.int .i64 vals[j]) ∧ sg < W.heap.size) := hide (fun W hW => by
        obtain ⟨g', o', e, q1, q2⟩ := HSc.out.below hW j hjv
        simp only [Option.some.injEq, Addr.mk.injEq, and_true] at e
        obtain ⟨rfl, rfl⟩ := e
        exact ⟨q2, q1⟩)
      by_cases h0 : (P'.r.append 1 vals[j]).2.2 = 0
      · have HA := hide (hst.out.1.appends_yes 0 hil vals[j] h0)
        have HG : Hid (∀ Q, Q = P'.appended 0 vals[j] → PlInv Q → StrT vals (j + 1) Q) := hide (fun Q e hi => by subst e; exact HNx.out P' hst.out.2 h0 hi)
        generalize vals[j] = v at *
        clear hst h0 hil hjv
        go_wp2_with fail
        refine HA.out.mono ?_
        rintro e4 w4 ⟨P4, ⟨rfl, hP4⟩, h4⟩
        have H4 : Hid (LawP w w4 pb px P4 ∧ StrT vals (j + 1) P4) := hide ⟨h4, HG.out P4 hP4 h4.inv⟩
        clear h4 hP4 HA
        go_wp2_with fail
        go_roundw
        case rel => exact ⟨j + 1, by omega, by omega, by go_num, P4, H4⟩
        case measure => simp [intOf]; omega
      · have HA := hide (hst.out.1.appends_no 0 hil vals[j] h0)
        have HSP : Hid (Prog 0 0 P'.r) := hide (by
          obtain ⟨p, hp, h3, _⟩ := hst.out.2.pen
          exact Prog.start3 hst.out.2.k hp h3)
        have HT := hide hst.out.2
        have HV2 := hide hlt40
        generalize vals[j] = v at *
        clear hst h0 hil hjv
        go_wp2_with fail
        refine HA.out.mono ?_
        rintro e4 w4 ⟨P4, ⟨rfl, rfl⟩, h4⟩
        have HS := hide (h4.settle 0 HSP.out)
        clear h4 HA s0 hsg
        go_wp2_with fail
        refine HS.out.mono ?_
        rintro e5 w5 ⟨P5, ⟨rfl, hs5⟩, h5⟩
        obtain ⟨t5, p5, hp5, hd5⟩ := HT.out.settled hs5
        have h05 := t5.next40 HV2.out hp5 hd5 v
        obtain ⟨s0', hsg'⟩ := HVal.out _ h5.below
        have HA5 := hide (h5.appends_yes 0 (by rw [t5.len]; decide) v h05)
        have HG : Hid (∀ Q, Q = P5.appended 0 v → PlInv Q → StrT vals (j + 1) Q) := hide (fun Q e hi => by subst e; exact HNx.out P5 t5 h05 hi)
        clear h5 hs5 t5 hp5 hd5 h05 HS
        go_wp2_with fail
        refine HA5.out.mono ?_
        rintro e6 w6 ⟨P6, ⟨rfl, hP6⟩, h6⟩
        have H6 : Hid (LawP w w6 pb px P6 ∧ StrT vals (j + 1) P6) := hide ⟨h6, HG.out P6 hP6 h6.inv⟩
        clear h6 hP6 HA5
        go_wp2_with fail
        go_roundw
        case rel => exact ⟨j + 1, by omega, by omega, by go_num, P6, H6⟩
        case measure => simp [intOf]; omega
    · have HSP : Hid (Prog 0 0 P'.r) := hide (by
        obtain ⟨p, hp, h3, _⟩ := hst.out.2.pen
        exact Prog.start3 hst.out.2.k hp h3)
      have HS := hide (hst.out.1.settle 0 HSP.out)
      have HT := hide hst.out.2
      have hds : (decide ((j : Int) < (n : Int)) = false ∧ decide (j < n) = false ∧ ¬ j < n) ∨ (decide ((j : Int) < (n : Int)) = true ∧ decide ((j : Int) < 40) = false ∧ decide (j < 40) = false ∧ ¬ j < 40 ∧ decide (j < n) = true ∧ j < n) := by
        by_cases h : j < n
        · exact .inr ⟨by simp; omega, by simp; omega, by simp; omega, by omega, by simp; omega, h⟩
        · exact .inl ⟨by simp; omega, by simp; omega, h⟩
      clear hst hlt
      have hz2 : ((((1 : Nat) : Int) + 1) == 0) = false := by decide
      have hw1 : IntKind.i64.wrap (((1 : Nat) : Int) + 1 - 1) = ((1 : Nat) : Int) := by decide
      have hl01 : ((1 : Nat) : Int) < ((2 : Nat) : Int) := by decide
      have HJ : Hid (j ≤ vals.length) := hide (by rw [← HNn.out]; exact hjn)
      rcases hds with ⟨hd, hd0, hd1⟩ | ⟨hd, hd2, hd3, hd4, hd5, hd6⟩
      all_goals
        go_wp2_with fail
        refine HS.out.mono ?_
        rintro e5 w5 ⟨P5, ⟨rfl, hs5⟩, h5⟩
        obtain ⟨t5, p5, hp5, hd5⟩ := HT.out.settled hs5
        have HN2 := hide (h5.newest (by rw [t5.len]; decide))
        rw [t5.len] at HN2
        obtain ⟨p', hp', h3', hb', hv'⟩ := t5.pen
        rw [hp5] at hp'
        have := Option.some.inj hp'
        subst this
        obtain ⟨f4, ff⟩ := Done.four t5.k hp5 hd5
        have H5 : Hid (P5.r.pens[0]? = some p5 ∧ p5.fenced.length = 4 ∧ fourOf p5.status ((baseOf p5.fenced + p5.values.length : Nat) : Int) = true ∧ baseOf p5.fenced = 0 ∧ p5.values = vals.take j ∧ P5.pens.length = 1) := hide ⟨hp5, f4, ff, hb', hv', t5.len⟩
        clear h5 hs5 t5 hp5 hd5 hp' h3' hb' hv' f4 ff HS
        go_wp2_with fail
        refine HN2.out.mono ?_
        rintro e6 w6 ⟨P6, ⟨rfl, hnew⟩, h6⟩
        obtain ⟨p6, q6, hp6, hq6, hl6, hd6, _⟩ := hnew.done
        have hk6 := hnew.k
        obtain ⟨g1, g2, g3, g4, g5, g6⟩ := H5.out
        rw [g6] at hp6 hq6 hk6
        have hln6 : P6.pens.length = 2 := by rw [hnew.len, g6]
        have hbase := hnew.base h6.inv g6 g1 g2 g3 hp6 hd6.1
        have hlen5 : baseOf p5.fenced + p5.values.length = j := by rw [g4, g5, List.length_take]; have := HJ.out; omega
        rw [hlen5] at hbase g3
        obtain ⟨po, hpo, a1, a2, a3⟩ := hnew.mo 0 p5 g1
        have hfe : po.fenced = p5.fenced := (a1.eq_of_length (by have := a1.length_le; have := (h6.inv.inv.pens 0 po hpo).f4; omega)).symm
        have HRd : Hid (∀ m : Nat, m < j → ∃ x, P6.r.read (((1 : Nat) : Int) + 1) ((m : Int) + 1) = (P6.r, x, 0) ∧ vals[m]? = some x) := hide (fun m hm => by
          have hmv : m < po.values.length := by rw [a3, g5, List.length_take]; have := HJ.out; omega
          have hdur : ((baseOf po.fenced + 1 + m : Nat) : Int) ≤ p6.stands.dur := by
            rw [hd6.2]
            obtain ⟨_, _, _, hst6⟩ := open_of hk6 hp6 hd6.1
            have : p6.stands.next = p6.stands.base + (p6.values.length : Int) := by rw [hst6]
            rw [this, hbase, hfe, g4]
            omega
          have := next_read (i := 0) hk6 hpo (by rw [hfe]; exact g2) (by rw [hfe, a3, hlen5]; exact four_pre a2 g3) hp6 hd6.1 hmv hdur
          rw [hfe, g4] at this
          refine ⟨po.values[m], ?_, ?_⟩
          · rw [show ((m : Int) + 1) = ((0 + 1 + m : Nat) : Int) from by omega]
            exact this
          · have e : po.values = vals.take j := by rw [a3, g5]
            have : (vals.take j)[m]? = some po.values[m] := by rw [← e, List.getElem?_eq_getElem hmv]
            rw [List.getElem?_take, if_pos hm] at this
            exact this)
        obtain ⟨pa, pcap, g, z3, hbl, hpa, z4, hg, c3, -, -⟩ := h6.last hq6
        rw [hln6] at z3
        rw [hl6, hbase] at c3
        have H6 := hide h6
        clear h6 hnew hp6 hq6 hl6 hd6 hk6 g1 g2 g3 g4 g5 g6 hln6 hbase hlen5 hpo a1 a2 a3 hfe HN2
        go_wp2_with fail
        have H7 : Hid (LawP w w6 pb px P6) := H6
        clear z3 hbl hpa z4 hg c3
        go_loopw [12] (fun v wr => ∃ m : Nat, m ≤ j ∧ v = .int .i64 ((m : Int) + 1) ∧ Hid (LawP w wr pb px P6)) (fun v _ => j + 1 - (intOf v).toNat)
        case atStart => exact ⟨0, Nat.zero_le _, rfl, H7⟩
        case round =>
          obtain ⟨m, hm, rfl, hst⟩ := hrel
          by_cases hltm : m < j
          · have hd3 : decide ((m : Int) + 1 ≤ (j : Int)) = true := by simp; omega
            have hwm : IntKind.i64.wrap ((m : Int) + 1 - 1) = (m : Int) := by rw [IntKind.wrap_i64] <;> omega
            have hwm2 : IntKind.i64.wrap ((m : Int) + 1 + 1) = ((m + 1 : Nat) : Int) + 1 := by rw [IntKind.wrap_i64] <;> omega
            obtain ⟨x, hrd, hx⟩ := HRd.out m hltm
            have hmv := (List.getElem?_eq_some_iff.1 hx).1
            have hmx := (List.getElem?_eq_some_iff.1 hx).2
            have hmn : m < n := by rw [HNn.out]; exact hmv
            have hmn2 : (m : Int) < (n : Int) := by omega
            have hz0 := hst.out.ptr
            have hbl := hst.out.lt
            have HR : Hid (Calls Try.prog 21 #[.pointer (some ⟨px, 0, none⟩), .int .i64 (((1 : Nat) : Int) + 1), .int .i64 ((m : Int) + 1)] wr fun e w' => e = .returned (.tuple #[.int .i64 x, .int .i64 0]) ∧ LawP w w' pb px P6) := hide (by
              have := hst.out.read (((1 : Nat) : Int) + 1) ((m : Int) + 1) (by rw [hrd])
              rw [hrd] at this
              refine this.mono ?_
              rintro e w' ⟨P', ⟨e1, rfl⟩, h⟩
              exact ⟨e1, h⟩)
            have HVx : Hid (∀ W, Below w.heap.size w W → ∃ sg so, va = some ⟨sg, so, none⟩ ∧ sg < W.heap.size ∧ W.cell? ⟨sg, so + m, none⟩ = some (.int .i64 x)) := hide (fun W hW => by
              obtain ⟨sg, so, q1, q2, q3⟩ := HSc.out.below hW m hmv
              rw [hmx] at q3
              exact ⟨sg, so, q1, q2, q3⟩)
            clear hst hrd hx hmx hmv
            go_wp2_with fail
            refine HR.out.mono ?_
            rintro e7 w7 ⟨rfl, h7⟩
            obtain ⟨sg, so, rfl, hsg, s0⟩ := HVx.out _ h7.below
            have H7 := hide h7
            clear h7 HR
            go_wp2_with fail
            go_roundw
            case rel => exact ⟨m + 1, by omega, by go_num, H7⟩
            case measure => simp [intOf]; omega
          · have hd3 : decide ((m : Int) + 1 ≤ (j : Int)) = false := by simp; omega
            go_wp2_with fail
            go_ret
            exact ⟨rfl, hst.out.below⟩
end Go.Proofs.Ytfpbkghcjaonlaa.Sim
