import Derived.Test.YtfpbkghcjaonlaaGreatJ06
import Derived.Test.YtfpbkghcjaonlaaGreatJ05
import Derived.Deep.MidRow
import Derived.Deep.WholeRow
import Derived.Deep.RegionWith
/-
  sixfoldlaw: ownRecords.
-/
namespace Go.Proofs.YtfpbkghcjaonlaaGreat
open Go.RowKit

set_option maxHeartbeats 4000000 in
theorem ownRecords_any {k : Nat → Nat} {w : World} {L : Nat → Prop} {b px py nC nR nI cl : Nat} {v : Value} {rows : List (List Value)} (h : LawIs k w L b px py nR nC nI) (hl : Rows k w cl 59 3 v rows) (hcl : ¬ L cl) (hc4 : 204 ≤ cl) (hL : ∀ c, L c → 204 ≤ c)
    (hlen : rows.length ≤ 4000000000) (hnC : nC ≤ 4000000000) :
    Calls Tryz.prog 56 #[.pointer (some ⟨b, 0, none⟩), v] w fun e w' => e = .returned (.tuple #[]) ∧
      ∃ k', Evo k k' (fun c => c = 200 ∨ c = 202 ∨ c = cl) w w' ∧ LawIs k' w' (fun c => L c ∨ c = cl) b px py nR (nC + 4) nI := by
  obtain ⟨vR, vC, vI, hB, oR, oC, oI⟩ := h.ex
  obtain ⟨va, vcap, hvf, _⟩ := hl.form
  obtain ⟨rC, rC1, rC2, rC3⟩ := oC
  obtain ⟨ca, ccap, hcf, _⟩ := rC1.form
  rw [rC2] at hcf
  have z2 : w.cell? ⟨b, 3, none⟩ = some vC := hB.cell 3
  have hbl := hB.lt
  have HM : Hid (∀ W, Calls Tryz.prog 20 #[.int .i64 nC] W fun e w' => e = .returned (.agg #[.int .i64 (-1 - (nC : Int)), .int .i64 (-1), .int .i64 (-1)]) ∧ Below W.heap.size W w') := hide fun W => recordMark_any W nC (by omega)
  subst hvf hcf
  obtain ⟨len, hlr⟩ : ∃ len, rows.length = len := ⟨_, rfl⟩
  rw [hlr] at hl hlen ⊢
  have HLR := hide hlr
  clear hlr
  go_enter Tryz.func56, Tryz.ntmps56
  go_wp2
  go_loopw [5] (fun i wr => Evo k k (fun c => c = cl) w wr ∧ ∃ j : Nat, j ≤ len ∧ i = .int .i64 j ∧ Rows k wr cl 59 3 (.slice va len vcap) (List.replicate j (recMk nC) ++ rows.drop j)) (fun i _ => len - (intOf i).toNat)
  case atStart => exact ⟨Evo.refl _ _ _, 0, Nat.zero_le _, rfl, by simpa using hl⟩
  case round =>
    obtain ⟨hE, j, hj, rfl, hR⟩ := hrel
    have hlr2 : (List.replicate j (recMk nC) ++ rows.drop j).length = len := by have := HLR.out; simp; omega
    generalize hq : List.replicate j (recMk nC) ++ rows.drop j = rws at hR hlr2
    have HQ := hide hq
    clear hq
    by_cases hlt : j < len
    · have hjr : j < rws.length := by omega
      obtain ⟨g, gc, hgf, hgk, hgl, _, hcells, hfr⟩ := hR.at (by omega)
      simp only [Value.slice.injEq] at hgf
      obtain ⟨rfl, -, rfl⟩ := hgf
      obtain ⟨c0, c1, c2, hrow⟩ := three_of (hR.len _ (List.getElem_mem hjr))
      have q0 := hcells j 0 hjr (by omega)
      have q1 := hcells j 1 hjr (by omega)
      have q2 := hcells j 2 hjr (by omega)
      rw [hrow] at q0 q1 q2
      simp only [List.getElem?_cons_zero, List.getElem?_cons_succ, Nat.add_zero] at q0 q1 q2
      have f0 := hfr (j * 3)
      have f1 := hfr (j * 3 + 1)
      have f2 := hfr (j * 3 + 2)
      have HROW := hide hrow
      clear hcells hfr hlr2 hrow
      go_wp2_with fail
      refine (HM.out _).mono ?_
      rintro e1 w1 ⟨rfl, hb1⟩
      have p0 := (hb1.cell (p := ⟨g, j * 3, none⟩) hgl).trans q0
      have p1 := (hb1.cell (p := ⟨g, j * 3 + 1, none⟩) hgl).trans q1
      have p2 := (hb1.cell (p := ⟨g, j * 3 + 2, none⟩) hgl).trans q2
      have u0 := (hb1.frozen (p := ⟨g, j * 3, none⟩) hgl).trans f0
      have u1 := (hb1.frozen (p := ⟨g, j * 3 + 1, none⟩) hgl).trans f1
      have u2 := (hb1.frozen (p := ⟨g, j * 3 + 2, none⟩) hgl).trans f2
      go_wp2_with fail
      go_roundw
      case rel =>
        have eb : Evo k k (fun c => c = cl) wr w1 := Evo.of_below hb1
        have hR1 := hR.evo (Evo.of_below (C := noC) hb1) (noC_not _)
        have hgk1 : k g = cl := hgk
        refine ⟨(((hE.trans eb).setCell _ _ (fun _ => hgk1)).setCell _ _ (fun _ => hgk1)).setCell _ _ (fun _ => hgk1), j + 1, by omega, by go_num, ?_⟩
        have hs0 := hR1.set j 0 hjr (by omega) (.int .i64 (-1 - (nC : Int)))
        have hs1 := hs0.set j 1 (by simpa using hjr) (by omega) (.int .i64 (-1))
        have hs2 := hs1.set j 2 (by simpa using hjr) (by omega) (.int .i64 (-1))
        have er : ∀ (h1 : j < (rws.set j ((rws[j]'hjr).set 0 (.int .i64 (-1 - (nC : Int))))).length) h2, ((rws.set j ((rws[j]'hjr).set 0 (.int .i64 (-1 - (nC : Int))))).set j (((rws.set j ((rws[j]'hjr).set 0 (.int .i64 (-1 - (nC : Int)))))[j]'h1).set 1 (.int .i64 (-1)))).set j ((((rws.set j ((rws[j]'hjr).set 0 (.int .i64 (-1 - (nC : Int))))).set j (((rws.set j ((rws[j]'hjr).set 0 (.int .i64 (-1 - (nC : Int)))))[j]'h1).set 1 (.int .i64 (-1))))[j]'h2).set 2 (.int .i64 (-1))) = rws.set j (recMk nC) := by
          intro h1 h2
          simp [HROW.out, recMk]
        rw [er] at hs2
        rw [← fill_set rows (recMk nC) j (by have := HLR.out; omega), HQ.out]
        exact hs2
      case measure => simp [intOf]; omega
    · have hje : j = len := by omega
      have HV : Hid (Rows k wr cl 59 3 (.slice va len vcap) (List.replicate len (recMk nC))) := hide (by
        have h1 := HQ.out
        rw [hje, List.drop_of_length_le (by have := HLR.out; omega), List.append_nil] at h1
        rw [h1]; exact hR)
      clear hje hR HQ hlr2
      -- the list is written down for the first time
      have hB1 := hB.evo hE (by omega)
      have y2 : wr.cell? ⟨b, 3, none⟩ = _ := hB1.cell 3
      simp only [List.getElem?_cons_zero, List.getElem?_cons_succ] at y2
      have yf := hB1.free 3
      have hbl1 := hB1.lt
      have rC1' := rC1.evo hE (by omega)
      have rC3' : Hid (∀ r ∈ rC, OutOk k wr L 59 3 recMk r ∨ NewOut k wr cl 59 3 (recMk nC) nC len r) := hide fun r hr => .inl ((rC3 r hr).evo hE (fun c hc e => hcl (e ▸ hc)))
      have oR1 := oR.evo hE (fun c hc e => hcl (e ▸ hc)) (by omega)
      have oI1 := oI.evo hE (fun c hc e => hcl (e ▸ hc)) (by omega)
      have e2 : Evo k k noC wr (wr.alloc (Obj.cells #[.slice va len vcap, .int .i64 nC] 57)) := (Evo.refl _ _ _).alloc _
      have rC1a := rC1'.evo e2 (noC_not _)
      have hB1a := hB1.evo e2 (noC_not _)
      have HRC2 := hide rC2
      clear rC2 rC3 oR oI
      go_wp2_with (at_builtin; go_must (refine wpList_append_rows k 202 (.tmp 27) (.tmp 31) 45 57 _ 2 32 _ rC [[.slice va len vcap, .int .i64 nC]] nC ⟨wr.heap.size, 0, none⟩ 1 1 HRC2.out rfl rfl Tryz.underlying45 Tryz.infoRecordsOut rfl (by decide) rfl rfl rC1a rfl (by simp) (by simpa using cell_one_new' wr [.slice va len vcap, .int .i64 nC] 57) (by simp [Value.oneCell']) (by simp only [maxLen]; omega) (by omega) ?_; intro ao1 cap1 w1 k1 hR1 hE1; have x2 : w1.cell? ⟨b, 3, none⟩ = _ := (hB1a.evo hE1 (by omega)).cell 3; simp only [List.getElem?_cons_zero, List.getElem?_cons_succ] at x2; have xf := (hB1a.evo hE1 (by omega)).free 3; have xl := (hB1a.evo hE1 (by omega)).lt))
      obtain ⟨g1, g2, g3⟩ := push_fin e2 hB1a (by decide) hR1 hE1 3
      have hO1 : OwnSt k1 (w1.setCell ⟨b, 3, none⟩ (.slice ao1 (nC + 1) cap1)) L cl 202 57 59 3 recMk nC len (nC + 1) (.slice va len vcap) (.slice ao1 (nC + 1) cap1) := by
        have h1 := OwnSt.push HRC2.out rC3'.out HV.out e2 hR1 hE1 (by omega) (fun c hc e => by have := hL c hc; omega)
        have es : Evo k1 k1 (fun c => c = 200) w1 (w1.setCell ⟨b, 3, none⟩ (.slice ao1 (nC + 1) cap1)) := (Evo.refl _ _ _).setCell _ _ (fun _ => g2.2)
        exact h1.evo es (by omega) (by decide) (fun c hc e => by have := hL c hc; omega)
      have eA : Evo k k1 (fun c => c = 200 ∨ c = 202 ∨ c = cl) w (w1.setCell ⟨b, 3, none⟩ (.slice ao1 (nC + 1) cap1)) := (hE.mono (fun c h => .inr (.inr h))).trans (g1.mono (fun c h => by rcases h with h | h <;> simp [h]))
      have oR2 := oR1.evo g1 (fun c hc e => by have := hL c hc; omega) (by decide)
      have oI2 := oI1.evo g1 (fun c hc e => by have := hL c hc; omega) (by decide)
      have HA : Hid (∃ k2 vC2, Evo k k2 (fun c => c = 200 ∨ c = 202 ∨ c = cl) w (w1.setCell ⟨b, 3, none⟩ (.slice ao1 (nC + 1) cap1)) ∧ Blk k2 (w1.setCell ⟨b, 3, none⟩ (.slice ao1 (nC + 1) cap1)) 200 b 48 [.pointer (some ⟨px, 0, none⟩), .pointer (some ⟨py, 0, none⟩), vR, vC2, vI] ∧
        OwnSt k2 (w1.setCell ⟨b, 3, none⟩ (.slice ao1 (nC + 1) cap1)) L cl 202 57 59 3 recMk nC (len + 0) (nC + 1 + 0) (.slice va len vcap) vC2 ∧ OutsOk k2 (w1.setCell ⟨b, 3, none⟩ (.slice ao1 (nC + 1) cap1)) L 201 51 53 2 cutMk vR nR ∧ OutsOk k2 (w1.setCell ⟨b, 3, none⟩ (.slice ao1 (nC + 1) cap1)) L 203 63 3 1 intMk vI nI) :=
        hide ⟨k1, _, eA, g2, hO1, oR2, oI2⟩
      clear g1 g2 g3 hO1 eA oR2 oI2 oR1 oI1 hR1 hE1 x2 xf xl rC1a hB1a e2 HRC2 rC3' rC1' y2 yf hB1 HV hE rC1 hB z2 h
      go_loopw [1, 6] (fun l i wz => ∃ j : Nat, j ≤ 3 ∧ i = .int .i64 j ∧ (∃ la lc, l = .slice la (len + j) lc) ∧ Hid (∃ k2 vC2, Evo k k2 (fun c => c = 200 ∨ c = 202 ∨ c = cl) w wz ∧ Blk k2 wz 200 b 48 [.pointer (some ⟨px, 0, none⟩), .pointer (some ⟨py, 0, none⟩), vR, vC2, vI] ∧
        OwnSt k2 wz L cl 202 57 59 3 recMk nC (len + j) (nC + 1 + j) l vC2 ∧ OutsOk k2 wz L 201 51 53 2 cutMk vR nR ∧ OutsOk k2 wz L 203 63 3 1 intMk vI nI)) (fun _ i _ => 3 - (intOf i).toNat)
      case atStart => exact ⟨0, by omega, rfl, ⟨va, vcap, rfl⟩, HA⟩
      case round =>
        obtain ⟨j2, hj2, rfl, ⟨la, lc, rfl⟩, HS⟩ := hrel
        by_cases hlt2 : j2 < 3
        · obtain ⟨k2, vC2, eA, hB2, hO2, oR2, oI2⟩ := HS.out
          obtain ⟨rows2, ra, rb, rd, rf⟩ := hO2
          obtain ⟨xa, xc, hxf, _⟩ := ra.form
          rw [rb] at hxf
          subst hxf
          clear HS HA
          go_wp2_with fail
          refine (HM.out _).mono ?_
          rintro e1 wa ⟨rfl, hba⟩
          have ea : Evo k2 k2 noC wr wa := Evo.of_below hba
          have eb : Evo k2 k2 noC wr (wa.alloc (Obj.cells #[.int .i64 (-1 - (nC : Int)), .int .i64 (-1), .int .i64 (-1)] 59)) := ea.alloc _
          have rfa := rf.evo eb (noC_not _)
          have HRB := hide rb
          have HRD := hide rd
          clear rb rd
          have hnw : ∀ j u, ([recMk nC] : List (List Value)).flatten[j]? = some u → (wa.alloc (Obj.cells #[.int .i64 (-1 - (nC : Int)), .int .i64 (-1), .int .i64 (-1)] 59)).cell? ((⟨wa.heap.size, 0, none⟩ : Addr).add j) = some u := fun j u hj => cell_one_new' wa (recMk nC) 59 j u (by simpa using hj)
          have hBb := hB2.evo eb (noC_not _)
          have rab := ra.evo eb (noC_not _)
          go_wp2_with (first
            | (at_builtin; refine wpList_append_rows2 k2 cl (.tmp 39) (.tmp 42) 55 59 _ 3 24 _ (List.replicate (len + j2) (recMk nC)) [recMk nC] (len + j2) ⟨wa.heap.size, 0, none⟩ 1 1 (by simp) rfl rfl Tryz.underlying55 Tryz.infoRecord rfl (by decide) rfl rfl rfa rfl (by simp [recMk]) hnw (by simp [recMk, Value.oneCell']) (by simp only [maxLen]; omega) (by omega) ?_; intro ao2 cap2 w2 k3 hR3 hE3 hkeep; have hBc := hBb.evo hE3 (by omega); have x2 : w2.cell? ⟨b, 3, none⟩ = some (.slice xa (nC + 1 + j2) xc) := hBc.cell 3; have xl := hBc.lt; have rac := rab.evo hE3 (by omega); have ed : Evo k3 k3 noC w2 (w2.alloc (Obj.cells #[.slice ao2 (len + j2 + 1) cap2, .int .i64 nC] 57)) := (Evo.refl _ _ _).alloc _; have rad := rac.evo ed (noC_not _); have hBd := hBc.evo ed (noC_not _))
            | (at_builtin; refine wpList_append_rows k3 202 (.tmp 48) (.tmp 52) 45 57 _ 2 32 _ rows2 [[.slice ao2 (len + j2 + 1) cap2, .int .i64 nC]] (nC + 1 + j2) ⟨w2.heap.size, 0, none⟩ 1 1 HRB.out rfl rfl Tryz.underlying45 Tryz.infoRecordsOut rfl (by decide) rfl rfl rad rfl (by simp) (fun j u hj => cell_one_new' w2 [.slice ao2 (len + j2 + 1) cap2, .int .i64 nC] 57 j u (by simpa using hj)) (by simp [Value.oneCell']) (by simp only [maxLen]; omega) (by omega) ?_; intro ao3 cap3 w3 k4 hR4 hE4; have hBe := hBd.evo hE4 (by decide); have x3 : w3.cell? ⟨b, 3, none⟩ = some (.slice xa (nC + 1 + j2) xc) := hBe.cell 3; have xf3 := hBe.free 3))
          go_roundw
          case rel =>
            have hd3 := grow_rows HRD.out eb hE3 hkeep (fun c hc e => hcl (e ▸ hc))
            have hv3 : Rows k3 w2 cl 59 3 (.slice ao2 (len + j2 + 1) cap2) (List.replicate (len + j2 + 1) (recMk nC)) := by rw [List.replicate_succ']; exact hR3
            have hO4 := OwnSt.push HRB.out hd3 hv3 ed hR4 hE4 (by omega) (fun c hc e => by have := hL c hc; omega)
            obtain ⟨g1, g2, g3⟩ := push_fin ed hBd (by decide) hR4 hE4 3
            have es : Evo k4 k4 (fun c => c = 200) w3 (w3.setCell ⟨b, 3, none⟩ (.slice ao3 (nC + 1 + j2 + 1) cap3)) := (Evo.refl _ _ _).setCell _ _ (fun _ => g2.2)
            have hO5 := hO4.evo es (by omega) (by decide) (fun c hc e => by have := hL c hc; omega)
            have eL : ∀ c, L c → ¬ (c = 200 ∨ c = 202 ∨ c = cl) := fun c hc e => by
              have := hL c hc
              rcases e with e | e | e
              · omega
              · omega
              · exact hcl (e ▸ hc)
            have eT : Evo k2 k4 (fun c => c = 200 ∨ c = 202 ∨ c = cl) wr (w3.setCell ⟨b, 3, none⟩ (.slice ao3 (nC + 1 + j2 + 1) cap3)) :=
              (eb.mono (fun _ h => h.elim)).trans ((hE3.mono (fun c h => .inr (.inr h))).trans (g1.mono (fun c h => by rcases h with h | h <;> simp [h])))
            exact ⟨j2 + 1, by omega, by go_num, ⟨ao2, cap2, rfl⟩, hide ⟨k4, _, eA.trans eT, g2, hO5, oR2.evo eT eL (by omega), oI2.evo eT eL (by omega)⟩⟩
          case measure => simp [intOf]; omega
        · obtain ⟨k2, vC2, eA, hB2, hO2, oR2, oI2⟩ := HS.out
          have hj3 : j2 = 3 := by omega
          subst hj3
          clear HS HA
          go_wp2_with fail
          go_end0
          exact ⟨rfl, k2, eA, ⟨vR, vC2, vI, hB2, oR2.more (fun c h => .inl h), by simpa [Nat.add_assoc] using hO2.outs hnC (by omega), oI2.more (fun c h => .inl h)⟩⟩
end Go.Proofs.YtfpbkghcjaonlaaGreat

/-
  sixfoldlaw: ownInts.
-/
namespace Go.Proofs.YtfpbkghcjaonlaaGreat
open Go.RowKit

set_option maxHeartbeats 4000000 in
theorem ownInts_any {k : Nat → Nat} {w : World} {L : Nat → Prop} {b px py nC nR nI cl : Nat} {v : Value} {rows : List (List Value)} (h : LawIs k w L b px py nI nR nC) (hl : Rows k w cl 3 1 v rows) (hcl : ¬ L cl) (hc4 : 204 ≤ cl) (hL : ∀ c, L c → 204 ≤ c)
    (hlen : rows.length ≤ 4000000000) (hnC : nC ≤ 4000000000) :
    Calls Tryz.prog 62 #[.pointer (some ⟨b, 0, none⟩), v] w fun e w' => e = .returned (.tuple #[]) ∧
      ∃ k', Evo k k' (fun c => c = 200 ∨ c = 203 ∨ c = cl) w w' ∧ LawIs k' w' (fun c => L c ∨ c = cl) b px py nI nR (nC + 4) := by
  obtain ⟨vI, vR, vC, hB, oI, oR, oC⟩ := h.ex
  obtain ⟨va, vcap, hvf, _⟩ := hl.form
  obtain ⟨rC, rC1, rC2, rC3⟩ := oC
  obtain ⟨ca, ccap, hcf, _⟩ := rC1.form
  rw [rC2] at hcf
  have z2 : w.cell? ⟨b, 4, none⟩ = some vC := hB.cell 4
  have hbl := hB.lt
  subst hvf hcf
  obtain ⟨len, hlr⟩ : ∃ len, rows.length = len := ⟨_, rfl⟩
  rw [hlr] at hl hlen ⊢
  have HLR := hide hlr
  clear hlr
  go_enter Tryz.func62, Tryz.ntmps62
  go_wp2
  go_loopw [5] (fun i wr => Evo k k (fun c => c = cl) w wr ∧ ∃ j : Nat, j ≤ len ∧ i = .int .i64 j ∧ Rows k wr cl 3 1 (.slice va len vcap) (List.replicate j (intMk nC) ++ rows.drop j)) (fun i _ => len - (intOf i).toNat)
  case atStart => exact ⟨Evo.refl _ _ _, 0, Nat.zero_le _, rfl, by simpa using hl⟩
  case round =>
    obtain ⟨hE, j, hj, rfl, hR⟩ := hrel
    have hlr2 : (List.replicate j (intMk nC) ++ rows.drop j).length = len := by have := HLR.out; simp; omega
    generalize hq : List.replicate j (intMk nC) ++ rows.drop j = rws at hR hlr2
    have HQ := hide hq
    clear hq
    by_cases hlt : j < len
    · have hjr : j < rws.length := by omega
      obtain ⟨g, gc, hgf, hgk, hgl, _, hcells, hfr⟩ := hR.at (by omega)
      simp only [Value.slice.injEq] at hgf
      obtain ⟨rfl, -, rfl⟩ := hgf
      obtain ⟨c0, hrow⟩ := one_of (hR.len _ (List.getElem_mem hjr))
      have q0 := hcells j 0 hjr (by omega)
      rw [hrow] at q0
      simp only [List.getElem?_cons_zero, Nat.add_zero, Nat.mul_one] at q0
      have f0 := hfr j
      have HROW := hide hrow
      clear hcells hfr hlr2 hrow
      go_wp2_with fail
      go_roundw
      case rel =>
        refine ⟨hE.setCell _ _ (fun _ => hgk), j + 1, by omega, by go_num, ?_⟩
        have hs0 := hR.set j 0 hjr (by omega) (.int .i64 (-1 - (nC : Int)))
        have er : rws.set j ((rws[j]'hjr).set 0 (.int .i64 (-1 - (nC : Int)))) = rws.set j (intMk nC) := by
          simp [HROW.out, intMk]
        rw [er] at hs0
        rw [← fill_set rows (intMk nC) j (by have := HLR.out; omega), HQ.out]
        simpa using hs0
      case measure => simp [intOf]; omega
    · have hje : j = len := by omega
      have HV : Hid (Rows k wr cl 3 1 (.slice va len vcap) (List.replicate len (intMk nC))) := hide (by
        have h1 := HQ.out
        rw [hje, List.drop_of_length_le (by have := HLR.out; omega), List.append_nil] at h1
        rw [h1]; exact hR)
      clear hje hR HQ hlr2
      -- the list is written down for the first time
      have hB1 := hB.evo hE (by omega)
      have y2 : wr.cell? ⟨b, 4, none⟩ = _ := hB1.cell 4
      simp only [List.getElem?_cons_zero, List.getElem?_cons_succ] at y2
      have yf := hB1.free 4
      have hbl1 := hB1.lt
      have rC1' := rC1.evo hE (by omega)
      have rC3' : Hid (∀ r ∈ rC, OutOk k wr L 3 1 intMk r ∨ NewOut k wr cl 3 1 (intMk nC) nC len r) := hide fun r hr => .inl ((rC3 r hr).evo hE (fun c hc e => hcl (e ▸ hc)))
      have oR1 := oR.evo hE (fun c hc e => hcl (e ▸ hc)) (by omega)
      have oI1 := oI.evo hE (fun c hc e => hcl (e ▸ hc)) (by omega)
      have e2 : Evo k k noC wr (wr.alloc (Obj.cells #[.slice va len vcap, .int .i64 nC] 63)) := (Evo.refl _ _ _).alloc _
      have rC1a := rC1'.evo e2 (noC_not _)
      have hB1a := hB1.evo e2 (noC_not _)
      have HRC2 := hide rC2
      clear rC2 rC3 oR oI
      go_wp2_with (at_builtin; go_must (refine wpList_append_rows k 203 (.tmp 27) (.tmp 31) 46 63 _ 2 32 _ rC [[.slice va len vcap, .int .i64 nC]] nC ⟨wr.heap.size, 0, none⟩ 1 1 HRC2.out rfl rfl Tryz.underlying46 Tryz.infoIntsOut rfl (by decide) rfl rfl rC1a rfl (by simp) (by simpa using cell_one_new' wr [.slice va len vcap, .int .i64 nC] 63) (by simp [Value.oneCell']) (by simp only [maxLen]; omega) (by omega) ?_; intro ao1 cap1 w1 k1 hR1 hE1; have x2 : w1.cell? ⟨b, 4, none⟩ = _ := (hB1a.evo hE1 (by omega)).cell 4; simp only [List.getElem?_cons_zero, List.getElem?_cons_succ] at x2; have xf := (hB1a.evo hE1 (by omega)).free 4; have xl := (hB1a.evo hE1 (by omega)).lt))
      obtain ⟨g1, g2, g3⟩ := push_fin e2 hB1a (by decide) hR1 hE1 4
      have hO1 : OwnSt k1 (w1.setCell ⟨b, 4, none⟩ (.slice ao1 (nC + 1) cap1)) L cl 203 63 3 1 intMk nC len (nC + 1) (.slice va len vcap) (.slice ao1 (nC + 1) cap1) := by
        have h1 := OwnSt.push HRC2.out rC3'.out HV.out e2 hR1 hE1 (by omega) (fun c hc e => by have := hL c hc; omega)
        have es : Evo k1 k1 (fun c => c = 200) w1 (w1.setCell ⟨b, 4, none⟩ (.slice ao1 (nC + 1) cap1)) := (Evo.refl _ _ _).setCell _ _ (fun _ => g2.2)
        exact h1.evo es (by omega) (by decide) (fun c hc e => by have := hL c hc; omega)
      have eA : Evo k k1 (fun c => c = 200 ∨ c = 203 ∨ c = cl) w (w1.setCell ⟨b, 4, none⟩ (.slice ao1 (nC + 1) cap1)) := (hE.mono (fun c h => .inr (.inr h))).trans (g1.mono (fun c h => by rcases h with h | h <;> simp [h]))
      have oR2 := oR1.evo g1 (fun c hc e => by have := hL c hc; omega) (by decide)
      have oI2 := oI1.evo g1 (fun c hc e => by have := hL c hc; omega) (by decide)
      have HA : Hid (∃ k2 vC2, Evo k k2 (fun c => c = 200 ∨ c = 203 ∨ c = cl) w (w1.setCell ⟨b, 4, none⟩ (.slice ao1 (nC + 1) cap1)) ∧ Blk k2 (w1.setCell ⟨b, 4, none⟩ (.slice ao1 (nC + 1) cap1)) 200 b 48 [.pointer (some ⟨px, 0, none⟩), .pointer (some ⟨py, 0, none⟩), vI, vR, vC2] ∧
        OwnSt k2 (w1.setCell ⟨b, 4, none⟩ (.slice ao1 (nC + 1) cap1)) L cl 203 63 3 1 intMk nC (len + 0) (nC + 1 + 0) (.slice va len vcap) vC2 ∧ OutsOk k2 (w1.setCell ⟨b, 4, none⟩ (.slice ao1 (nC + 1) cap1)) L 202 57 59 3 recMk vR nR ∧ OutsOk k2 (w1.setCell ⟨b, 4, none⟩ (.slice ao1 (nC + 1) cap1)) L 201 51 53 2 cutMk vI nI) :=
        hide ⟨k1, _, eA, g2, hO1, oR2, oI2⟩
      clear g1 g2 g3 hO1 eA oR2 oI2 oR1 oI1 hR1 hE1 x2 xf xl rC1a hB1a e2 HRC2 rC3' rC1' y2 yf hB1 HV hE rC1 hB z2 h
      go_loopw [1, 6] (fun l i wz => ∃ j : Nat, j ≤ 3 ∧ i = .int .i64 j ∧ (∃ la lc, l = .slice la (len + j) lc) ∧ Hid (∃ k2 vC2, Evo k k2 (fun c => c = 200 ∨ c = 203 ∨ c = cl) w wz ∧ Blk k2 wz 200 b 48 [.pointer (some ⟨px, 0, none⟩), .pointer (some ⟨py, 0, none⟩), vI, vR, vC2] ∧
        OwnSt k2 wz L cl 203 63 3 1 intMk nC (len + j) (nC + 1 + j) l vC2 ∧ OutsOk k2 wz L 202 57 59 3 recMk vR nR ∧ OutsOk k2 wz L 201 51 53 2 cutMk vI nI)) (fun _ i _ => 3 - (intOf i).toNat)
      case atStart => exact ⟨0, by omega, rfl, ⟨va, vcap, rfl⟩, HA⟩
      case round =>
        obtain ⟨j2, hj2, rfl, ⟨la, lc, rfl⟩, HS⟩ := hrel
        by_cases hlt2 : j2 < 3
        · obtain ⟨k2, vC2, eA, hB2, hO2, oR2, oI2⟩ := HS.out
          obtain ⟨rows2, ra, rb, rd, rf⟩ := hO2
          obtain ⟨xa, xc, hxf, _⟩ := ra.form
          rw [rb] at hxf
          subst hxf
          clear HS HA
          have eb : Evo k2 k2 noC wr (wr.alloc (Obj.cells #[.int .i64 (-1 - (nC : Int))] 3)) := (Evo.refl _ _ _).alloc _
          have rfa := rf.evo eb (noC_not _)
          have HRB := hide rb
          have HRD := hide rd
          clear rb rd
          have hnw : ∀ j u, ([intMk nC] : List (List Value)).flatten[j]? = some u → (wr.alloc (Obj.cells #[.int .i64 (-1 - (nC : Int))] 3)).cell? ((⟨wr.heap.size, 0, none⟩ : Addr).add j) = some u := fun j u hj => cell_one_new' wr (intMk nC) 3 j u (by simpa using hj)
          have hBb := hB2.evo eb (noC_not _)
          have rab := ra.evo eb (noC_not _)
          go_wp2_with (first
            | (at_builtin; refine wpList_append_rows2 k2 cl (.tmp 39) (.tmp 42) 61 3 _ 1 8 _ (List.replicate (len + j2) (intMk nC)) [intMk nC] (len + j2) ⟨wr.heap.size, 0, none⟩ 1 1 (by simp) rfl rfl Tryz.underlying61 Tryz.infoInt rfl (by decide) rfl rfl rfa rfl (by simp [intMk]) hnw (by simp [intMk, Value.oneCell']) (by simp only [maxLen]; omega) (by omega) ?_; intro ao2 cap2 w2 k3 hR3 hE3 hkeep; have hBc := hBb.evo hE3 (by omega); have x2 : w2.cell? ⟨b, 4, none⟩ = some (.slice xa (nC + 1 + j2) xc) := hBc.cell 4; have xl := hBc.lt; have rac := rab.evo hE3 (by omega); have ed : Evo k3 k3 noC w2 (w2.alloc (Obj.cells #[.slice ao2 (len + j2 + 1) cap2, .int .i64 nC] 63)) := (Evo.refl _ _ _).alloc _; have rad := rac.evo ed (noC_not _); have hBd := hBc.evo ed (noC_not _))
            | (at_builtin; refine wpList_append_rows k3 203 (.tmp 48) (.tmp 52) 46 63 _ 2 32 _ rows2 [[.slice ao2 (len + j2 + 1) cap2, .int .i64 nC]] (nC + 1 + j2) ⟨w2.heap.size, 0, none⟩ 1 1 HRB.out rfl rfl Tryz.underlying46 Tryz.infoIntsOut rfl (by decide) rfl rfl rad rfl (by simp) (fun j u hj => cell_one_new' w2 [.slice ao2 (len + j2 + 1) cap2, .int .i64 nC] 63 j u (by simpa using hj)) (by simp [Value.oneCell']) (by simp only [maxLen]; omega) (by omega) ?_; intro ao3 cap3 w3 k4 hR4 hE4; have hBe := hBd.evo hE4 (by decide); have x3 : w3.cell? ⟨b, 4, none⟩ = some (.slice xa (nC + 1 + j2) xc) := hBe.cell 4; have xf3 := hBe.free 4))
          go_roundw
          case rel =>
            have hd3 := grow_rows HRD.out eb hE3 hkeep (fun c hc e => hcl (e ▸ hc))
            have hv3 : Rows k3 w2 cl 3 1 (.slice ao2 (len + j2 + 1) cap2) (List.replicate (len + j2 + 1) (intMk nC)) := by rw [List.replicate_succ']; exact hR3
            have hO4 := OwnSt.push HRB.out hd3 hv3 ed hR4 hE4 (by omega) (fun c hc e => by have := hL c hc; omega)
            obtain ⟨g1, g2, g3⟩ := push_fin ed hBd (by decide) hR4 hE4 4
            have es : Evo k4 k4 (fun c => c = 200) w3 (w3.setCell ⟨b, 4, none⟩ (.slice ao3 (nC + 1 + j2 + 1) cap3)) := (Evo.refl _ _ _).setCell _ _ (fun _ => g2.2)
            have hO5 := hO4.evo es (by omega) (by decide) (fun c hc e => by have := hL c hc; omega)
            have eL : ∀ c, L c → ¬ (c = 200 ∨ c = 203 ∨ c = cl) := fun c hc e => by
              have := hL c hc
              rcases e with e | e | e
              · omega
              · omega
              · exact hcl (e ▸ hc)
            have eT : Evo k2 k4 (fun c => c = 200 ∨ c = 203 ∨ c = cl) wr (w3.setCell ⟨b, 4, none⟩ (.slice ao3 (nC + 1 + j2 + 1) cap3)) :=
              (eb.mono (fun _ h => h.elim)).trans ((hE3.mono (fun c h => .inr (.inr h))).trans (g1.mono (fun c h => by rcases h with h | h <;> simp [h])))
            exact ⟨j2 + 1, by omega, by go_num, ⟨ao2, cap2, rfl⟩, hide ⟨k4, _, eA.trans eT, g2, hO5, oR2.evo eT eL (by omega), oI2.evo eT eL (by omega)⟩⟩
          case measure => simp [intOf]; omega
        · obtain ⟨k2, vC2, eA, hB2, hO2, oR2, oI2⟩ := HS.out
          have hj3 : j2 = 3 := by omega
          subst hj3
          clear HS HA
          go_wp2_with fail
          go_end0
          exact ⟨rfl, k2, eA, ⟨vI, vR, vC2, hB2, oI2.more (fun c h => .inl h), oR2.more (fun c h => .inl h), by simpa [Nat.add_assoc] using hO2.outs hnC (by omega)⟩⟩
end Go.Proofs.YtfpbkghcjaonlaaGreat

/-
  The program: great rows; segment.New, network.New.
-/
namespace Go.Proofs.YtfpbkghcjaonlaaGreat
open Go.RowKit

theorem wpList_store_new {P : Program} {w : World} {ops : Array Oper} {rest : List Oper} {op : Oper} {a : Act} {Q : Exit → Act → World → Prop} (hgd : op.guard = none) (ty : TypeId) (x y : Operand) (ho : op.op = .store ty x y)
    (c c' : Array Value) (hx : a.eval x = .pointer (some ⟨w.heap.size, 0, none⟩)) (hy : a.eval y = .agg c') (hi : (P.info? ty).map (·.size) = some c'.size) (hs : c.size = c'.size) (h1 : c'.all (·.oneCell') = true)
    (h : wpList P ops Q rest (a.put op.dst undef) (w.alloc (.cells c' ty))) : wpList P ops Q (op :: rest) a (w.alloc (.cells c ty)) := by
  refine wpList_plain hgd fun K hK => ?_
  unfold Oper.wp execOp
  simp only [ho, hx, hy, Instr.storeAt, Instr.sureAddr, Sem.run_bind, Sem.run_pure, Result.andThen_ok, run_storeVar_new w ty c c' hi hs h1]
  exact hK _ _ h

theorem Blk.setCells {k : Nat → Nat} {c b e : Nat} : ∀ (vs : List Value) {w : World} {cs : List Value} (o : Nat), Blk k w c b e cs → o + vs.length ≤ cs.length → Blk k (w.setCells b o vs) c b e (cs.take o ++ vs ++ cs.drop (o + vs.length))
  | [], w, cs, o, h, _ => by simpa [World.setCells] using h
  | v :: r, w, cs, o, h, hl => by
    simp only [List.length_cons] at hl
    have h1 := Blk.setCells r (w := w.setCell ⟨b, o, none⟩ v) (cs := cs.set o v) (o + 1) (h.set o v) (by simp; omega)
    have e1 : (cs.set o v).take (o + 1) ++ r ++ (cs.set o v).drop (o + 1 + r.length) = cs.take o ++ (v :: r) ++ cs.drop (o + (v :: r).length) := by
      rw [List.take_set, List.drop_set_of_lt (by omega)]
      have h2 : cs.take (o + 1) = cs.take o ++ [cs[o]'(by omega)] := List.take_succ_eq_append_getElem (by omega)
      rw [h2, List.set_append_right _ _ (by simp; omega)]
      simp [show o - min o cs.length = 0 from by omega, Nat.add_assoc, Nat.add_comm 1 r.length]
    rw [e1] at h1
    exact h1

theorem Evo.setCells {k1 k2 : Nat → Nat} {C : Nat → Prop} {a : World} {b : Nat} (hb : C (k2 b)) : ∀ (vs : List Value) {w : World} (o : Nat), Evo k1 k2 C a w → Evo k1 k2 C a (w.setCells b o vs)
  | [], _, _, h => h
  | _ :: r, _, o, h => Evo.setCells hb r (o + 1) (h.setCell _ _ (fun _ => hb))

theorem Blk.there {k : Nat → Nat} {w : World} {c b e : Nat} {cs : List Value} (h : Blk k w c b e cs) (o n : Nat) (hl : o + n ≤ cs.length) : w.there b o n := fun j hj => by
  refine ⟨?_, h.free _⟩
  rw [h.cell, List.getElem?_eq_getElem (by omega)]; rfl
theorem Blk.rangeAt {k : Nat → Nat} {w : World} {c b e : Nat} {cs : List Value} (h : Blk k w c b e cs) (o : Nat) (r : List Value) (hr : ∀ j v, r[j]? = some v → cs[o + j]? = some v) : w.rangeAt b o r := fun j v hv => by
  rw [h.cell]; exact hr j v hv

set_option maxHeartbeats 1000000 in
theorem netNew_any (w : World) (n : Int) :
    Calls Tryz.prog 26 #[.int .i64 n] w fun e w' => e = .returned (.agg #[.int .i64 n, .slice none 0 0]) ∧ Below w.heap.size w w' := by
  go_enter Tryz.func26, Tryz.ntmps26
  go_wp2
  exact bodyPost_ret (v := .agg #[.int .i64 n, .slice none 0 0]) (by simp [results, Tryz.results26, go_sem]) rfl ⟨rfl, (Below.refl _ _).alloc (Nat.le_refl _) _⟩

theorem Tryz.infoSegSize : (Tryz.prog.info? 73).map (·.size) = some 123 := by kernel_rfl
theorem segZero_size : Tryz.zeroCells73.size = 123 := by kernel_rfl
theorem segZero_one : (Tryz.zeroCells73.setIfInBounds 0 (.bool true)).all (·.oneCell') = true := by kernel_rfl
/-- The cells of a new segment. -/
def segNewRow : List Value := .bool true :: .int .i64 0 :: .slice none 0 0 :: List.replicate 120 (.int .i64 0)
theorem segZero_row : (Tryz.zeroCells73.setIfInBounds 0 (.bool true)) = segNewRow.toArray := by kernel_rfl

set_option maxRecDepth 100000 in
set_option maxHeartbeats 4000000 in
theorem segNew_any (w : World) :
    Calls Tryz.prog 27 #[] w fun e w' => e = .returned (.agg segNewRow.toArray) ∧ Below w.heap.size w w' := by
  go_enter Tryz.func27, Tryz.ntmps27
  go_wp2_with (refine wpList_store_new rfl 73 (.tmp 0) (.tmp 1) rfl _ (Tryz.zeroCells73.setIfInBounds 0 (.bool true)) rfl rfl (by rw [Array.size_setIfInBounds, segZero_size]; exact Tryz.infoSegSize) (by simp) segZero_one ?_)
  refine bodyPost_ret (v := .agg segNewRow.toArray) ?_ rfl ⟨rfl, (Below.refl _ _).alloc (Nat.le_refl _) _⟩
  rw [segZero_row]
  exact results_cell_row rfl _ _ w.heap.size 73 _ (0, 0) _ rfl (heap_alloc_new w _) Tryz.underlying73 rfl (by rw [Tryz.infoSegSize]; rfl)
end Go.Proofs.YtfpbkghcjaonlaaGreat

/-
  The program: sixfold.New.
-/
namespace Go.Proofs.YtfpbkghcjaonlaaGreat
open Go.RowKit

/-- The cells of a volume: the network's two, six segments, the writers. -/
def volCells (wi room : Int) (vM : Value) (rows : List (List Value)) (vW : Value) : List Value := [.int .i64 wi, .int .i64 room, vM] ++ (rows.flatten ++ [vW])

theorem volCells_seg {wi room : Int} {vM vW : Value} {rows : List (List Value)} (hl : ∀ r ∈ rows, r.length = 123) (i j : Nat) (hi : i < rows.length) (hj : j < 123) :
    (volCells wi room vM rows vW)[3 + i * 123 + j]? = (rows[i]'hi)[j]? := by
  unfold volCells
  have hf := flatten_len hl
  have hlt : (i + 1) * 123 ≤ rows.length * 123 := Nat.mul_le_mul_right _ hi
  rw [List.getElem?_append_right (by simp; omega)]
  rw [show 3 + i * 123 + j - [Value.int .i64 wi, .int .i64 room, vM].length = i * 123 + j from by simp; omega]
  rw [List.getElem?_append_left (by rw [hf]; omega)]
  exact flatten_get hl i j hi hj

theorem flatten_splice {rows : List (List Value)} {size : Nat} (hl : ∀ r ∈ rows, r.length = size) (i : Nat) (hi : i < rows.length) (r : List Value) :
    rows.flatten.take (i * size) ++ r ++ rows.flatten.drop (i * size + size) = (rows.set i r).flatten := by
  induction rows generalizing i with
  | nil => simp at hi
  | cons a rs ih =>
    have ha := hl a List.mem_cons_self
    cases i with
    | zero => simp [← ha]
    | succ i =>
      have h1 := ih (fun x hx => hl x (List.mem_cons_of_mem _ hx)) i (by simpa using hi)
      simp only [List.flatten_cons, List.set_cons_succ]
      rw [← h1]
      have e1 : (i + 1) * size = a.length + i * size := by rw [ha, Nat.add_mul]; omega
      rw [e1, List.take_length_add_append, show a.length + i * size + size = a.length + (i * size + size) from by omega, List.drop_length_add_append]
      simp

theorem volCells_len {wi room : Int} {vM vW : Value} {rows : List (List Value)} (hl : ∀ r ∈ rows, r.length = 123) (h6 : rows.length = 6) : (volCells wi room vM rows vW).length = 742 := by
  unfold volCells
  have hf := flatten_len hl
  simp only [List.length_append, List.length_cons, List.length_nil]
  omega

theorem volCells_splice {wi room : Int} {vM vW : Value} {rows : List (List Value)} (hl : ∀ r ∈ rows, r.length = 123) (i : Nat) (hi : i < rows.length) (r : List Value) (hr : r.length = 123) :
    (volCells wi room vM rows vW).take (3 + i * 123) ++ r ++ (volCells wi room vM rows vW).drop (3 + i * 123 + r.length) = volCells wi room vM (rows.set i r) vW := by
  unfold volCells
  have hf := flatten_len hl
  have hlt : (i + 1) * 123 ≤ rows.length * 123 := Nat.mul_le_mul_right _ hi
  rw [hr, ← flatten_splice hl i hi r]
  have e2 : ([Value.int .i64 wi, .int .i64 room, vM]).length = 3 := rfl
  rw [show 3 + i * 123 = ([Value.int .i64 wi, .int .i64 room, vM]).length + i * 123 from by rw [e2], List.take_length_add_append]
  rw [show ([Value.int .i64 wi, .int .i64 room, vM]).length + i * 123 + 123 = ([Value.int .i64 wi, .int .i64 room, vM]).length + (i * 123 + 123) from by omega, List.drop_length_add_append]
  rw [List.take_append_of_le_length (by rw [hf]; omega), List.drop_append_of_le_length (by rw [hf]; omega)]
  simp

def segZeroRow : List Value := .bool false :: .int .i64 0 :: .slice none 0 0 :: List.replicate 120 (.int .i64 0)
theorem volZero_row (a : Int) : Tryz.zeroCells77.setIfInBounds 0 (.int .i64 a) = (volCells a 0 (.slice none 0 0) (List.replicate 6 segZeroRow) (.slice none 0 0)).toArray := by kernel_rfl
theorem segNewRow_len : segNewRow.length = 123 := by simp [segNewRow]
theorem segZeroRow_len : segZeroRow.length = 123 := by simp [segZeroRow]
theorem segNewRow_one : ∀ v ∈ segNewRow, v.oneCell' = true := by
  intro v hv
  simp only [segNewRow, List.mem_cons, List.mem_replicate] at hv
  rcases hv with rfl | rfl | rfl | ⟨_, rfl⟩ <;> rfl

/-- i segments are new, the rest is as it was laid. -/
def newRows (i : Nat) : List (List Value) := List.replicate i segNewRow ++ List.replicate (6 - i) segZeroRow
theorem newRows_len (i : Nat) (h : i ≤ 6) : (newRows i).length = 6 := by simp [newRows]; omega
theorem newRows_all (i : Nat) : ∀ r ∈ newRows i, r.length = 123 := by
  intro r hr
  simp only [newRows, List.mem_append, List.mem_replicate] at hr
  rcases hr with ⟨_, rfl⟩ | ⟨_, rfl⟩
  · exact segNewRow_len
  · exact segZeroRow_len
theorem newRows_set (i : Nat) (h : i < 6) : (newRows i).set i segNewRow = newRows (i + 1) := by
  unfold newRows
  rw [List.set_append_right _ _ (by simp), show 6 - i = (6 - (i + 1)) + 1 from by omega, List.replicate_succ, List.replicate_succ']
  simp

set_option maxHeartbeats 1000000 in
theorem xnew_bad (w : World) (a b : Int) (h : a < 1 ∨ 8 < a ∨ b < 1 ∨ 200 < b) :
    Calls Tryz.prog 14 #[.agg #[.int .i64 a, .int .i64 b]] w fun e w' => e = .returned (.tuple #[.pointer none, .int .i64 1]) ∧ Below w.heap.size w w' := by
  by_cases h1 : a < 1
  · have d1 : decide (a < 1) = true := by simpa using h1
    go_enter Tryz.func14, Tryz.ntmps14
    go_wp2
    go_ret2
    exact ⟨rfl, (Below.refl _ _).alloc (Nat.le_refl _) _⟩
  · have d1 : decide (a < 1) = false := by simpa using h1
    by_cases h2 : 8 < a
    · go_enter Tryz.func14, Tryz.ntmps14
      go_wp2
      go_ret2
      exact ⟨rfl, (Below.refl _ _).alloc (Nat.le_refl _) _⟩
    · by_cases h3 : b < 1
      · have d3 : decide (b < 1) = true := by simpa using h3
        go_enter Tryz.func14, Tryz.ntmps14
        go_wp2
        go_ret2
        exact ⟨rfl, (Below.refl _ _).alloc (Nat.le_refl _) _⟩
      · have d3 : decide (b < 1) = false := by simpa using h3
        have h4 : 200 < b := by omega
        clear h
        go_enter Tryz.func14, Tryz.ntmps14
        go_wp2
        go_ret2
        exact ⟨rfl, (Below.refl _ _).alloc (Nat.le_refl _) _⟩

theorem Below.setCells {B : Nat} {a : World} {b : Nat} (hb : B ≤ b) : ∀ (vs : List Value) {w : World} (o : Nat), Below B a w → Below B a (w.setCells b o vs)
  | [], _, _, h => h
  | _ :: r, _, o, h => Below.setCells hb r (o + 1) (h.setCell hb _)

set_option maxRecDepth 100000 in
set_option maxHeartbeats 4000000 in
theorem xnew_good (w : World) (a b : Int) (h1 : ¬ a < 1) (h2 : ¬ 8 < a) (h3 : ¬ b < 1) (h4 : ¬ 200 < b) :
    Calls Tryz.prog 14 #[.agg #[.int .i64 a, .int .i64 b]] w fun e w' => ∃ g, e = .returned (.tuple #[.pointer (some ⟨g, 0, none⟩), .int .i64 0]) ∧ w.heap.size ≤ g ∧
      w'.heap[g]? = some (.cells (volCells a b (.slice none 0 0) (newRows 6) (.slice none 0 0)).toArray 77 (0, 0)) ∧ Below w.heap.size w w' := by
  have d1 : decide (a < 1) = false := by simpa using h1
  have d3 : decide (b < 1) = false := by simpa using h3
  go_enter Tryz.func14, Tryz.ntmps14
  go_wp2_with fail
  refine (netNew_any _ b).mono ?_
  rintro e1 w1 ⟨rfl, hb1⟩
  have hs1 := hb1.size
  simp only [World.size_alloc] at hs1
  have hB1 : Below w.heap.size w w1 := (((Below.refl w.heap.size w).alloc (Nat.le_refl _) _).alloc (by simp) _).trans (hb1.mono (by simp; omega))
  have hK1 : Blk (fun _ => 0) w1 0 (w.heap.size + 1) 77 (volCells a 0 (.slice none 0 0) (newRows 0) (.slice none 0 0)) := by
    refine ⟨(hb1.block _ (by simp)).trans ?_, rfl⟩
    rw [heap_alloc2_new, volZero_row]
    rfl
  have n0 : w1.cell? ⟨w.heap.size + 1, 1, none⟩ = some (.int .i64 0) := hK1.cell 1
  have n1 : w1.cell? ⟨w.heap.size + 1, 2, none⟩ = some (.slice none 0 0) := hK1.cell 2
  have f0 := hK1.free 1
  have f1 := hK1.free 2
  clear hb1
  go_wp2_with fail
  have hK2 : Hid (Blk (fun _ => 0) ((w1.setCell ⟨w.heap.size + 1, 1, none⟩ (.int .i64 b)).setCell ⟨w.heap.size + 1, 2, none⟩ (.slice none 0 0)) 0 (w.heap.size + 1) 77 (volCells a b (.slice none 0 0) (newRows 0) (.slice none 0 0))) := hide ((hK1.set 1 _).set 2 _)
  have hB2 := (hB1.setCell (p := ⟨w.heap.size + 1, 1, none⟩) (by simp) (.int .i64 b)).setCell (p := ⟨w.heap.size + 1, 2, none⟩) (by simp) (.slice none 0 0)
  clear hK1 n0 n1 f0 f1
  go_loopw [5] (fun i wr => Below w.heap.size w wr ∧ ∃ j : Nat, j ≤ 6 ∧ i = .int .i64 j ∧ Hid (Blk (fun _ => 0) wr 0 (w.heap.size + 1) 77 (volCells a b (.slice none 0 0) (newRows j) (.slice none 0 0)))) (fun i _ => 6 - (intOf i).toNat)
  case atStart => exact ⟨hB2, 0, by omega, rfl, hK2⟩
  case round =>
    obtain ⟨hB, j, hj, rfl, hK⟩ := hrel
    by_cases hlt : j < 6
    · have hsz := hB.size
      have hnr : (newRows j).length = 6 := newRows_len j hj
      have hS : Hid (∀ w2, Below wr.heap.size wr.drew w2 → Blk (fun _ => 0) w2 0 (w.heap.size + 1) 77 (volCells a b (.slice none 0 0) (newRows j) (.slice none 0 0)) ∧
          (storeCells ⟨w.heap.size + 1, 3 + j * 123, none⟩ segNewRow).run Tryz.prog w2 = .ok () (w2.setCells (w.heap.size + 1) (3 + j * 123) segNewRow)) := hide fun w2 hb => by
        have hk2 : Blk (fun _ => 0) w2 0 (w.heap.size + 1) 77 (volCells a b (.slice none 0 0) (newRows j) (.slice none 0 0)) := ⟨(hb.block _ hK.out.lt).trans hK.out.1, rfl⟩
        have hth := hk2.there (3 + j * 123) 123 (by rw [volCells_len (newRows_all j) hnr]; omega)
        have := run_storeCells_cells (P := Tryz.prog) (w.heap.size + 1) (3 + j * 123) segNewRow 0 w2 (fun x hx => by rw [segNewRow_len] at hx; simpa using (hth x hx).1) (fun x hx => by rw [segNewRow_len] at hx; simpa using (hth x hx).2) segNewRow_one
        exact ⟨hk2, by simpa using this⟩
      go_wp2_with fail
      go_region_with (go_at_call 27; refine (segNew_any _).mono ?_; rintro e2 w2 ⟨rfl, hb2⟩; have hst := (hS.out w2 hb2).2; have HK2 := hide (hS.out w2 hb2).1)
      go_wp2_with fail
      go_roundw
      case rel =>
        refine ⟨Below.setCells (by omega) _ _ (hB.drew.trans (hb2.mono hsz)), j + 1, by omega, by go_num, hide ?_⟩
        have h9 := Blk.setCells segNewRow (3 + j * 123) HK2.out (by rw [volCells_len (newRows_all j) hnr, segNewRow_len]; omega)
        rw [volCells_splice (newRows_all j) j (by omega) segNewRow segNewRow_len, newRows_set j hlt] at h9
        exact h9
      case measure => simp [intOf]; omega
    · have h6 : j = 6 := by omega
      rw [h6] at hK
      clear h6
      go_wp2
      go_ret2
      exact ⟨w.heap.size + 1, rfl, by omega, hK.out.1, hB⟩
end Go.Proofs.YtfpbkghcjaonlaaGreat

/-
  The program: cuts.Copy, a segment's scl and records.
-/
namespace Go.Proofs.YtfpbkghcjaonlaaGreat
open Go.RowKit

set_option maxHeartbeats 1000000 in
theorem copy_any {k : Nat → Nat} {w : World} {c : Nat} {v : Value} {l : List (Int × Int)} (h : Rows k w c 53 2 v (l.map cutRow)) (hl : l.length ≤ 4000000000) :
    Calls Tryz.prog 118 #[v] w fun e w' => (∃ z, e = .returned z ∧ Made w' w.heap.size 53 2 z (l.map cutRow)) ∧ Below w.heap.size w w' := by
  obtain ⟨a, cap, rfl, hc⟩ := cuts_cells h
  clear h
  go_enter Tryz.func118, Tryz.ntmps118
  go_wp2
  go_loopw [3, 8] (fun o i wr => Below w.heap.size w wr ∧ ∃ j : Nat, i = .int .i64 j ∧ j ≤ l.length ∧ Made wr w.heap.size 53 2 o ((l.take j).map cutRow)) (fun _ i _ => l.length - (intOf i).toNat)
  case atStart => exact ⟨Below.refl _ _, 0, rfl, Nat.zero_le _, Made.nil _ _ _ _⟩
  case round =>
    obtain ⟨hB, j, rfl, hj, hM⟩ := hrel
    have hsz := hB.size
    by_cases hlt : j < l.length
    · obtain ⟨g, rfl, q0, q1⟩ := hc j hlt
      have hgl : g < w.heap.size := World.block_lt_of_cell? w _ q0
      have p0 := (hB.cell (p := ⟨g, j * 2, none⟩) hgl).trans q0
      have p1 := (hB.cell (p := ⟨g, j * 2 + 1, none⟩) hgl).trans q1
      have HR := hide (cutRow_take l j hlt)
      generalize hcn : l[j] = cn at *
      clear hcn q0 q1
      have hM2 := hM.kept (((Below.refl _ _).alloc (Nat.le_refl _) (Obj.cells #[.int .i64 cn.1, .int .i64 cn.2] 53)).alloc (by simp) (Obj.cells #[.int .i64 cn.1, .int .i64 cn.2] 53))
      go_wp2_with (at_builtin; go_must (refine wpList_append_made (.tmp 12) (.tmp 14) 49 53 _ 2 16 _ ((l.take j).map cutRow) j (cutRow cn) w.heap.size ⟨wr.heap.size + 1, 0, none⟩ 1 (by simp; omega) rfl rfl Tryz.underlying49 Tryz.infoCut rfl (by decide) rfl rfl hM2 rfl (cell_two_new' _ _ _ _) (by simp [cutRow, Value.oneCell']) (by simp only [maxLen]; omega) (by omega) (by simp; omega) ?_; intro ao cap2 w2 hM3 hB3))
      go_roundw
      case rel => exact ⟨((hB.alloc (by omega) _).alloc (by simp; omega) _).trans hB3, j + 1, by go_num, by omega, by rw [HR.out]; simpa using hM3⟩
      case measure => simp [intOf]; omega
    · have hje : j = l.length := by omega
      rw [hje, List.take_length] at hM
      clear hje
      go_wp2
      go_ret
      exact ⟨⟨_, rfl, hM⟩, hB⟩

/-- A segment of the program. -/
structure XSeg where
  up : Bool
  epoch : Int
  cuts : List (Int × Int)
  places : List (Int × Int × Int)

def placeRow (p : Int × Int × Int) : List Value := [.int .i64 p.1, .int .i64 p.2.1, .int .i64 p.2.2]
def xsegRow (s : XSeg) (vc : Value) : List Value := [.bool s.up, .int .i64 s.epoch, vc] ++ (s.places.map placeRow).flatten

/-- The segment's cells lie at offset o of block b. -/
structure SegAt (w : World) (b o : Nat) (s : XSeg) (vc : Value) : Prop where
  cell : ∀ j, j < 123 → w.cell? ⟨b, o + j, none⟩ = (xsegRow s vc)[j]?
  len : s.places.length = 40

theorem placeRows_len (l : List (Int × Int × Int)) : ∀ r ∈ l.map placeRow, r.length = 3 := by
  intro r hr
  obtain ⟨p, _, rfl⟩ := List.mem_map.1 hr
  rfl

theorem SegAt.lt {w : World} {b o : Nat} {s : XSeg} {vc : Value} (h : SegAt w b o s vc) : b < w.heap.size := World.block_lt_of_cell? w ⟨b, o + 0, none⟩ (h.cell 0 (by omega))
theorem SegAt.below {w w' : World} {b o : Nat} {s : XSeg} {vc : Value} (h : SegAt w b o s vc) (hb : Below w.heap.size w w') : SegAt w' b o s vc :=
  ⟨fun j hj => (hb.cell (p := ⟨b, o + j, none⟩) h.lt).trans (h.cell j hj), h.len⟩
theorem SegAt.place {w : World} {b o : Nat} {s : XSeg} {vc : Value} (h : SegAt w b o s vc) (i : Nat) (hi : i < s.places.length) :
    w.cell? ⟨b, o + 3 + i * 3, none⟩ = some (.int .i64 s.places[i].1) ∧ w.cell? ⟨b, o + 3 + i * 3 + 1, none⟩ = some (.int .i64 s.places[i].2.1) ∧ w.cell? ⟨b, o + 3 + i * 3 + 2, none⟩ = some (.int .i64 s.places[i].2.2) := by
  have hl := h.len
  have f : ∀ j, j < 3 → w.cell? ⟨b, o + 3 + i * 3 + j, none⟩ = (placeRow s.places[i])[j]? := fun j hj => by
    have := h.cell (3 + (i * 3 + j)) (by omega)
    rw [show o + (3 + (i * 3 + j)) = o + 3 + i * 3 + j from by omega] at this
    rw [this]
    unfold xsegRow
    rw [List.getElem?_append_right (by simp), show 3 + (i * 3 + j) - [Value.bool s.up, .int .i64 s.epoch, vc].length = i * 3 + j from by simp]
    rw [flatten_get (placeRows_len _) i j (by simpa using hi) hj]
    simp
  exact ⟨f 0 (by omega), f 1 (by omega), f 2 (by omega)⟩

def xsclUp (l : List (Int × Int × Int)) : Nat → Nat → Nat
  | 0, n => n
  | f + 1, n => match l[n]? with | some p => if p.1 == 2 then xsclUp l f (n + 1) else n | none => n
def xscl (s : XSeg) : Nat := xsclUp s.places 40 0
theorem xsclUp_step (l : List (Int × Int × Int)) (f n : Nat) (h : n < l.length) : xsclUp l (f + 1) n = if l[n].1 == 2 then xsclUp l f (n + 1) else n := by
  simp only [xsclUp]; rw [List.getElem?_eq_getElem h]

set_option maxHeartbeats 1000000 in
theorem xscl_any {w : World} {b o : Nat} {s : XSeg} {vc : Value} (h : SegAt w b o s vc) :
    Calls Tryz.prog 113 #[.pointer (some ⟨b, o, none⟩)] w fun e w' => e = .returned (.int .i64 (xscl s)) ∧ w' = w := by
  have hl := h.len
  have hp := h.place
  clear h
  go_enter Tryz.func113, Tryz.ntmps113
  go_wp2
  go_loop [3] (fun i => ∃ j : Nat, j ≤ 40 ∧ i = .int .i64 j ∧ Hid (xscl s = xsclUp s.places (40 - j) j)) (fun i => 40 - (intOf i).toNat)
  case atStart => exact ⟨0, by omega, rfl, hide rfl⟩
  case round =>
    obtain ⟨j, hj, rfl, hx⟩ := hrel
    by_cases hlt : j < 40
    · have hd : decide ((j : Int) < 40) = true := by simp; omega
      obtain ⟨q0, _, _⟩ := hp j (by omega)
      have hs := xsclUp_step s.places (40 - (j + 1)) j (by omega)
      rw [show 40 - (j + 1) + 1 = 40 - j from by omega] at hs
      have hx' := hx.out
      rw [hs] at hx'
      clear hs hx
      cases hst : (s.places[j].1 == 2)
      · rw [hst] at hx'
        have HX := hide hx'
        clear hx'
        go_wp2
        go_ret
        exact ⟨by rw [HX.out]; rfl, rfl⟩
      · rw [hst] at hx'
        have HX := hide hx'
        clear hx'
        go_wp2
        go_round
        case rel => exact ⟨j + 1, by omega, by go_num, HX⟩
        case measure => simp [intOf]; omega
    · have hd : decide ((j : Int) < 40) = false := by simp; omega
      have HX : Hid (xscl s = j) := hide (by rw [hx.out, show 40 - j = 0 from by omega]; rfl)
      clear hx
      go_wp2
      go_ret
      exact ⟨by rw [HX.out]; rfl, rfl⟩
end Go.Proofs.YtfpbkghcjaonlaaGreat
