/-
  sixfoldlaw: ownInts.
-/
import Derived.Test.YtfpbkghcjaonlaaGreatLawD
namespace Go.Proofs.YtfpbkghcjaonlaaGreat
open Go.RowKit

set_option maxHeartbeats 4000000 in
theorem ownInts_any {k : Nat → Nat} {w : World} {L : Nat → Prop} {b px py nC nR nI cl : Nat} {v : Value} {rows : List (List Value)} (h : LawIs k w L b px py nI nR nC) (hl : Rows k w cl 3 1 v rows) (hcl : ¬ L cl) (hc4 : 204 ≤ cl) (hL : ∀ c, L c → 204 ≤ c)
    (hlen : rows.length ≤ 4000000000) (hnC : nC ≤ 4000000000) :
    Calls Tryz.prog 62 #[.pointer (some ⟨b, 0, none⟩), v] w fun e w' => e = .returned (.tuple #[]) ∧
      ∃ k', Evo k k' (fun c => c = 200 ∨ c = 203 ∨ c = cl) w w' ∧ LawIs k' w' (fun c => L c ∨ c = cl) b px py nI nR (nC + 4) := by
  obtain ⟨vI, vR, vC, hB, oI, oR, oC⟩ := h.ex
  obtain ⟨va, vcap, hvf, _⟩ := hl.form
  obtain ⟨rC, rC1, rC2, rC3⟩ := oC
  obtain ⟨ca, ccap, hcf, _⟩ := rC1.form
  rw [rC2] at hcf
  have z2 : w.cell? ⟨b, 4, none⟩ = some vC := hB.cell 4
  have hbl := hB.lt
  subst hvf hcf
  obtain ⟨len, hlr⟩ : ∃ len, rows.length = len := ⟨_, rfl⟩
  rw [hlr] at hl hlen ⊢
  have HLR := hide hlr
  clear hlr
  go_enter Tryz.func62, Tryz.ntmps62
  go_wp2
  go_loopw [5] (fun i wr => Evo k k (fun c => c = cl) w wr ∧ ∃ j : Nat, j ≤ len ∧ i = .int .i64 j ∧ Rows k wr cl 3 1 (.slice va len vcap) (List.replicate j (intMk nC) ++ rows.drop j)) (fun i _ => len - (intOf i).toNat)
  case atStart => exact ⟨Evo.refl _ _ _, 0, Nat.zero_le _, rfl, by simpa using hl⟩
  case round =>
    obtain ⟨hE, j, hj, rfl, hR⟩ := hrel
    have hlr2 : (List.replicate j (intMk nC) ++ rows.drop j).length = len := by have := HLR.out; simp; omega
    generalize hq : List.replicate j (intMk nC) ++ rows.drop j = rws at hR hlr2
    have HQ := hide hq
    clear hq
    by_cases hlt : j < len
    · have hjr : j < rws.length := by omega
      obtain ⟨g, gc, hgf, hgk, hgl, _, hcells, hfr⟩ := hR.at (by omega)
      simp only [Value.slice.injEq] at hgf
      obtain ⟨rfl, -, rfl⟩ := hgf
      obtain ⟨c0, hrow⟩ := one_of (hR.len _ (List.getElem_mem hjr))
      have q0 := hcells j 0 hjr (by omega)
      rw [hrow] at q0
      simp only [List.getElem?_cons_zero, Nat.add_zero, Nat.mul_one] at q0
      have f0 := hfr j
      have HROW := hide hrow
      clear hcells hfr hlr2 hrow
      go_wp2_with fail
      go_roundw
      case rel =>
        refine ⟨hE.setCell _ _ (fun _ => hgk), j + 1, by omega, by go_num, ?_⟩
        have hs0 := hR.set j 0 hjr (by omega) (.int .i64 (-1 - (nC : Int)))
        have er : rws.set j ((rws[j]'hjr).set 0 (.int .i64 (-1 - (nC : Int)))) = rws.set j (intMk nC) := by
          simp [HROW.out, intMk]
        rw [er] at hs0
        rw [← fill_set rows (intMk nC) j (by have := HLR.out; omega), HQ.out]
        simpa using hs0
      case measure => simp [intOf]; omega
    · have hje : j = len := by omega
      have HV : Hid (Rows k wr cl 3 1 (.slice va len vcap) (List.replicate len (intMk nC))) := hide (by
        have h1 := HQ.out
        rw [hje, List.drop_of_length_le (by have := HLR.out; omega), List.append_nil] at h1
        rw [h1]; exact hR)
      clear hje hR HQ hlr2
      -- the list is written down for the first time
      have hB1 := hB.evo hE (by omega)
      have y2 : wr.cell? ⟨b, 4, none⟩ = _ := hB1.cell 4
      simp only [List.getElem?_cons_zero, List.getElem?_cons_succ] at y2
      have yf := hB1.free 4
      have hbl1 := hB1.lt
      have rC1' := rC1.evo hE (by omega)
      have rC3' : Hid (∀ r ∈ rC, OutOk k wr L 3 1 intMk r ∨ NewOut k wr cl 3 1 (intMk nC) nC len r) := hide fun r hr => .inl ((rC3 r hr).evo hE (fun c hc e => hcl (e ▸ hc)))
      have oR1 := oR.evo hE (fun c hc e => hcl (e ▸ hc)) (by omega)
      have oI1 := oI.evo hE (fun c hc e => hcl (e ▸ hc)) (by omega)
      have e2 : Evo k k noC wr (wr.alloc (Obj.cells #[.slice va len vcap, .int .i64 nC] 63)) := (Evo.refl _ _ _).alloc _
      have rC1a := rC1'.evo e2 (noC_not _)
      have hB1a := hB1.evo e2 (noC_not _)
      have HRC2 := hide rC2
      clear rC2 rC3 oR oI
      go_wp2_with (at_builtin; go_must (refine wpList_append_rows k 203 (.tmp 27) (.tmp 31) 46 63 _ 2 32 _ rC [[.slice va len vcap, .int .i64 nC]] nC ⟨wr.heap.size, 0, none⟩ 1 1 HRC2.out rfl rfl Tryz.underlying46 Tryz.infoIntsOut rfl (by decide) rfl rfl rC1a rfl (by simp) (by simpa using cell_one_new' wr [.slice va len vcap, .int .i64 nC] 63) (by simp [Value.oneCell']) (by simp only [maxLen]; omega) (by omega) ?_; intro ao1 cap1 w1 k1 hR1 hE1; have x2 : w1.cell? ⟨b, 4, none⟩ = _ := (hB1a.evo hE1 (by omega)).cell 4; simp only [List.getElem?_cons_zero, List.getElem?_cons_succ] at x2; have xf := (hB1a.evo hE1 (by omega)).free 4; have xl := (hB1a.evo hE1 (by omega)).lt))
      obtain ⟨g1, g2, g3⟩ := push_fin e2 hB1a (by decide) hR1 hE1 4
      have hO1 : OwnSt k1 (w1.setCell ⟨b, 4, none⟩ (.slice ao1 (nC + 1) cap1)) L cl 203 63 3 1 intMk nC len (nC + 1) (.slice va len vcap) (.slice ao1 (nC + 1) cap1) := by
        have h1 := OwnSt.push HRC2.out rC3'.out HV.out e2 hR1 hE1 (by omega) (fun c hc e => by have := hL c hc; omega)
        have es : Evo k1 k1 (fun c => c = 200) w1 (w1.setCell ⟨b, 4, none⟩ (.slice ao1 (nC + 1) cap1)) := (Evo.refl _ _ _).setCell _ _ (fun _ => g2.2)
        exact h1.evo es (by omega) (by decide) (fun c hc e => by have := hL c hc; omega)
      have eA : Evo k k1 (fun c => c = 200 ∨ c = 203 ∨ c = cl) w (w1.setCell ⟨b, 4, none⟩ (.slice ao1 (nC + 1) cap1)) := (hE.mono (fun c h => .inr (.inr h))).trans (g1.mono (fun c h => by rcases h with h | h <;> simp [h]))
      have oR2 := oR1.evo g1 (fun c hc e => by have := hL c hc; omega) (by decide)
      have oI2 := oI1.evo g1 (fun c hc e => by have := hL c hc; omega) (by decide)
      have HA : Hid (∃ k2 vC2, Evo k k2 (fun c => c = 200 ∨ c = 203 ∨ c = cl) w (w1.setCell ⟨b, 4, none⟩ (.slice ao1 (nC + 1) cap1)) ∧ Blk k2 (w1.setCell ⟨b, 4, none⟩ (.slice ao1 (nC + 1) cap1)) 200 b 48 [.pointer (some ⟨px, 0, none⟩), .pointer (some ⟨py, 0, none⟩), vI, vR, vC2] ∧
        OwnSt k2 (w1.setCell ⟨b, 4, none⟩ (.slice ao1 (nC + 1) cap1)) L cl 203 63 3 1 intMk nC (len + 0) (nC + 1 + 0) (.slice va len vcap) vC2 ∧ OutsOk k2 (w1.setCell ⟨b, 4, none⟩ (.slice ao1 (nC + 1) cap1)) L 202 57 59 3 recMk vR nR ∧ OutsOk k2 (w1.setCell ⟨b, 4, none⟩ (.slice ao1 (nC + 1) cap1)) L 201 51 53 2 cutMk vI nI) :=
        hide ⟨k1, _, eA, g2, hO1, oR2, oI2⟩
      clear g1 g2 g3 hO1 eA oR2 oI2 oR1 oI1 hR1 hE1 x2 xf xl rC1a hB1a e2 HRC2 rC3' rC1' y2 yf hB1 HV hE rC1 hB z2 h
      go_loopw [1, 6] (fun l i wz => ∃ j : Nat, j ≤ 3 ∧ i = .int .i64 j ∧ (∃ la lc, l = .slice la (len + j) lc) ∧ Hid (∃ k2 vC2, Evo k k2 (fun c => c = 200 ∨ c = 203 ∨ c = cl) w wz ∧ Blk k2 wz 200 b 48 [.pointer (some ⟨px, 0, none⟩), .pointer (some ⟨py, 0, none⟩), vI, vR, vC2] ∧
        OwnSt k2 wz L cl 203 63 3 1 intMk nC (len + j) (nC + 1 + j) l vC2 ∧ OutsOk k2 wz L 202 57 59 3 recMk vR nR ∧ OutsOk k2 wz L 201 51 53 2 cutMk vI nI)) (fun _ i _ => 3 - (intOf i).toNat)
      case atStart => exact ⟨0, by omega, rfl, ⟨va, vcap, rfl⟩, HA⟩
      case round =>
        obtain ⟨j2, hj2, rfl, ⟨la, lc, rfl⟩, HS⟩ := hrel
        by_cases hlt2 : j2 < 3
        · obtain ⟨k2, vC2, eA, hB2, hO2, oR2, oI2⟩ := HS.out
          obtain ⟨rows2, ra, rb, rd, rf⟩ := hO2
          obtain ⟨xa, xc, hxf, _⟩ := ra.form
          rw [rb] at hxf
          subst hxf
          clear HS HA
          have eb : Evo k2 k2 noC wr (wr.alloc (Obj.cells #[.int .i64 (-1 - (nC : Int))] 3)) := (Evo.refl _ _ _).alloc _
          have rfa := rf.evo eb (noC_not _)
          have HRB := hide rb
          have HRD := hide rd
          clear rb rd
          have hnw : ∀ j u, ([intMk nC] : List (List Value)).flatten[j]? = some u → (wr.alloc (Obj.cells #[.int .i64 (-1 - (nC : Int))] 3)).cell? ((⟨wr.heap.size, 0, none⟩ : Addr).add j) = some u := fun j u hj => cell_one_new' wr (intMk nC) 3 j u (by simpa using hj)
          have hBb := hB2.evo eb (noC_not _)
          have rab := ra.evo eb (noC_not _)
          go_wp2_with (first
            | (at_builtin; refine wpList_append_rows2 k2 cl (.tmp 39) (.tmp 42) 61 3 _ 1 8 _ (List.replicate (len + j2) (intMk nC)) [intMk nC] (len + j2) ⟨wr.heap.size, 0, none⟩ 1 1 (by simp) rfl rfl Tryz.underlying61 Tryz.infoInt rfl (by decide) rfl rfl rfa rfl (by simp [intMk]) hnw (by simp [intMk, Value.oneCell']) (by simp only [maxLen]; omega) (by omega) ?_; intro ao2 cap2 w2 k3 hR3 hE3 hkeep; have hBc := hBb.evo hE3 (by omega); have x2 : w2.cell? ⟨b, 4, none⟩ = some (.slice xa (nC + 1 + j2) xc) := hBc.cell 4; have xl := hBc.lt; have rac := rab.evo hE3 (by omega); have ed : Evo k3 k3 noC w2 (w2.alloc (Obj.cells #[.slice ao2 (len + j2 + 1) cap2, .int .i64 nC] 63)) := (Evo.refl _ _ _).alloc _; have rad := rac.evo ed (noC_not _); have hBd := hBc.evo ed (noC_not _))
            | (at_builtin; refine wpList_append_rows k3 203 (.tmp 48) (.tmp 52) 46 63 _ 2 32 _ rows2 [[.slice ao2 (len + j2 + 1) cap2, .int .i64 nC]] (nC + 1 + j2) ⟨w2.heap.size, 0, none⟩ 1 1 HRB.out rfl rfl Tryz.underlying46 Tryz.infoIntsOut rfl (by decide) rfl rfl rad rfl (by simp) (fun j u hj => cell_one_new' w2 [.slice ao2 (len + j2 + 1) cap2, .int .i64 nC] 63 j u (by simpa using hj)) (by simp [Value.oneCell']) (by simp only [maxLen]; omega) (by omega) ?_; intro ao3 cap3 w3 k4 hR4 hE4; have hBe := hBd.evo hE4 (by decide); have x3 : w3.cell? ⟨b, 4, none⟩ = some (.slice xa (nC + 1 + j2) xc) := hBe.cell 4; have xf3 := hBe.free 4))
          go_roundw
          case rel =>
            have hd3 := grow_rows HRD.out eb hE3 hkeep (fun c hc e => hcl (e ▸ hc))
            have hv3 : Rows k3 w2 cl 3 1 (.slice ao2 (len + j2 + 1) cap2) (List.replicate (len + j2 + 1) (intMk nC)) := by rw [List.replicate_succ']; exact hR3
            have hO4 := OwnSt.push HRB.out hd3 hv3 ed hR4 hE4 (by omega) (fun c hc e => by have := hL c hc; omega)
            obtain ⟨g1, g2, g3⟩ := push_fin ed hBd (by decide) hR4 hE4 4
            have es : Evo k4 k4 (fun c => c = 200) w3 (w3.setCell ⟨b, 4, none⟩ (.slice ao3 (nC + 1 + j2 + 1) cap3)) := (Evo.refl _ _ _).setCell _ _ (fun _ => g2.2)
            have hO5 := hO4.evo es (by omega) (by decide) (fun c hc e => by have := hL c hc; omega)
            have eL : ∀ c, L c → ¬ (c = 200 ∨ c = 203 ∨ c = cl) := fun c hc e => by
              have := hL c hc
              rcases e with e | e | e
              · omega
              · omega
              · exact hcl (e ▸ hc)
            have eT : Evo k2 k4 (fun c => c = 200 ∨ c = 203 ∨ c = cl) wr (w3.setCell ⟨b, 4, none⟩ (.slice ao3 (nC + 1 + j2 + 1) cap3)) :=
              (eb.mono (fun _ h => h.elim)).trans ((hE3.mono (fun c h => .inr (.inr h))).trans (g1.mono (fun c h => by rcases h with h | h <;> simp [h])))
            exact ⟨j2 + 1, by omega, by go_num, ⟨ao2, cap2, rfl⟩, hide ⟨k4, _, eA.trans eT, g2, hO5, oR2.evo eT eL (by omega), oI2.evo eT eL (by omega)⟩⟩
          case measure => simp [intOf]; omega
        · obtain ⟨k2, vC2, eA, hB2, hO2, oR2, oI2⟩ := HS.out
          have hj3 : j2 = 3 := by omega
          subst hj3
          clear HS HA
          go_wp2_with fail
          go_end0
          exact ⟨rfl, k2, eA, ⟨vI, vR, vC2, hB2, oI2.more (fun c h => .inl h), oR2.more (fun c h => .inl h), by simpa [Nat.add_assoc] using hO2.outs hnC (by omega)⟩⟩
end Go.Proofs.YtfpbkghcjaonlaaGreat
