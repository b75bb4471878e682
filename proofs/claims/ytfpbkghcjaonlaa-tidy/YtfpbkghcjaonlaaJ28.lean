import Derived.Test.YtfpbkghcjaonlaaJ27
/-
  sixfoldlaw: tidy.
-/
namespace Go.Proofs.Ytfpbkghcjaonlaa.Sim
open Go.RowKit

theorem recs_first (l : List Ent) (g : RSeg) (hg : g.entries = l) (ho : EntsOk l) : ∀ n, n ≤ sclOf l → (recsUp l true n).length = n ∧ ∀ i (h : i < (recsUp l true n).length), (recsUp l true n)[i].lsn = (i : Int) + 1
  | 0, _ => by
    have e : recsUp l true 0 = [] := by unfold recsUp; simp
    rw [e]
    exact ⟨rfl, fun i h => by simp at h⟩
  | n + 1, hn => by
    obtain ⟨h1, h2⟩ := recs_first l g hg ho n (by omega)
    subst hg
    obtain ⟨e, he⟩ := scl_kept g ho (n + 1) (by omega) hn
    have hl := (keptAt_eq he).1
    have e2 : ((entIdx g.entries ((n : Int) + 1)).bind fun j => g.entries[j]?.bind fun e => if e.kept == true then some e else none) = some e := by
      have e3 : ((entIdx g.entries ((n : Int) + 1)).bind fun j => g.entries[j]?.bind fun e => if e.kept == true then some e else none) = (g.entries.find? (entHit ((n : Int) + 1))).bind fun e => if e.kept == true then some e else none := by
        rw [← entIdx_find]
        cases entIdx g.entries ((n : Int) + 1) <;> rfl
      rw [e3]
      rw [keptAt_find] at he
      simpa using he
    have hs := recsUp_succ g.entries true n
    rw [e2] at hs
    simp only [Option.toList_some] at hs
    rw [hs]
    refine ⟨by simp [h1], fun i hi => ?_⟩
    by_cases hin : i < (recsUp g.entries true n).length
    · rw [List.getElem_append_left hin]; exact h2 i hin
    · have hie : i = n := by simp at hi; omega
      subst hie
      rw [List.getElem_append_right (by omega)]
      simp only [h1, Nat.sub_self, List.getElem_cons_zero]
      omega
theorem recs_pre (l : List Ent) (kk : Bool) (m : Nat) : ∀ d, recsUp l kk m <+: recsUp l kk (m + d)
  | 0 => List.prefix_refl _
  | d + 1 => by
    have h1 := recs_pre l kk m d
    have := recsUp_succ l kk (m + d)
    rw [show m + (d + 1) = m + d + 1 from rfl, this]
    exact h1.trans (List.prefix_append _ _)
/-- The first records of what is kept. -/
theorem kept_scl {g : RSeg} (ho : EntsOk g.entries) : sclOf g.entries ≤ (recsUp g.entries true 40).length ∧ (∀ i (h : i < (recsUp g.entries true 40).length), i < sclOf g.entries → (recsUp g.entries true 40)[i].lsn = (i : Int) + 1) ∧ ∀ h : sclOf g.entries < (recsUp g.entries true 40).length, (recsUp g.entries true 40)[sclOf g.entries].lsn ≠ (sclOf g.entries : Int) + 1 := by
  have h40 := scl_le40 g ho
  obtain ⟨h1, h2⟩ := recs_first g.entries g rfl ho (sclOf g.entries) (Nat.le_refl _)
  have hp := recs_pre g.entries true (sclOf g.entries) (40 - sclOf g.entries)
  rw [show sclOf g.entries + (40 - sclOf g.entries) = 40 from by omega] at hp
  refine ⟨by have := hp.length_le; omega, fun i h hi => ?_, fun h he => ?_⟩
  · have := hp.getElem (i := i) (by omega)
    rw [← this]
    exact h2 i (by omega)
  · obtain ⟨q1, q2, q3, q4, q5, q6⟩ := recs_at g.entries true 40 _ (List.getElem_mem h)
    have : sclOf g.entries + 1 ≤ sclOf g.entries := by
      refine scl_ge (fun i a b => ?_)
      by_cases hi : i ≤ sclOf g.entries
      · exact scl_pl g ho i a hi
      · have hie : (i : Int) = (recsUp g.entries true 40)[sclOf g.entries].lsn := by omega
        unfold plOf
        rw [hie, q6]
        simp only [q3]
        rfl
    omega

set_option maxRecDepth 3000 in
set_option maxHeartbeats 16000000 in
theorem pl_tidy {k : Nat → Nat} {w : World} {b px : Nat} {P : PSt} (h : Pl k w b px P) (s : Nat) (g : RSeg) (hg : P.r.segs[s]? = some g) :
    Calls Try.prog 23 #[.pointer (some ⟨b, 0, none⟩), .int .i64 s] w fun e w' => e = .returned (.bool true) ∧ Below w.heap.size w w' := by
  have HC := hide (pl_segment h s g hg)
  have hgi := h.segInv hg
  have hgm := List.mem_of_getElem? hg
  obtain ⟨z0, hbl⟩ := h.ptr
  have h9 := h.2.p9
  have hlen := h.2.len
  have hc9 := hgi.ct.len9 h.2.inv
  have hepp : g.epoch ≤ (P.pens.length : Int) := by have := (h.2.saf.ep g hgm).2; omega
  have hsrt := (hgi.ct.sorted h.2.inv).1
  have hep := h.2.saf.ep g hgm
  have hrng : ∀ (kk : Bool), ∀ e ∈ recsUp g.entries kk 40, 1 ≤ e.lsn ∧ e.lsn ≤ 40 ∧ 1 ≤ e.epoch ∧ e.epoch ≤ (P.pens.length : Int) := fun kk e he => by
    obtain ⟨q1, q2, q3, q4, q5, _⟩ := recs_at g.entries kk 40 e he
    obtain ⟨_, _, p, d, _⟩ := (hgi.recs e q1 q2).1
    have := d.pos
    have := d.le
    exact ⟨q4, q5, by omega, by omega⟩
  have hgood : ∀ (kk : Bool), ∀ e ∈ recsUp g.entries kk 40, (∃ c ∈ g.cuts, c.1 = e.epoch) ∧ (∀ c ∈ g.cuts, c.1 = e.epoch → c.2 < e.lsn) ∧ ∀ c ∈ g.cuts, e.epoch < c.1 → e.lsn ≤ c.2 := fun kk e he => by
    obtain ⟨q1, q2, q3, q4, q5, _⟩ := recs_at g.entries kk 40 e he
    obtain ⟨hr, hgd⟩ := hgi.recs e q1 q2
    obtain ⟨r1, r2⟩ := good_mem hgd
    refine ⟨r1, fun c hc hce => ?_, r2⟩
    obtain ⟨_, _, p, d, hb, _⟩ := hr
    obtain ⟨t, ht⟩ : ∃ t, t = topOf g.cuts := ⟨_, rfl⟩
    have ht0 : topOf g.cuts ≠ 0 := by
      intro h0
      rw [hgi.ct.zero h0] at hc
      simp at hc
    obtain ⟨pt, dt, hL⟩ := hgi.ct.dec ht0
    rw [hL] at hc
    obtain ⟨q', d', hc2⟩ := chain h.2.inv _ (Nat.le_refl _) dt c hc
    rw [hce] at d'
    rw [hc2, d'.uniq d]
    exact hb
  have hcut : ∀ c ∈ g.cuts, c.1 ≤ g.epoch ∧ 0 ≤ c.2 := fun c hc => by
    have ht := hgi.top
    have hmx := top_max hsrt c hc
    refine ⟨by omega, ?_⟩
    have ht0 : topOf g.cuts ≠ 0 := by
      intro h0
      rw [hgi.ct.zero h0] at hc
      simp at hc
    obtain ⟨pt, dt, hL⟩ := hgi.ct.dec ht0
    rw [hL] at hc
    obtain ⟨q', d', hc2⟩ := chain h.2.inv _ (Nat.le_refl _) dt c hc
    omega
  have hdis : ∀ x ∈ recsUp g.entries false 40, ∀ y ∈ recsUp g.entries true 40, x.lsn ≠ y.lsn := fun x hx y hy he => by
    obtain ⟨_, _, p3, _, _, p6⟩ := recs_at g.entries false 40 x hx
    obtain ⟨_, _, q3, _, _, q6⟩ := recs_at g.entries true 40 y hy
    rw [he, q6] at p6
    have := Option.some.inj p6
    rw [this] at q3
    rw [p3] at q3
    simp at q3
  have hdown : g.up = false → (recsUp g.entries false 40).length = 0 := fun hu => by
    cases hb : recsUp g.entries false 40 with
    | nil => rfl
    | cons x t =>
      obtain ⟨q1, q2, q3, _⟩ := recs_at g.entries false 40 x (by rw [hb]; exact List.mem_cons_self)
      have := h.2.saf.dn g hgm hu x q1 q2
      rw [q3] at this
      simp at this
  have hK := kept_scl hgi.ents
  have hri : ∀ kk : Bool, (recsUp g.entries kk 40).Pairwise (fun a b => a.lsn < b.lsn) := fun kk => recs_rise g.entries kk 40
  have hl40 := fun kk => recsUp_len40 g.entries kk
  obtain ⟨pa, pcap, z3, -, -⟩ := h.arr
  have HH := hide h
  have HD := hide (And.intro hrng (And.intro hgood (And.intro hcut (And.intro hdis (And.intro hK (And.intro hri hsrt))))))
  have hk40 := hl40 true
  have hb40 := hl40 false
  clear h hg hgi hgm hrng hgood hcut hdis hK hri hsrt hl40 hlen
  unfold segV at HC
  go_enter Try.func23, Try.ntmps23
  go_wp2_with fail
  refine HC.out.mono ?_
  rintro e2 w2 ⟨vc, vk, vb, rfl, hT2, hb2⟩
  obtain ⟨ak, kcap, hvk, _⟩ := recs_cells hT2.kp
  obtain ⟨ac, ccap, hvc, _⟩ := cuts_cells hT2.c
  obtain ⟨ab, bcap, hvb, _⟩ := recs_cells hT2.bf
  subst hvk hvc hvb
  have HTk := hide hT2
  obtain ⟨lk, hlk⟩ : ∃ lk, lk = recsUp g.entries true 40 := ⟨_, rfl⟩
  obtain ⟨lb, hlb⟩ : ∃ lb, lb = recsUp g.entries false 40 := ⟨_, rfl⟩
  simp only [← hlk, ← hlb] at HTk hk40 hb40 hdown ⊢
  have HEq := hide (And.intro hlk hlb)
  have HB2 := hide hb2
  have hs2 := hb2.size
  have y3 : w2.cell? ⟨b, 3, none⟩ = some (.slice pa P.pens.length pcap) := (hb2.cell (p := ⟨b, 3, none⟩) hbl).trans z3
  have hbl2 : b < w2.heap.size := by omega
  clear HC hT2 hb2 z0 hlk hlb z3
  obtain ⟨W2, hW2⟩ : ∃ W2, W2 = w2.alloc (Obj.cells #[.bool g.up, .int .i64 g.epoch, .int .i64 (sclOf g.entries), .slice ac g.cuts.length ccap, .slice ak lk.length kcap, .slice ab lb.length bcap] 66) := ⟨_, rfl⟩
  obtain ⟨A, hA⟩ : ∃ A, A = w2.heap.size := ⟨_, rfl⟩
  have HS2 : Hid (∃ k2, Below w.heap.size w W2 ∧ RecsIn k2 W2 ak kcap lk ∧ RecsIn k2 W2 ab bcap lb ∧ CutsIn k2 W2 ac ccap g.cuts ∧ Blk k2 W2 0 A 66 [.bool g.up, .int .i64 g.epoch, .int .i64 (sclOf g.entries), .slice ac g.cuts.length ccap, .slice ak lk.length kcap, .slice ab lb.length bcap] ∧ W2.cell? ⟨b, 3, none⟩ = some (.slice pa P.pens.length pcap) ∧ b < W2.heap.size) := hide (by
    have hb2 := HB2.out
    have hbA : Below w2.heap.size w2 W2 := by rw [hW2]; exact (Below.refl _ _).alloc (Nat.le_refl _) _
    have hbw : Below w.heap.size w W2 := hb2.trans (hbA.mono hs2)
    have e2 : Evo (fun x => if x < w.heap.size then k x else 0) (fun x => if x < w.heap.size then k x else 0) noC w2 W2 := Evo.of_below hbA
    have hk := HTk.out.kp.evo e2 (noC_not _)
    have hb := HTk.out.bf.evo e2 (noC_not _)
    have hc := HTk.out.c.evo e2 (noC_not _)
    rw [← HEq.out.1] at hk
    rw [← HEq.out.2] at hb
    exact ⟨_, hbw, hk, hb, hc, ⟨by rw [hW2, hA]; exact heap_alloc_new w2 _, if_neg (by omega)⟩, (evo_cell e2 hbl2 (noC_not _) 3).trans y3, Nat.lt_of_lt_of_le hbl2 e2.size⟩)
  obtain ⟨k2, hS2⟩ := HS2.out
  have HS := hide hS2
  have HFn : Hid (∀ X, Evo k2 k2 noC W2 X → Below w.heap.size w X) := hide (fun X hX => by
    have h1 := HS.out.1
    have hs := h1.size
    exact ⟨hX.os.trans h1.os, hX.tape.trans h1.tape, hX.output.trans h1.output, by have := hX.size; omega, fun x hx => (hX.keep x (by omega) (noC_not _)).trans (h1.block x hx)⟩)
  -- the calls
  have HRk : Hid (∀ X, Evo k2 k2 noC W2 X → Calls Try.prog 48 #[.pointer (some ⟨b, 0, none⟩), .slice ak lk.length kcap] X fun e w' => e = .returned (.bool true) ∧ Evo k2 k2 noC X w') := hide (fun X hX => by
    obtain ⟨_, q1, q2, q3, q4, q5, q6⟩ := HS.out
    have hl : RecsIn k2 X ak kcap lk := Rows.evo q1 hX (noC_not _)
    exact rising_any ((evo_cell hX q6 (noC_not _) 3).trans q5) (Nat.lt_of_lt_of_le q6 hX.size) hl hk40 (by rw [HEq.out.1]; exact HD.out.1 true) (by rw [HEq.out.1]; exact HD.out.2.2.2.2.2.1 true))
  have HRb : Hid (∀ X, Evo k2 k2 noC W2 X → Calls Try.prog 48 #[.pointer (some ⟨b, 0, none⟩), .slice ab lb.length bcap] X fun e w' => e = .returned (.bool true) ∧ Evo k2 k2 noC X w') := hide (fun X hX => by
    obtain ⟨_, q1, q2, q3, q4, q5, q6⟩ := HS.out
    have hl : RecsIn k2 X ab bcap lb := Rows.evo q2 hX (noC_not _)
    exact rising_any ((evo_cell hX q6 (noC_not _) 3).trans q5) (Nat.lt_of_lt_of_le q6 hX.size) hl hb40 (by rw [HEq.out.2]; exact HD.out.1 false) (by rw [HEq.out.2]; exact HD.out.2.2.2.2.2.1 false))
  have HAk : Hid (∀ X, Evo k2 k2 noC W2 X → Calls Try.prog 49 #[.slice ak lk.length kcap, .slice ac g.cuts.length ccap] X fun e w' => e = .returned (.bool true) ∧ Evo k2 k2 noC X w') := hide (fun X hX => by
    obtain ⟨_, q1, q2, q3, q4, q5, q6⟩ := HS.out
    have hl : RecsIn k2 X ak kcap lk := Rows.evo q1 hX (noC_not _)
    have hc : CutsIn k2 X ac ccap g.cuts := Rows.evo q3 hX (noC_not _)
    exact allowed_any hl hc hk40 hc9 (by rw [HEq.out.1]; exact HD.out.2.1 true))
  have HAb : Hid (∀ X, Evo k2 k2 noC W2 X → Calls Try.prog 49 #[.slice ab lb.length bcap, .slice ac g.cuts.length ccap] X fun e w' => e = .returned (.bool true) ∧ Evo k2 k2 noC X w') := hide (fun X hX => by
    obtain ⟨_, q1, q2, q3, q4, q5, q6⟩ := HS.out
    have hl : RecsIn k2 X ab bcap lb := Rows.evo q2 hX (noC_not _)
    have hc : CutsIn k2 X ac ccap g.cuts := Rows.evo q3 hX (noC_not _)
    exact allowed_any hl hc hb40 hc9 (by rw [HEq.out.2]; exact HD.out.2.1 false))
  have HCells : Hid (∀ X, Evo k2 k2 noC W2 X → X.cell? ⟨A, 0, none⟩ = some (.bool g.up) ∧ X.cell? ⟨A, 1, none⟩ = some (.int .i64 g.epoch) ∧ X.cell? ⟨A, 2, none⟩ = some (.int .i64 (sclOf g.entries)) ∧ X.cell? ⟨A, 3, none⟩ = some (.slice ac g.cuts.length ccap) ∧ X.cell? ⟨A, 4, none⟩ = some (.slice ak lk.length kcap) ∧ X.cell? ⟨A, 5, none⟩ = some (.slice ab lb.length bcap) ∧ A < X.heap.size ∧ X.cell? ⟨b, 3, none⟩ = some (.slice pa P.pens.length pcap) ∧ b < X.heap.size) := hide (fun X hX => by
    obtain ⟨_, q1, q2, q3, q4, q5, q6⟩ := HS.out
    have hA := q4.evo hX (noC_not _)
    exact ⟨hA.cell 0, hA.cell 1, hA.cell 2, hA.cell 3, hA.cell 4, hA.cell 5, hA.lt, (evo_cell hX q6 (noC_not _) 3).trans q5, Nat.lt_of_lt_of_le q6 hX.size⟩)
  clear hS2 HS2 HB2 HTk HH hs2 y3 hbl2 hbl
  obtain ⟨nk, hnk⟩ : ∃ nk, nk = lk.length := ⟨_, rfl⟩
  obtain ⟨nb, hnb⟩ : ∃ nb, nb = lb.length := ⟨_, rfl⟩
  obtain ⟨nc, hnc⟩ : ∃ nc, nc = g.cuts.length := ⟨_, rfl⟩
  rw [← hnk] at HRk HAk HCells hk40 hW2
  rw [← hnb] at HRb HAb HCells hb40 hdown hW2
  rw [← hnc] at HAk HAb HCells hc9 hW2
  rw [← hnk, ← hnb, ← hnc]
  have HNn := hide (And.intro hnk (And.intro hnb hnc))
  clear hnk hnb hnc
  go_wp2_with fail
  rw [← hW2, ← hA]
  clear hW2 hA
  refine (HRk.out _ (Evo.refl _ _ _)).mono ?_
  rintro e3 w3 ⟨rfl, ev3⟩
  obtain ⟨a0, a1, a2, a3, a4, a5, al, y3, yl⟩ := HCells.out _ ev3
  have HR2 := hide (HRb.out _ ev3)
  go_wp2_with fail
  refine HR2.out.mono ?_
  rintro e4 w4 ⟨rfl, ev4⟩
  have ev4' := ev3.trans ev4
  clear ev3 ev4 a0 a1 a2 a3 a4 a5 al y3 yl HR2
  obtain ⟨a0, a1, a2, a3, a4, a5, al, y3, yl⟩ := HCells.out _ ev4'
  have HR2 := hide (HAk.out _ ev4')
  go_wp2_with fail
  refine HR2.out.mono ?_
  rintro e5 w5 ⟨rfl, ev5⟩
  have ev5' := ev4'.trans ev5
  clear ev4' ev5 a0 a1 a2 a3 a4 a5 al y3 yl HR2
  obtain ⟨a0, a1, a2, a3, a4, a5, al, y3, yl⟩ := HCells.out _ ev5'
  have HR2 := hide (HAb.out _ ev5')
  go_wp2_with fail
  refine HR2.out.mono ?_
  rintro e6 w6 ⟨rfl, ev6⟩
  have ev6' := ev5'.trans ev6
  clear ev5' ev6 a0 a1 a2 a3 a4 a5 al y3 yl HR2
  obtain ⟨a0, a1, a2, a3, a4, a5, al, y3, yl⟩ := HCells.out _ ev6'
  have E6 := hide ev6'
  clear ev6' HRk HRb HAk HAb
  have p1 : decide (g.epoch < 0) = false := by simp; omega
  have p2 : decide ((P.pens.length : Int) < g.epoch) = false := by rw [decide_eq_false_iff_not]; omega
  have hupd : g.up = true ∨ (g.up = false ∧ nb = 0) := by
    cases hu : g.up with
    | true => exact .inl rfl
    | false => exact .inr ⟨rfl, hdown hu⟩
  have dz : g.up = true ∨ (g.up = false ∧ decide ((0 : Int) < (nb : Int)) = false ∧ decide (0 < nb) = false ∧ ¬ 0 < nb) := by
    rcases hupd with hu | ⟨hu, hb⟩
    · exact .inl hu
    · exact .inr ⟨hu, by rw [hb]; rfl, by rw [hb]; rfl, by omega⟩
  have HUp : Hid (∃ u, g.up = u) := hide ⟨_, rfl⟩
  clear hupd hdown
  rcases dz with hu | ⟨hu, z1, z2, z3⟩
  all_goals
    rw [hu] at a0
    clear hu
    go_wp2_with fail
    go_region
    go_wp2_with fail
    have E7 := hide (E6.out.drew)
    try clear z1 z2 z3
    clear a0 a1 a2 a3 a4 a5 al y3 yl E6
    go_loopw [11] (fun v wr => ∃ j : Nat, j ≤ nc ∧ v = .int .i64 j ∧ Hid (Evo k2 k2 noC W2 wr)) (fun v _ => nc - (intOf v).toNat)
    case atStart => exact ⟨0, Nat.zero_le _, rfl, E7⟩
    case round =>
      obtain ⟨j, hj, rfl, hst⟩ := hrel
      obtain ⟨a0, a1, a2, a3, a4, a5, al, y3, yl⟩ := HCells.out _ hst.out
      by_cases hlt : j < nc
      · have hd : decide ((j : Int) < (nc : Int)) = true := by simp; omega
        have hjl : j < g.cuts.length := by rw [← HNn.out.2.2]; exact hlt
        have hCr : CutsIn k2 wr ac ccap g.cuts := Rows.evo HS.out.2.2.2.1 hst.out (noC_not _)
        obtain ⟨cg, rfl, hcg, c0, c1⟩ := hCr.at j hjl
        obtain ⟨f1, f2⟩ := HD.out.2.2.1 _ (List.getElem_mem hjl)
        have d1 : decide (g.epoch < g.cuts[j].1) = false := by simp; omega
        have d2 : decide (g.cuts[j].2 < 0) = false := by simp; omega
        have hw : IntKind.i64.wrap ((j : Int) + 1) = ((j + 1 : Nat) : Int) := by rw [IntKind.wrap_i64] <;> omega
        by_cases hj0 : j = 0
        · subst hj0
          generalize g.cuts[0] = x at *
          clear hCr hjl f1 f2 a0 a2 a4 a5 y3 yl
          go_wp2_with fail
          go_region
          go_wp2_with fail
          go_roundw
          case rel => exact ⟨1, by omega, by go_num, hide hst.out.drew⟩
          case measure => simp [intOf]; omega
        · have hjm : j - 1 < g.cuts.length := by omega
          obtain ⟨cg', hce, hcg', m0, _⟩ := hCr.at (j - 1) hjm
          simp only [Option.some.injEq, Addr.mk.injEq, and_true] at hce
          subst hce
          have hri : g.cuts[j - 1].1 < g.cuts[j].1 := List.pairwise_iff_getElem.1 HD.out.2.2.2.2.2.2 (j - 1) j hjm hjl (by omega)
          have d5 : decide (g.cuts[j].1 ≤ g.cuts[j - 1].1) = false := by simp; omega
          have q0 : decide ((0 : Int) < (j : Int)) = true := by simp; omega
          have q0' : decide (0 < j) = true := by simp; omega
          have q0'' : 0 < j := by omega
          have hw2 : IntKind.i64.wrap ((j : Int) - 1) = ((j - 1 : Nat) : Int) := by rw [IntKind.wrap_i64] <;> omega
          have hjm2 : j - 1 < nc := by omega
          generalize g.cuts[j - 1] = x' at *
          generalize g.cuts[j] = x at *
          generalize j - 1 = j' at *
          clear hCr hjl hjm f1 f2 hri a0 a2 a4 a5 y3 yl
          go_wp2_with fail
          go_region
          go_wp2_with fail
          go_roundw
          case rel => exact ⟨j + 1, by omega, by go_num, hide hst.out.drew⟩
          case measure => simp [intOf]; omega
      · have hd : decide ((j : Int) < (nc : Int)) = false := by simp; omega
        have E8 := hst
        clear a0 a1 a2 a4 a5 y3 yl
        go_wp2_with fail
        go_loopw [12] (fun v wr => ∃ x : Nat, x ≤ nb ∧ v = .int .i64 x ∧ Hid (Evo k2 k2 noC W2 wr)) (fun v _ => nb - (intOf v).toNat)
        case atStart => exact ⟨0, Nat.zero_le _, rfl, E8⟩
        case round =>
          obtain ⟨x, hx, rfl, hst⟩ := hrel
          obtain ⟨a0, a1, a2, a3, a4, a5, al, y3, yl⟩ := HCells.out _ hst.out
          by_cases hlt : x < nb
          · have hd : decide ((x : Int) < (nb : Int)) = true := by simp; omega
            have hxl : x < lb.length := by rw [← HNn.out.2.1]; exact hlt
            have HBx : Hid (∀ X, Evo k2 k2 noC W2 X → ∃ lg, ab = some ⟨lg, 0, none⟩ ∧ lg < X.heap.size ∧ X.cell? ⟨lg, x * 3, none⟩ = some (.int .i64 lb[x].lsn)) := hide (fun X hX => by
              have hr : RecsIn k2 X ab bcap lb := Rows.evo HS.out.2.2.1 hX (noC_not _)
              obtain ⟨lg, q1, q2, q3, _⟩ := hr.at x hxl
              exact ⟨lg, q1, q2, q3⟩)
            have HDx : Hid (∀ y ∈ lk, lb[x].lsn ≠ y.lsn) := hide (fun y hy => HD.out.2.2.2.1 _ (by rw [← HEq.out.2]; exact List.getElem_mem hxl) y (by rw [← HEq.out.1]; exact hy))
            generalize lb[x] = e at *
            have hw : IntKind.i64.wrap ((x : Int) + 1) = ((x + 1 : Nat) : Int) := by rw [IntKind.wrap_i64] <;> omega
            have E9 := hst
            clear hst a0 a1 a2 a3 a4 y3 yl hxl
            go_wp2_with fail
            go_loopw [13] (fun v wr => ∃ y : Nat, y ≤ nk ∧ v = .int .i64 y ∧ Hid (Evo k2 k2 noC W2 wr)) (fun v _ => nk - (intOf v).toNat)
            case atStart => exact ⟨0, Nat.zero_le _, rfl, E9⟩
            case round =>
              obtain ⟨y, hy, rfl, hst⟩ := hrel
              obtain ⟨a0, a1, a2, a3, a4, a5', al', y3, yl⟩ := HCells.out _ hst.out
              by_cases hlty : y < nk
              · have hd2 : decide ((y : Int) < (nk : Int)) = true := by simp; omega
                have hyl : y < lk.length := by rw [← HNn.out.1]; exact hlty
                have hkr : RecsIn k2 wr ak kcap lk := Rows.evo HS.out.2.1 hst.out (noC_not _)
                obtain ⟨kg, rfl, hkg, m0, -, -⟩ := hkr.at y hyl
                obtain ⟨bg, rfl, hbg, m1⟩ := HBx.out _ hst.out
                have hne := HDx.out _ (List.getElem_mem hyl)
                generalize lk[y] = e' at *
                have d1 : (e.lsn == e'.lsn) = false := by simpa using hne
                have hw2 : IntKind.i64.wrap ((y : Int) + 1) = ((y + 1 : Nat) : Int) := by rw [IntKind.wrap_i64] <;> omega
                clear hkr hyl hne a0 a1 a2 a3 y3 yl a5
                go_wp2_with fail
                go_region
                go_wp2_with fail
                go_roundw
                case rel => exact ⟨y + 1, by omega, by go_num, hide hst.out.drew⟩
                case measure => simp [intOf]; omega
              · have hd2 : decide ((y : Int) < (nk : Int)) = false := by simp; omega
                clear a0 a1 a2 a3 y3 yl a5
                go_wp2_with fail
                go_roundw
                case rel => exact ⟨x + 1, by omega, by go_num, hst⟩
                case measure => simp [intOf]; omega
          · have hd : decide ((x : Int) < (nb : Int)) = false := by simp; omega
            have E9 := hst
            clear hst a0 a1 a2 a3 a4 y3 yl
            have hsc : sclOf g.entries ≤ nk := by rw [HNn.out.1, HEq.out.1]; exact HD.out.2.2.2.2.1.1
            go_wp2_with fail
            go_loopw [14] (fun v wr => ∃ y : Nat, y ≤ sclOf g.entries ∧ v = .int .i64 y ∧ Hid (Evo k2 k2 noC W2 wr)) (fun v _ => nk - (intOf v).toNat)
            case atStart => exact ⟨0, Nat.zero_le _, rfl, E9⟩
            case round =>
              obtain ⟨y, hy, rfl, hst⟩ := hrel
              obtain ⟨a0, a1, a2, a3, a4, a5', al', y3, yl⟩ := HCells.out _ hst.out
              have hw2 : IntKind.i64.wrap ((y : Int) + 1) = (y : Int) + 1 := by rw [IntKind.wrap_i64] <;> omega
              by_cases hlty : y < nk
              · have hd2 : decide ((y : Int) < (nk : Int)) = true := by simp; omega
                have hyl : y < lk.length := by rw [← HNn.out.1]; exact hlty
                have hkr : RecsIn k2 wr ak kcap lk := Rows.evo HS.out.2.1 hst.out (noC_not _)
                obtain ⟨kg, rfl, hkg, m0, -, -⟩ := hkr.at y hyl
                by_cases hys : y < sclOf g.entries
                · have hle : lk[y].lsn = (y : Int) + 1 := by
                    have := HD.out.2.2.2.2.1.2.1 y (by rw [← HEq.out.1]; exact hyl) hys
                    simp only [HEq.out.1]
                    exact this
                  rw [hle] at m0
                  clear hkr hyl hle a0 a1 a2 a3 y3 yl a5
                  go_wp2_with fail
                  go_roundw
                  case rel => exact ⟨y + 1, by omega, by go_num, hst⟩
                  case measure => simp [intOf]; omega
                · have hye : y = sclOf g.entries := by omega
                  have hne : lk[y].lsn ≠ (y : Int) + 1 := by
                    have := HD.out.2.2.2.2.1.2.2 (by rw [← hye, ← HEq.out.1]; exact hyl)
                    simp only [HEq.out.1, hye]
                    exact this
                  have d3 : (lk[y].lsn == (y : Int) + 1) = false := by simpa using hne
                  have hsy : ((sclOf g.entries : Int) == (y : Int)) = true := by rw [hye]; simp
                  generalize lk[y] = e' at *
                  rw [← hye] at a2
                  clear hkr hyl hne hye hys a0 a1 a3 y3 yl a5
                  go_wp2_with fail
                  go_ret
                  exact ⟨by simp, HFn.out _ hst.out⟩
              · have hd2 : decide ((y : Int) < (nk : Int)) = false := by simp; omega
                have hye : y = sclOf g.entries := by omega
                rw [← hye] at a2
                clear hye a0 a1 a3 y3 yl a5
                go_wp2_with fail
                go_ret
                exact ⟨by simp, HFn.out _ hst.out⟩
end Go.Proofs.Ytfpbkghcjaonlaa.Sim

/-
  sixfoldlaw: Tidy, walked.
-/
namespace Go.Proofs.Ytfpbkghcjaonlaa.Sim
open Go.RowKit

section
variable {w wr : World} {b px : Nat} {P : PSt}
theorem LawP.seg (h : LawP w wr b px P) (s : Nat) (hs : s < 6) : ∃ g, P.r.segs[s]? = some g :=
  ⟨P.r.segs[s]'(by rw [h.inv.inv.s6]; exact hs), List.getElem?_eq_getElem _⟩
theorem LawP.tidy (h : LawP w wr b px P) (s : Nat) (hs : s < 6) :
    Calls Try.prog 23 #[.pointer (some ⟨b, 0, none⟩), .int .i64 s] wr fun e w' => e = .returned (.bool true) ∧ LawP w w' b px P := by
  obtain ⟨g, hg⟩ := h.seg s hs
  obtain ⟨k, w1, k', h1, h2, h3, h4⟩ := id h
  exact (pl_tidy h4 s g hg).mono (fun _ _ ⟨e1, e2⟩ => ⟨e1, h.on e2⟩)
theorem LawP.honest (h : LawP w wr b px P) (s : Nat) (hs : s < 6) :
    Calls Try.prog 24 #[.pointer (some ⟨b, 0, none⟩), .int .i64 s] wr fun e w' => e = .returned (.bool true) ∧ LawP w w' b px P := by
  obtain ⟨g, hg⟩ := h.seg s hs
  obtain ⟨k, w1, k', h1, h2, h3, h4⟩ := id h
  exact (pl_honest h4 s g hg).mono (fun _ _ ⟨e1, e2⟩ => ⟨e1, h.on e2⟩)
end

set_option maxRecDepth 3000 in
set_option maxHeartbeats 8000000 in
theorem tidy_law (w : World) (a b : Int) (ha : i64R a) (hb : i64R b) (sa : Option Addr) (n cap : Nat) (hn : n ≤ 9223372036854775807) (hs : ScriptIs w sa n) :
    Calls Try.prog 8 #[.agg #[.int .i64 a, .int .i64 b], .slice sa n cap] w fun e w' => e = .returned (.bool true) ∧ Below w.heap.size w w' := by
  have HSc := hide hs
  have HC := hide (fun W => config_any W a b ha hb)
  clear hs ha hb
  go_enter Try.func8, Try.ntmps8
  go_wp2_with fail
  refine (HC.out _).mono ?_
  rintro e1 w1 ⟨wi, fl, rfl, hc, hb1⟩
  have HB1 : Hid (Below w.heap.size w w1) := hide (((Below.refl w.heap.size w).alloc (Nat.le_refl _) _).trans (hb1.mono (by simp)))
  have HPl := hide (lawP_player w w1 HB1.out wi fl 7 hc)
  clear hc hb1
  go_wp2_with fail
  refine HPl.out.mono ?_
  rintro e2 w2 ⟨pb, px, rfl, h2⟩
  have HO := hide (h2.open_ (by simp [r0]))
  clear h2 HPl
  go_wp2_with fail
  refine HO.out.mono ?_
  rintro e3 w3 ⟨P3, ⟨rfl, hP3⟩, h3⟩
  have H3 : Hid (LawP w w3 pb px P3 ∧ P3.most = 7) := hide ⟨h3, by rw [hP3]; rfl⟩
  clear h3 hP3 HO
  go_wp2_with fail
  go_loopw [7] (fun v wr => ∃ j : Nat, j ≤ n ∧ v = .int .i64 j ∧ ∃ P', Hid (LawP w wr pb px P' ∧ P'.most = 7)) (fun v _ => n - (intOf v).toNat)
  case atStart => exact ⟨0, Nat.zero_le _, rfl, P3, H3⟩
  case round =>
    obtain ⟨j, hj, rfl, P', hst⟩ := hrel
    by_cases hlt : j < n
    · have hd : decide ((j : Int) < (n : Int)) = true := by simp; omega
      obtain ⟨sg, so, K, A, B, rfl, hsg, s0, s1, s2, hA, hB⟩ := HSc.out.below hst.out.1.below j hlt
      have HAct := hide (hst.out.1.act K A B hA hB (by rw [hst.out.2]; decide))
      have HPk := hide (fun W => pickN_any W A 6 hA.1 hA.2 (by omega) (by omega))
      obtain ⟨p1, p2⟩ := pick_lt A 6 (by omega)
      obtain ⟨s, hsp⟩ : ∃ s : Nat, pickOf A 6 = (s : Int) := ⟨(pickOf A 6).toNat, by omega⟩
      have HS6 : Hid (s < 6) := hide (by omega)
      rw [hsp] at HPk
      clear hsp p1 p2
      have HM := hide hst.out.2
      have HBr := hide hst.out.1.below
      have hw : IntKind.i64.wrap ((j : Int) + 1) = ((j + 1 : Nat) : Int) := by rw [IntKind.wrap_i64] <;> omega
      have HKA : Hid (∀ W, Below w.heap.size w W → W.cell? ⟨sg, so + j * 3, none⟩ = some (.int .i64 K) ∧ W.cell? ⟨sg, so + j * 3 + 1, none⟩ = some (.int .i64 A) ∧ sg < W.heap.size) := hide (fun W hW => by
        obtain ⟨g', o', K', A', B', hse, q1, q2, q3, _⟩ := HSc.out j hlt
        simp only [Option.some.injEq, Addr.mk.injEq, and_true] at hse
        obtain ⟨rfl, rfl⟩ := hse
        have t0 := (HBr.out.cell (p := ⟨sg, so + j * 3, none⟩) q1).symm.trans s0
        have t1 := (HBr.out.cell (p := ⟨sg, so + j * 3 + 1, none⟩) q1).symm.trans s1
        exact ⟨(hW.cell (p := ⟨sg, so + j * 3, none⟩) q1).trans t0, (hW.cell (p := ⟨sg, so + j * 3 + 1, none⟩) q1).trans t1, Nat.lt_of_lt_of_le q1 hW.size⟩)
      clear hst
      go_wp2_with fail
      refine HAct.out.mono ?_
      rintro e4 w4 ⟨P4, ⟨rfl, hstep⟩, h4⟩
      obtain ⟨s0', s1', hsg'⟩ := HKA.out _ h4.below
      have HT4 := hide (h4.tidy s HS6.out)
      have H4 : Hid (LawP w w4 pb px P4 ∧ P4.most = 7) := hide ⟨h4, by rw [hstep.1, HM.out]⟩
      clear h4 hstep s0 s1 s2 hsg HAct
      by_cases hK : K = 15
      · subst hK
        go_wp2_with fail
        refine (HPk.out _).mono ?_
        rintro e5 w5 ⟨rfl, hw5⟩
        subst hw5
        go_wp2_with fail
        refine HT4.out.mono ?_
        rintro e6 w6 ⟨rfl, h6⟩
        have H6 : Hid (LawP w w6 pb px P4 ∧ P4.most = 7) := hide ⟨h6, H4.out.2⟩
        clear h6
        go_wp2_with fail
        go_roundw
        case rel => exact ⟨j + 1, by omega, by go_num, P4, H6⟩
        case measure => simp [intOf]; omega
      · have hk : (K == 15) = false := by simpa using hK
        go_wp2_with fail
        go_roundw
        case rel => exact ⟨j + 1, by omega, by go_num, P4, H4⟩
        case measure => simp [intOf]; omega
    · have hd : decide ((j : Int) < (n : Int)) = false := by simp; omega
      have HE := hide hst.out.1
      clear hst
      go_wp2_with fail
      go_loopw [9] (fun v wr => ∃ s : Nat, s ≤ 6 ∧ v = .int .i64 s ∧ Hid (LawP w wr pb px P')) (fun v _ => 6 - (intOf v).toNat)
      case atStart => exact ⟨0, by omega, rfl, HE⟩
      case round =>
        obtain ⟨s, hs, rfl, hst⟩ := hrel
        by_cases hlt6 : s < 6
        · have hd2 : decide ((s : Int) < 6) = true := by simp; omega
          have HT := hide (hst.out.tidy s hlt6)
          have hw : IntKind.i64.wrap ((s : Int) + 1) = ((s + 1 : Nat) : Int) := by rw [IntKind.wrap_i64] <;> omega
          clear hst
          go_wp2_with fail
          refine HT.out.mono ?_
          rintro e4 w4 ⟨rfl, h4⟩
          have HH := hide (h4.honest s hlt6)
          clear h4
          go_wp2_with fail
          refine HH.out.mono ?_
          rintro e5 w5 ⟨rfl, h5⟩
          have H5 := hide h5
          clear h5
          go_wp2_with fail
          go_roundw
          case rel => exact ⟨s + 1, by omega, by go_num, H5⟩
          case measure => simp [intOf]; omega
        · have hd2 : decide ((s : Int) < 6) = false := by simp; omega
          have HA := hide hst.out.all
          clear hst
          go_wp2_with fail
          refine HA.out.mono ?_
          rintro e4 w4 ⟨P4, ⟨rfl, -⟩, h4⟩
          go_wp2_with fail
          go_ret
          exact ⟨rfl, h4.below⟩
end Go.Proofs.Ytfpbkghcjaonlaa.Sim
