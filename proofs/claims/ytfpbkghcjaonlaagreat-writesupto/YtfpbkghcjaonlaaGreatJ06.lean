import Derived.Test.YtfpbkghcjaonlaaGreatJ05
import Derived.Deep.RegionLaw
/-
  sixfoldlaw: looks.
-/
namespace Go.Proofs.YtfpbkghcjaonlaaGreat
open Go.RowKit

theorem cells2 {w : World} {b e : Nat} {c0 c1 : Value} (h : w.heap[b]? = some (.cells #[c0, c1] e (0, 0))) : w.cell? ⟨b, 0, none⟩ = some c0 ∧ w.cell? ⟨b, 1, none⟩ = some c1 := by
  refine ⟨?_, ?_⟩
  all_goals (rw [cell_of_row _ _ _ _ _ _ h]; rfl)

set_option maxHeartbeats 4000000 in
theorem looks_any {k : Nat → Nat} {w : World} {L : Nat → Prop} {b px py nC nR nI : Nat} (h : LawIs k w L b px py nC nR nI) (hC : nC ≤ 4000000000) (hR : nR ≤ 4000000000) (hI : nI ≤ 4000000000) :
    Calls Tryz.prog 11 #[.pointer (some ⟨b, 0, none⟩)] w fun e w' => e = .returned (.bool true) ∧ Below w.heap.size w w' := by
  obtain ⟨vC, vR, vI, hB, oC, oR, oI⟩ := h.ex
  have hbl := hB.lt
  obtain ⟨aC, cC, rfl, hoC⟩ := outs_cells oC
  obtain ⟨aR, cR, rfl, hoR⟩ := outs_cells oR
  obtain ⟨aI, cI, rfl, hoI⟩ := outs_cells oI
  have z2 : w.cell? ⟨b, 2, none⟩ = _ := hB.cell 2
  have z3 : w.cell? ⟨b, 3, none⟩ = _ := hB.cell 3
  have z4 : w.cell? ⟨b, 4, none⟩ = _ := hB.cell 4
  simp only [List.getElem?_cons_zero, List.getElem?_cons_succ] at z2 z3 z4
  clear hB oC oR oI h
  go_enter Tryz.func11, Tryz.ntmps11
  go_wp2
  go_loopw [3] (fun i wr => Below w.heap.size w wr ∧ ∃ j : Nat, j ≤ nC ∧ i = .int .i64 j) (fun i _ => nC - (intOf i).toNat)
  case atStart => exact ⟨Below.refl _ _, 0, Nat.zero_le _, rfl⟩
  case round =>
    obtain ⟨hBw, j, hj, rfl⟩ := hrel
    have hsz := hBw.size
    have y2 := (hBw.cell (p := ⟨b, 2, none⟩) hbl).trans z2
    by_cases hlt : j < nC
    · have hd : decide ((j : Int) < (nC : Int)) = true := by simp; omega
      obtain ⟨g, x, m, len, c2, rfl, p0, p1, hm, hlen, hx⟩ := hoC j hlt
      have hgl := World.block_lt_of_cell? w _ p0
      have q0 := (hBw.cell (p := ⟨g, j * 2, none⟩) hgl).trans p0
      have q1 := (hBw.cell (p := ⟨g, j * 2 + 1, none⟩) hgl).trans p1
      obtain ⟨xa, xc, rfl, hxc⟩ := marks_cells hx
      clear hx p0 p1
      obtain ⟨W1, hW1⟩ : ∃ W1, W1 = wr := ⟨_, rfl⟩
      subst hW1
      go_wp2_with fail
      go_loopw [5] (fun i wz => Below w.heap.size w wz ∧ (∃ n : Nat, n ≤ len ∧ i = .int .i64 n) ∧ Hid (wz.heap[W1.heap.size]? = some (.cells #[.slice xa len xc, .int .i64 m] 51 (0, 0)))) (fun i _ => len - (intOf i).toNat)
      case atStart => exact ⟨hBw.alloc hsz _, ⟨0, Nat.zero_le _, rfl⟩, hide (heap_alloc_new W1 _)⟩
      case round =>
        obtain ⟨hBz, ⟨n, hn, rfl⟩, hO⟩ := hrel
        have hsz2 := hBz.size
        obtain ⟨o0, o1⟩ := cells2 hO.out
        have hol := (Array.getElem?_eq_some_iff.1 hO.out).1
        by_cases hln : n < len
        · obtain ⟨g2, rfl, hcells⟩ := hxc n hln
          have r0 := hcells 0 (by omega)
          have r1 := hcells 1 (by omega)
          have hg2 : g2 < w.heap.size := World.block_lt_of_cell? w _ r0
          have s0 := (hBz.cell (p := ⟨g2, n * 2 + 0, none⟩) hg2).trans r0
          have s1 := (hBz.cell (p := ⟨g2, n * 2 + 1, none⟩) hg2).trans r1
          simp only [cutMk, List.getElem?_cons_zero, List.getElem?_cons_succ, Nat.add_zero] at s0 s1
          clear hcells r0 r1
          have hg3 : g2 < wr.heap.size := by omega
          have HK : Hid (∀ W, Calls Tryz.prog 19 #[.int .i64 m] W fun e w' => e = .returned (.agg #[.int .i64 (-1 - (m : Int)), .int .i64 (-1)]) ∧ Below W.heap.size W w') := hide fun W => cutMark_any W m (by omega)
          go_wp2_with fail
          go_region_held3 (fun w' => w'.cell? ⟨W1.heap.size, 0, none⟩ = some (.slice (some ⟨g2, 0, none⟩) len xc) ∧ w'.cell? ⟨W1.heap.size, 1, none⟩ = some (.int .i64 m) ∧ w'.cell? ⟨g2, n * 2, none⟩ = some (.int .i64 (-1 - (m : Int))) ∧ w'.cell? ⟨g2, n * 2 + 1, none⟩ = some (.int .i64 (-1))) (first | go_keep | (refine ⟨?_, ?_, ?_, ?_⟩ <;> assumption))
            (first | (go_at_call 19; refine (HK.out _).mono ?_; rintro e1 w1 ⟨rfl, hb1⟩; have t0 := (hb1.cell (p := ⟨W1.heap.size, 0, none⟩) hol).trans o0; have t1 := (hb1.cell (p := ⟨W1.heap.size, 1, none⟩) hol).trans o1; have u0 := (hb1.cell (p := ⟨g2, n * 2, none⟩) hg3).trans s0; have u1 := (hb1.cell (p := ⟨g2, n * 2 + 1, none⟩) hg3).trans s1))
          go_wp2_with fail
          go_roundw
          case rel => exact ⟨hBz.drew.trans (hb1.mono hsz2), ⟨n + 1, by omega, by go_num⟩, hide ((hb1.block _ hol).trans hO.out)⟩
          case measure => simp [intOf]; omega
        · go_wp2_with fail
          go_roundw
          case rel => exact ⟨hBz, j + 1, by omega, by go_num⟩
          case measure => simp [intOf]; omega
    · have hd : decide ((j : Int) < (nC : Int)) = false := by simp; omega
      go_wp2_with fail
      go_loopw [6] (fun i wr => Below w.heap.size w wr ∧ ∃ j : Nat, j ≤ nR ∧ i = .int .i64 j) (fun i _ => nR - (intOf i).toNat)
      case atStart => exact ⟨hBw, 0, Nat.zero_le _, rfl⟩
      case round =>
        obtain ⟨hBw, j, hj, rfl⟩ := hrel
        have hsz := hBw.size
        have y2 := (hBw.cell (p := ⟨b, 3, none⟩) hbl).trans z3
        by_cases hlt : j < nR
        · have hd : decide ((j : Int) < (nR : Int)) = true := by simp; omega
          obtain ⟨g, x, m, len, c2, rfl, p0, p1, hm, hlen, hx⟩ := hoR j hlt
          have hgl := World.block_lt_of_cell? w _ p0
          have q0 := (hBw.cell (p := ⟨g, j * 2, none⟩) hgl).trans p0
          have q1 := (hBw.cell (p := ⟨g, j * 2 + 1, none⟩) hgl).trans p1
          obtain ⟨xa, xc, rfl, hxc⟩ := marks_cells hx
          clear hx p0 p1
          obtain ⟨W1, hW1⟩ : ∃ W1, W1 = wr := ⟨_, rfl⟩
          subst hW1
          go_wp2_with fail
          go_loopw [8] (fun i wz => Below w.heap.size w wz ∧ (∃ n : Nat, n ≤ len ∧ i = .int .i64 n) ∧ Hid (wz.heap[W1.heap.size]? = some (.cells #[.slice xa len xc, .int .i64 m] 57 (0, 0)))) (fun i _ => len - (intOf i).toNat)
          case atStart => exact ⟨hBw.alloc hsz _, ⟨0, Nat.zero_le _, rfl⟩, hide (heap_alloc_new W1 _)⟩
          case round =>
            obtain ⟨hBz, ⟨n, hn, rfl⟩, hO⟩ := hrel
            have hsz2 := hBz.size
            obtain ⟨o0, o1⟩ := cells2 hO.out
            have hol := (Array.getElem?_eq_some_iff.1 hO.out).1
            by_cases hln : n < len
            · obtain ⟨g2, rfl, hcells⟩ := hxc n hln
              have r0 := hcells 0 (by omega)
              have r1 := hcells 1 (by omega)
              have r2 := hcells 2 (by omega)
              have hg2 : g2 < w.heap.size := World.block_lt_of_cell? w _ r0
              have s0 := (hBz.cell (p := ⟨g2, n * 3 + 0, none⟩) hg2).trans r0
              have s1 := (hBz.cell (p := ⟨g2, n * 3 + 1, none⟩) hg2).trans r1
              have s2 := (hBz.cell (p := ⟨g2, n * 3 + 2, none⟩) hg2).trans r2
              simp only [recMk, List.getElem?_cons_zero, List.getElem?_cons_succ, Nat.add_zero] at s0 s1 s2
              clear hcells r0 r1 r2
              have hg3 : g2 < wr.heap.size := by omega
              have HK : Hid (∀ W, Calls Tryz.prog 20 #[.int .i64 m] W fun e w' => e = .returned (.agg #[.int .i64 (-1 - (m : Int)), .int .i64 (-1), .int .i64 (-1)]) ∧ Below W.heap.size W w') := hide fun W => recordMark_any W m (by omega)
              go_wp2_with fail
              go_region_held3 (fun w' => w'.cell? ⟨W1.heap.size, 0, none⟩ = some (.slice (some ⟨g2, 0, none⟩) len xc) ∧ w'.cell? ⟨W1.heap.size, 1, none⟩ = some (.int .i64 m) ∧ w'.cell? ⟨g2, n * 3, none⟩ = some (.int .i64 (-1 - (m : Int))) ∧ w'.cell? ⟨g2, n * 3 + 1, none⟩ = some (.int .i64 (-1)) ∧ w'.cell? ⟨g2, n * 3 + 2, none⟩ = some (.int .i64 (-1))) (first | go_keep | (refine ⟨?_, ?_, ?_, ?_, ?_⟩ <;> assumption))
                (first | (go_at_call 20; refine (HK.out _).mono ?_; rintro e1 w1 ⟨rfl, hb1⟩; have t0 := (hb1.cell (p := ⟨W1.heap.size, 0, none⟩) hol).trans o0; have t1 := (hb1.cell (p := ⟨W1.heap.size, 1, none⟩) hol).trans o1; have u0 := (hb1.cell (p := ⟨g2, n * 3, none⟩) hg3).trans s0; have u1 := (hb1.cell (p := ⟨g2, n * 3 + 1, none⟩) hg3).trans s1; have u2 := (hb1.cell (p := ⟨g2, n * 3 + 2, none⟩) hg3).trans s2))
              go_wp2_with fail
              go_roundw
              case rel => exact ⟨hBz.drew.trans (hb1.mono hsz2), ⟨n + 1, by omega, by go_num⟩, hide ((hb1.block _ hol).trans hO.out)⟩
              case measure => simp [intOf]; omega
            · go_wp2_with fail
              go_roundw
              case rel => exact ⟨hBz, j + 1, by omega, by go_num⟩
              case measure => simp [intOf]; omega
        · have hd : decide ((j : Int) < (nR : Int)) = false := by simp; omega
          go_wp2_with fail
          go_loopw [9] (fun i wr => Below w.heap.size w wr ∧ ∃ j : Nat, j ≤ nI ∧ i = .int .i64 j) (fun i _ => nI - (intOf i).toNat)
          case atStart => exact ⟨hBw, 0, Nat.zero_le _, rfl⟩
          case round =>
            obtain ⟨hBw, j, hj, rfl⟩ := hrel
            have hsz := hBw.size
            have y2 := (hBw.cell (p := ⟨b, 4, none⟩) hbl).trans z4
            by_cases hlt : j < nI
            · have hd : decide ((j : Int) < (nI : Int)) = true := by simp; omega
              obtain ⟨g, x, m, len, c2, rfl, p0, p1, hm, hlen, hx⟩ := hoI j hlt
              have hgl := World.block_lt_of_cell? w _ p0
              have q0 := (hBw.cell (p := ⟨g, j * 2, none⟩) hgl).trans p0
              have q1 := (hBw.cell (p := ⟨g, j * 2 + 1, none⟩) hgl).trans p1
              obtain ⟨xa, xc, rfl, hxc⟩ := marks_cells hx
              clear hx p0 p1
              obtain ⟨W1, hW1⟩ : ∃ W1, W1 = wr := ⟨_, rfl⟩
              subst hW1
              go_wp2_with fail
              go_loopw [11] (fun i wz => Below w.heap.size w wz ∧ (∃ n : Nat, n ≤ len ∧ i = .int .i64 n) ∧ Hid (wz.heap[W1.heap.size]? = some (.cells #[.slice xa len xc, .int .i64 m] 63 (0, 0)))) (fun i _ => len - (intOf i).toNat)
              case atStart => exact ⟨hBw.alloc hsz _, ⟨0, Nat.zero_le _, rfl⟩, hide (heap_alloc_new W1 _)⟩
              case round =>
                obtain ⟨hBz, ⟨n, hn, rfl⟩, hO⟩ := hrel
                have hsz2 := hBz.size
                obtain ⟨o0, o1⟩ := cells2 hO.out
                have hol := (Array.getElem?_eq_some_iff.1 hO.out).1
                by_cases hln : n < len
                · obtain ⟨g2, rfl, hcells⟩ := hxc n hln
                  have r0 := hcells 0 (by omega)
                  have hg2 : g2 < w.heap.size := World.block_lt_of_cell? w _ r0
                  have s0 := (hBz.cell (p := ⟨g2, n * 1 + 0, none⟩) hg2).trans r0
                  simp only [intMk, List.getElem?_cons_zero, Nat.mul_one, Nat.add_zero] at s0
                  clear hcells r0
                  have hg3 : g2 < wr.heap.size := by omega
                  go_wp2_with fail
                  go_quiet (fail)
                  go_wp2_with fail
                  go_roundw
                  case rel => exact ⟨below_drewN hBz _, ⟨n + 1, by omega, by go_num⟩, hide hO.out⟩
                  case measure => simp [intOf]; omega
                · go_wp2_with fail
                  go_roundw
                  case rel => exact ⟨hBz, j + 1, by omega, by go_num⟩
                  case measure => simp [intOf]; omega
            · have hd : decide ((j : Int) < (nI : Int)) = false := by simp; omega
              go_wp2_with fail
              go_ret
              exact ⟨rfl, hBw⟩
end Go.Proofs.YtfpbkghcjaonlaaGreat

/-
  append once more, with what it leaves of other slices of the same array.
-/
namespace Go.Proofs.YtfpbkghcjaonlaaGreat
open Go.RowKit

/-- append, the slice's array coloured c. -/
theorem run_append_rows2 {P : Program} {k : Nat → Nat} {w : World} {c : Nat} (t ty e : TypeId) (i : TypeInfo) (z : Value) (size bytes : Nat) (ht : P.underlying t = some (.slice e)) (hi : P.info? e = some i) (hz : i.zero = some z)
    (hsize : i.size = size) (hby : i.bytes = bytes) (hzs : z.cells.size = size) (hsz : 0 < size) {v : Value} {rows : List (List Value)} (h : Rows k w c e size v rows)
    (a : Addr) (m cp : Nat) (news : List (List Value)) (hm : news.length = m) (hl : ∀ r ∈ news, r.length = size) (hnews : ∀ j u, news.flatten[j]? = some u → w.cell? (a.add j) = some u) (h1 : ∀ u ∈ news.flatten, u.oneCell' = true)
    (h63 : rows.length + m ≤ maxLen) (hbytes : (rows.length + m) * bytes ≤ 140737488355328) :
    ∃ v' w' k', (Builtin.append_ #[t, t] ty #[v, .slice (some a) m cp]).run P w = .ok v' w' ∧ Rows k' w' c e size v' (rows ++ news) ∧ Evo k k' (fun x => x = c) w w' ∧ (∀ v0 rows0, Rows k w c e size v0 rows0 → rows0.length ≤ rows.length → Rows k' w' c e size v0 rows0) := by
  subst hm
  have hfl : news.flatten.length = news.length * size := flatten_len hl
  have hrl : rows.flatten.length = rows.length * size := flatten_len h.len
  have hla : ∀ r ∈ rows ++ news, r.length = size := fun r hr => by
    rcases List.mem_append.1 hr with hr | hr
    · exact h.len r hr
    · exact hl r hr
  have ho := h.own
  have hgr : ∀ w', w.grownBy w' none → ∀ v0 rows0, Rows k w c e size v0 rows0 → Rows (fun b => if b < w.heap.size then k b else c) w' c e size v0 rows0 := fun w' g v0 rows0 h0 =>
    h0.evo (C := noC) ⟨g.os, g.tape, g.output, g.size, fun b hb => if_pos hb, fun b hb _ => g.block b hb (by simp)⟩ (noC_not _)
  have hev : ∀ w', w.grownBy w' none → Evo k (fun b => if b < w.heap.size then k b else c) (fun x => x = c) w w' := fun w' g =>
    ⟨g.os, g.tape, g.output, g.size, fun b hb => if_pos hb, fun b hb _ => g.block b hb (by simp)⟩
  rcases ho.2 with ⟨rfl, hz0⟩ | ⟨g, cap, cur, rfl, hg0, hg, hc, hcm, hcs, htk⟩
  · obtain ⟨v', w', hrun, r1, r2, _⟩ := run_append_own (P := P) w w.heap.size t ty e i z size bytes ht hi hz hsize hby hzs hsz (.slice none 0 0) 0 [] (World.ownsRow_nil w _ e size) a news.length cp news.flatten hfl hnews h1 (by omega) (by rw [hz0] at hbytes; simpa using hbytes) (Nat.le_refl _)
    have hr0 : rows = [] := List.length_eq_zero_iff.1 hz0
    subst hr0
    exact ⟨v', w', _, hrun, Rows.fresh (n := 0 + news.length) c hla (by simp) (by simpa using r1), hev w' r2, fun v0 rows0 h0 _ => hgr w' r2 v0 rows0 h0⟩
  · by_cases hroom : rows.length + news.length ≤ cap
    · subst hsize
      have hle : (rows.length + news.length) * i.size ≤ cap * i.size := Nat.mul_le_mul_right _ hroom
      rw [Nat.add_mul] at hle
      have hrun := run_append_room (P := P) w t ty e i ht hi g rows.length cap cur hg a news.length cp news.flatten hfl hnews h1 hroom (by rw [hfl, hcs]; omega)
      refine ⟨_, _, k, hrun, ⟨hla, ⟨?_, .inr ⟨g, cap, (cur.toList.take (rows.length * i.size) ++ news.flatten ++ cur.toList.drop (rows.length * i.size + news.flatten.length)).toArray, by simp, hg0, ?_, by simpa using hroom, hcm, ?_, ?_⟩⟩, h.col⟩, ?_, ?_⟩
      · rw [flatten_len hla]
      · simp only [World.setRow]
        rw [Array.getElem?_modify]
        simp [hg]
      · have hmin : min rows.length cap = rows.length := by omega
        simp [hfl, hcs]
        first | omega | (rw [hmin]; omega)
      · rw [List.toList_toArray, htk, List.flatten_append]
        rw [List.take_append_of_le_length (by simp [hrl, hfl, Nat.add_mul])]
        rw [List.take_of_length_le (by simp [hrl, hfl, Nat.add_mul])]
      · refine ⟨rfl, rfl, rfl, by simp, fun _ _ => rfl, fun b hb hcol => ?_⟩
        have hbg : b ≠ g := fun e => hcol (by rw [e]; exact h.col g rfl)
        simp only [World.setRow]
        rw [Array.getElem?_modify, if_neg (fun e => hbg e.symm)]
      · intro v0 rows0 h0 hle0
        refine ⟨h0.len, ⟨h0.own.1, ?_⟩, h0.col⟩
        rcases h0.own.2 with hn | ⟨g0, cap0, cur0, hv0, hg00, hg0', hc0, hcm0, hcs0, htk0⟩
        · exact .inl hn
        · by_cases hgg : g0 = g
          · subst hgg
            rw [hg] at hg0'
            simp only [Option.some.injEq, Obj.cells.injEq, and_true] at hg0'
            subst hg0'
            refine .inr ⟨g0, cap0, (cur.toList.take (rows.length * i.size) ++ news.flatten ++ cur.toList.drop (rows.length * i.size + news.flatten.length)).toArray, hv0, hg00, ?_, hc0, hcm0, ?_, ?_⟩
            · simp only [World.setRow]
              rw [Array.getElem?_modify]
              simp [hg]
            · have hmin : min rows.length cap = rows.length := by omega
              rw [← hcs0]
              simp [hfl, hcs]
              first | omega | (rw [hmin]; omega)
            · rw [List.toList_toArray, List.append_assoc, List.take_append_of_le_length (by
                have : rows0.length * i.size ≤ rows.length * i.size := Nat.mul_le_mul_right _ hle0
                have h9 : cur.toList.length = cap * i.size := by simpa using hcs
                rw [List.length_take, h9, Nat.min_eq_left (Nat.mul_le_mul_right _ hc)]; exact this), List.take_take, Nat.min_eq_left (Nat.mul_le_mul_right _ hle0)]
              exact htk0
          · refine .inr ⟨g0, cap0, cur0, hv0, hg00, ?_, hc0, hcm0, hcs0, htk0⟩
            simp only [World.setRow]
            rw [Array.getElem?_modify, if_neg (fun e => hgg e.symm)]
            exact hg0'
    · obtain ⟨v', w', hrun, r1, r2⟩ := run_append_arg_grows (P := P) w t ty e i z size bytes ht hi hz hsize hby hzs hsz ⟨g, 0, none⟩ rows.length cap rows.flatten hrl (ho.cells rfl) a news.length cp news.flatten hfl hnews (by omega) h63 hbytes
      refine ⟨v', w', _, hrun, Rows.fresh (n := rows.length + news.length) c hla (by simp) (by rw [List.flatten_append]; exact r1), hev w' r2, fun v0 rows0 h0 _ => hgr w' r2 v0 rows0 h0⟩

/-- append onto a coloured slice, outside a region that draws. -/
theorem wpList_append_rows2 {P : Program} {w : World} {ops : Array Oper} {rest : List Oper} {o : Oper} {a : Act} {Q : Exit → Act → World → Prop}
    (k : Nat → Nat) (c : Nat) (s x : Operand) (t e : TypeId) (z : Value) (size bytes : Nat) (v : Value) (rows news : List (List Value)) (n : Nat) (ad : Addr) (m cp : Nat) (hrn : rows.length = n)
    (hg : o.guard = none) (hop : o.op = Op.call { callee := Callee.builtin Builtin.append, args := #[s, x], argTypes := #[t, t] })
    (ht : P.underlying t = some (.slice e)) (hinf : (P.info? e).map (fun i => (i.zero, i.size, i.bytes)) = some (some z, size, bytes)) (hzs : z.cells.size = size) (hsz : 0 < size)
    (hs : a.eval s = v) (hx : a.eval x = .slice (some ad) m cp) (h : Rows k w c e size v rows)
    (hm : news.length = m) (hl : ∀ r ∈ news, r.length = size) (hnews : ∀ j u, news.flatten[j]? = some u → w.cell? (ad.add j) = some u) (h1 : ∀ u ∈ news.flatten, u.oneCell' = true)
    (h63 : n + m ≤ maxLen) (hbytes : (n + m) * bytes ≤ 140737488355328)
    (hK : ∀ ao cap' w' k', Rows k' w' c e size (.slice ao (n + m) cap') (rows ++ news) → Evo k k' (fun x => x = c) w w' → (∀ v0 rows0, Rows k w c e size v0 rows0 → rows0.length ≤ n → Rows k' w' c e size v0 rows0) → wpList P ops Q rest (a.put o.dst (.slice ao (n + m) cap')) w') :
    wpList P ops Q (o :: rest) a w := by
  subst hrn
  refine wpList_plain hg fun K hK' => ?_
  obtain ⟨i, hi, hz0, hz1, hz2⟩ := info_parts hinf
  obtain ⟨v', w', k', hrun, r1, r2, r3⟩ := run_append_rows2 (P := P) t o.type e i z size bytes ht hi hz0 hz1 hz2 hzs hsz h ad m cp news hm hl hnews h1 h63 hbytes
  subst hs
  unfold Oper.wp
  simp [execOp, hop, resolve, invoke, builtin, hx, hrun, Result.andThen]
  obtain ⟨ao, cap', hv, _⟩ := r1.form
  rw [List.length_append, hm] at hv
  subst hv
  exact hK' _ _ (hK ao cap' w' k' r1 r2 r3)

end Go.Proofs.YtfpbkghcjaonlaaGreat

/-
  sixfoldlaw: ownCuts.
-/
namespace Go.Proofs.YtfpbkghcjaonlaaGreat
open Go.RowKit

theorem Tryz.infoCutsOut : (Tryz.prog.info? 51).map (fun i => (i.zero, i.size, i.bytes)) = some (some (.agg #[.slice none 0 0, .int .i64 0]), 2, 32) := by kernel_rfl
theorem Tryz.infoRecordsOut : (Tryz.prog.info? 57).map (fun i => (i.zero, i.size, i.bytes)) = some (some (.agg #[.slice none 0 0, .int .i64 0]), 2, 32) := by kernel_rfl
theorem Tryz.infoIntsOut : (Tryz.prog.info? 63).map (fun i => (i.zero, i.size, i.bytes)) = some (some (.agg #[.slice none 0 0, .int .i64 0]), 2, 32) := by kernel_rfl

/-- A list of this round: its colour is cl. -/
def NewOut (k : Nat → Nat) (w : World) (cl e size : Nat) (r0 : List Value) (m len : Nat) (r : List Value) : Prop :=
  ∃ v0 n0, r = [v0, .int .i64 (m : Nat)] ∧ n0 ≤ len ∧ Rows k w cl e size v0 (List.replicate n0 r0)

/-- Where own stands: nOut lists are written down. -/
def OwnSt (k : Nat → Nat) (w : World) (L : Nat → Prop) (cl c1 e1 e size : Nat) (mk : Nat → List Value) (m len nOut : Nat) (v vC : Value) : Prop :=
  ∃ rows, Rows k w c1 e1 2 vC rows ∧ rows.length = nOut ∧ (∀ r ∈ rows, OutOk k w L e size mk r ∨ NewOut k w cl e size (mk m) m len r) ∧ Rows k w cl e size v (List.replicate len (mk m))

theorem NewOut.evo {k k' : Nat → Nat} {w w' : World} {cl e size : Nat} {r0 : List Value} {m len : Nat} {r : List Value} {C : Nat → Prop} (h : NewOut k w cl e size r0 m len r) (g : Evo k k' C w w') (hc : ¬ C cl) : NewOut k' w' cl e size r0 m len r := by
  obtain ⟨v0, n0, a, b, d⟩ := h
  exact ⟨v0, n0, a, b, d.evo g hc⟩

theorem OwnSt.evo {k k' : Nat → Nat} {w w' : World} {L : Nat → Prop} {cl c1 e1 e size : Nat} {mk : Nat → List Value} {m len nOut : Nat} {v vC : Value} {C : Nat → Prop} (h : OwnSt k w L cl c1 e1 e size mk m len nOut v vC) (g : Evo k k' C w w') (hc : ¬ C cl) (h1 : ¬ C c1) (hL : ∀ c, L c → ¬ C c) : OwnSt k' w' L cl c1 e1 e size mk m len nOut v vC := by
  obtain ⟨rows, a, b, d, f⟩ := h
  exact ⟨rows, a.evo g h1, b, fun r hr => (d r hr).imp (fun x => x.evo g hL) (fun x => x.evo g hc), f.evo g hc⟩

theorem OwnSt.outs {k : Nat → Nat} {w : World} {L : Nat → Prop} {cl c1 e1 e size : Nat} {mk : Nat → List Value} {m len nOut : Nat} {v vC : Value} (h : OwnSt k w L cl c1 e1 e size mk m len nOut v vC) (hm : m ≤ 4000000000) (hl : len ≤ 4100000000) : OutsOk k w (fun c => L c ∨ c = cl) c1 e1 e size mk vC nOut := by
  obtain ⟨rows, a, b, d, _⟩ := h
  refine ⟨rows, a, b, fun r hr => ?_⟩
  rcases d r hr with x | ⟨v0, n0, x, y, z⟩
  · obtain ⟨v0, m0, n0, c0, h1, h2, h3, h4, h5⟩ := x
    exact ⟨v0, m0, n0, c0, h1, h2, h3, .inl h4, h5⟩
  · exact ⟨v0, m, n0, cl, x, hm, by omega, .inr rfl, z⟩

/-- The list is written down once more. -/
theorem OwnSt.push {k k1 : Nat → Nat} {w W w1 : World} {L : Nat → Prop} {cl c1 e1 e size : Nat} {mk : Nat → List Value} {m len nOut : Nat} {v v1 : Value} {rows : List (List Value)}
    (hr : rows.length = nOut) (hd : ∀ r ∈ rows, OutOk k w L e size mk r ∨ NewOut k w cl e size (mk m) m len r) (hv : Rows k w cl e size v (List.replicate len (mk m)))
    (e0 : Evo k k noC w W) (hR : Rows k1 w1 c1 e1 2 v1 (rows ++ [[v, .int .i64 (m : Nat)]])) (hE : Evo k k1 (fun x => x = c1) W w1) (hc : cl ≠ c1) (hL : ∀ c, L c → c ≠ c1) :
    OwnSt k1 w1 L cl c1 e1 e size mk m len (nOut + 1) v v1 := by
  have hE2 : Evo k k1 (fun x => x = c1) w w1 := (e0.mono (fun _ h => h.elim)).trans hE
  have hv2 := hv.evo hE2 hc
  refine ⟨_, hR, by simp [hr], fun r hr => ?_, hv2⟩
  rcases List.mem_append.1 hr with hr | hr
  · exact (hd r hr).imp (fun x => x.evo hE2 hL) (fun x => x.evo hE2 hc)
  · simp at hr; subst hr
    exact .inr ⟨v, len, rfl, Nat.le_refl _, hv2⟩

/-- A mark more stands behind the list. -/
theorem grow_rows {k k1 : Nat → Nat} {w W w1 : World} {L : Nat → Prop} {cl e size : Nat} {mk : Nat → List Value} {m len : Nat} {rows : List (List Value)}
    (hd : ∀ r ∈ rows, OutOk k w L e size mk r ∨ NewOut k w cl e size (mk m) m len r) (e0 : Evo k k noC w W) (hE : Evo k k1 (fun x => x = cl) W w1)
    (hkeep : ∀ v0 rows0, Rows k W cl e size v0 rows0 → rows0.length ≤ len → Rows k1 w1 cl e size v0 rows0) (hL : ∀ c, L c → c ≠ cl) :
    ∀ r ∈ rows, OutOk k1 w1 L e size mk r ∨ NewOut k1 w1 cl e size (mk m) m (len + 1) r := by
  have hE2 : Evo k k1 (fun x => x = cl) w w1 := (e0.mono (fun _ h => h.elim)).trans hE
  intro r hr
  rcases hd r hr with x | ⟨v0, n0, x, y, z⟩
  · exact .inl (x.evo hE2 hL)
  · exact .inr ⟨v0, n0, x, by omega, hkeep v0 _ (z.evo e0 (noC_not _)) (by simpa using y)⟩

theorem two_of {r : List Value} (h : r.length = 2) : ∃ a b, r = [a, b] := by
  match r, h with
  | [a, b], _ => exact ⟨a, b, rfl⟩
theorem three_of {r : List Value} (h : r.length = 3) : ∃ a b c, r = [a, b, c] := by
  match r, h with
  | [a, b, c], _ => exact ⟨a, b, c, rfl⟩
theorem one_of {r : List Value} (h : r.length = 1) : ∃ a, r = [a] := by
  match r, h with
  | [a], _ => exact ⟨a, rfl⟩
theorem fill_set (rows : List (List Value)) (r : List Value) (j : Nat) (h : j < rows.length) : (List.replicate j r ++ rows.drop j).set j r = List.replicate (j + 1) r ++ rows.drop (j + 1) := by
  rw [List.set_append_right _ _ (by simp), List.length_replicate, Nat.sub_self, List.drop_eq_getElem_cons h, List.set_cons_zero, List.replicate_succ', List.append_assoc]
  rfl

set_option maxHeartbeats 4000000 in
theorem ownCuts_any {k : Nat → Nat} {w : World} {L : Nat → Prop} {b px py nC nR nI cl : Nat} {v : Value} {rows : List (List Value)} (h : LawIs k w L b px py nC nR nI) (hl : Rows k w cl 53 2 v rows) (hcl : ¬ L cl) (hc4 : 204 ≤ cl) (hL : ∀ c, L c → 204 ≤ c)
    (hlen : rows.length ≤ 4000000000) (hnC : nC ≤ 4000000000) :
    Calls Tryz.prog 55 #[.pointer (some ⟨b, 0, none⟩), v] w fun e w' => e = .returned (.tuple #[]) ∧
      ∃ k', Evo k k' (fun c => c = 200 ∨ c = 201 ∨ c = cl) w w' ∧ LawIs k' w' (fun c => L c ∨ c = cl) b px py (nC + 4) nR nI := by
  obtain ⟨vC, vR, vI, hB, oC, oR, oI⟩ := h.ex
  obtain ⟨va, vcap, hvf, _⟩ := hl.form
  obtain ⟨rC, rC1, rC2, rC3⟩ := oC
  obtain ⟨ca, ccap, hcf, _⟩ := rC1.form
  rw [rC2] at hcf
  have z2 : w.cell? ⟨b, 2, none⟩ = some vC := hB.cell 2
  have hbl := hB.lt
  have HM : Hid (∀ W, Calls Tryz.prog 19 #[.int .i64 nC] W fun e w' => e = .returned (.agg #[.int .i64 (-1 - (nC : Int)), .int .i64 (-1)]) ∧ Below W.heap.size W w') := hide fun W => cutMark_any W nC (by omega)
  subst hvf hcf
  obtain ⟨len, hlr⟩ : ∃ len, rows.length = len := ⟨_, rfl⟩
  rw [hlr] at hl hlen ⊢
  have HLR := hide hlr
  clear hlr
  go_enter Tryz.func55, Tryz.ntmps55
  go_wp2
  go_loopw [5] (fun i wr => Evo k k (fun c => c = cl) w wr ∧ ∃ j : Nat, j ≤ len ∧ i = .int .i64 j ∧ Rows k wr cl 53 2 (.slice va len vcap) (List.replicate j (cutMk nC) ++ rows.drop j)) (fun i _ => len - (intOf i).toNat)
  case atStart => exact ⟨Evo.refl _ _ _, 0, Nat.zero_le _, rfl, by simpa using hl⟩
  case round =>
    obtain ⟨hE, j, hj, rfl, hR⟩ := hrel
    have hlr2 : (List.replicate j (cutMk nC) ++ rows.drop j).length = len := by have := HLR.out; simp; omega
    generalize hq : List.replicate j (cutMk nC) ++ rows.drop j = rws at hR hlr2
    have HQ := hide hq
    clear hq
    by_cases hlt : j < len
    · have hjr : j < rws.length := by omega
      obtain ⟨g, gc, hgf, hgk, hgl, _, hcells, hfr⟩ := hR.at (by omega)
      simp only [Value.slice.injEq] at hgf
      obtain ⟨rfl, -, rfl⟩ := hgf
      obtain ⟨c0, c1, hrow⟩ := two_of (hR.len _ (List.getElem_mem hjr))
      have q0 := hcells j 0 hjr (by omega)
      have q1 := hcells j 1 hjr (by omega)
      rw [hrow] at q0 q1
      simp only [List.getElem?_cons_zero, List.getElem?_cons_succ, Nat.add_zero] at q0 q1
      have f0 := hfr (j * 2)
      have f1 := hfr (j * 2 + 1)
      have HROW := hide hrow
      clear hcells hfr hlr2 hrow
      go_wp2_with fail
      refine (HM.out _).mono ?_
      rintro e1 w1 ⟨rfl, hb1⟩
      have p0 := (hb1.cell (p := ⟨g, j * 2, none⟩) hgl).trans q0
      have p1 := (hb1.cell (p := ⟨g, j * 2 + 1, none⟩) hgl).trans q1
      have u0 := (hb1.frozen (p := ⟨g, j * 2, none⟩) hgl).trans f0
      have u1 := (hb1.frozen (p := ⟨g, j * 2 + 1, none⟩) hgl).trans f1
      go_wp2_with fail
      go_roundw
      case rel =>
        have eb : Evo k k (fun c => c = cl) wr w1 := Evo.of_below hb1
        have hR1 := hR.evo (Evo.of_below (C := noC) hb1) (noC_not _)
        have hgk1 : k g = cl := hgk
        refine ⟨((hE.trans eb).setCell _ _ (fun _ => hgk1)).setCell _ _ (fun _ => hgk1), j + 1, by omega, by go_num, ?_⟩
        have hs0 := hR1.set j 0 hjr (by omega) (.int .i64 (-1 - (nC : Int)))
        have hs1 := hs0.set j 1 (by simpa using hjr) (by omega) (.int .i64 (-1))
        have er : (rws.set j ((rws[j]'hjr).set 0 (.int .i64 (-1 - (nC : Int))))).set j (((rws.set j ((rws[j]'hjr).set 0 (.int .i64 (-1 - (nC : Int)))))[j]'(by simpa using hjr)).set 1 (.int .i64 (-1))) = rws.set j (cutMk nC) := by
          simp [HROW.out, cutMk]
        rw [er] at hs1
        rw [← fill_set rows (cutMk nC) j (by have := HLR.out; omega), HQ.out]
        exact hs1
      case measure => simp [intOf]; omega
    · have hje : j = len := by omega
      have HV : Hid (Rows k wr cl 53 2 (.slice va len vcap) (List.replicate len (cutMk nC))) := hide (by
        have h1 := HQ.out
        rw [hje, List.drop_of_length_le (by have := HLR.out; omega), List.append_nil] at h1
        rw [h1]; exact hR)
      clear hje hR HQ hlr2
      -- the list is written down for the first time
      have hB1 := hB.evo hE (by omega)
      have y2 : wr.cell? ⟨b, 2, none⟩ = _ := hB1.cell 2
      simp only [List.getElem?_cons_zero, List.getElem?_cons_succ] at y2
      have yf := hB1.free 2
      have hbl1 := hB1.lt
      have rC1' := rC1.evo hE (by omega)
      have rC3' : Hid (∀ r ∈ rC, OutOk k wr L 53 2 cutMk r ∨ NewOut k wr cl 53 2 (cutMk nC) nC len r) := hide fun r hr => .inl ((rC3 r hr).evo hE (fun c hc e => hcl (e ▸ hc)))
      have oR1 := oR.evo hE (fun c hc e => hcl (e ▸ hc)) (by omega)
      have oI1 := oI.evo hE (fun c hc e => hcl (e ▸ hc)) (by omega)
      have e2 : Evo k k noC wr (wr.alloc (Obj.cells #[.slice va len vcap, .int .i64 nC] 51)) := (Evo.refl _ _ _).alloc _
      have rC1a := rC1'.evo e2 (noC_not _)
      have hB1a := hB1.evo e2 (noC_not _)
      have HRC2 := hide rC2
      clear rC2 rC3 oR oI
      go_wp2_with (at_builtin; go_must (refine wpList_append_rows k 201 (.tmp 27) (.tmp 31) 44 51 _ 2 32 _ rC [[.slice va len vcap, .int .i64 nC]] nC ⟨wr.heap.size, 0, none⟩ 1 1 HRC2.out rfl rfl Tryz.underlying44 Tryz.infoCutsOut rfl (by decide) rfl rfl rC1a rfl (by simp) (by simpa using cell_one_new' wr [.slice va len vcap, .int .i64 nC] 51) (by simp [Value.oneCell']) (by simp only [maxLen]; omega) (by omega) ?_; intro ao1 cap1 w1 k1 hR1 hE1; have x2 : w1.cell? ⟨b, 2, none⟩ = _ := (hB1a.evo hE1 (by omega)).cell 2; simp only [List.getElem?_cons_zero, List.getElem?_cons_succ] at x2; have xf := (hB1a.evo hE1 (by omega)).free 2; have xl := (hB1a.evo hE1 (by omega)).lt))
      obtain ⟨g1, g2, g3⟩ := push_fin e2 hB1a (by decide) hR1 hE1 2
      have hO1 : OwnSt k1 (w1.setCell ⟨b, 2, none⟩ (.slice ao1 (nC + 1) cap1)) L cl 201 51 53 2 cutMk nC len (nC + 1) (.slice va len vcap) (.slice ao1 (nC + 1) cap1) := by
        have h1 := OwnSt.push HRC2.out rC3'.out HV.out e2 hR1 hE1 (by omega) (fun c hc e => by have := hL c hc; omega)
        have es : Evo k1 k1 (fun c => c = 200) w1 (w1.setCell ⟨b, 2, none⟩ (.slice ao1 (nC + 1) cap1)) := (Evo.refl _ _ _).setCell _ _ (fun _ => g2.2)
        exact h1.evo es (by omega) (by decide) (fun c hc e => by have := hL c hc; omega)
      have eA : Evo k k1 (fun c => c = 200 ∨ c = 201 ∨ c = cl) w (w1.setCell ⟨b, 2, none⟩ (.slice ao1 (nC + 1) cap1)) := (hE.mono (fun c h => .inr (.inr h))).trans (g1.mono (fun c h => by rcases h with h | h <;> simp [h]))
      have oR2 := oR1.evo g1 (fun c hc e => by have := hL c hc; omega) (by decide)
      have oI2 := oI1.evo g1 (fun c hc e => by have := hL c hc; omega) (by decide)
      have HA : Hid (∃ k2 vC2, Evo k k2 (fun c => c = 200 ∨ c = 201 ∨ c = cl) w (w1.setCell ⟨b, 2, none⟩ (.slice ao1 (nC + 1) cap1)) ∧ Blk k2 (w1.setCell ⟨b, 2, none⟩ (.slice ao1 (nC + 1) cap1)) 200 b 48 [.pointer (some ⟨px, 0, none⟩), .pointer (some ⟨py, 0, none⟩), vC2, vR, vI] ∧
        OwnSt k2 (w1.setCell ⟨b, 2, none⟩ (.slice ao1 (nC + 1) cap1)) L cl 201 51 53 2 cutMk nC (len + 0) (nC + 1 + 0) (.slice va len vcap) vC2 ∧ OutsOk k2 (w1.setCell ⟨b, 2, none⟩ (.slice ao1 (nC + 1) cap1)) L 202 57 59 3 recMk vR nR ∧ OutsOk k2 (w1.setCell ⟨b, 2, none⟩ (.slice ao1 (nC + 1) cap1)) L 203 63 3 1 intMk vI nI) :=
        hide ⟨k1, _, eA, g2, hO1, oR2, oI2⟩
      clear g1 g2 g3 hO1 eA oR2 oI2 oR1 oI1 hR1 hE1 x2 xf xl rC1a hB1a e2 HRC2 rC3' rC1' y2 yf hB1 HV hE rC1 hB z2 h
      go_loopw [1, 6] (fun l i wz => ∃ j : Nat, j ≤ 3 ∧ i = .int .i64 j ∧ (∃ la lc, l = .slice la (len + j) lc) ∧ Hid (∃ k2 vC2, Evo k k2 (fun c => c = 200 ∨ c = 201 ∨ c = cl) w wz ∧ Blk k2 wz 200 b 48 [.pointer (some ⟨px, 0, none⟩), .pointer (some ⟨py, 0, none⟩), vC2, vR, vI] ∧
        OwnSt k2 wz L cl 201 51 53 2 cutMk nC (len + j) (nC + 1 + j) l vC2 ∧ OutsOk k2 wz L 202 57 59 3 recMk vR nR ∧ OutsOk k2 wz L 203 63 3 1 intMk vI nI)) (fun _ i _ => 3 - (intOf i).toNat)
      case atStart => exact ⟨0, by omega, rfl, ⟨va, vcap, rfl⟩, HA⟩
      case round =>
        obtain ⟨j2, hj2, rfl, ⟨la, lc, rfl⟩, HS⟩ := hrel
        by_cases hlt2 : j2 < 3
        · obtain ⟨k2, vC2, eA, hB2, hO2, oR2, oI2⟩ := HS.out
          obtain ⟨rows2, ra, rb, rd, rf⟩ := hO2
          obtain ⟨xa, xc, hxf, _⟩ := ra.form
          rw [rb] at hxf
          subst hxf
          clear HS HA
          go_wp2_with fail
          refine (HM.out _).mono ?_
          rintro e1 wa ⟨rfl, hba⟩
          have ea : Evo k2 k2 noC wr wa := Evo.of_below hba
          have eb : Evo k2 k2 noC wr (wa.alloc (Obj.cells #[.int .i64 (-1 - (nC : Int)), .int .i64 (-1)] 53)) := ea.alloc _
          have rfa := rf.evo eb (noC_not _)
          have HRB := hide rb
          have HRD := hide rd
          clear rb rd
          have hnw : ∀ j u, ([cutMk nC] : List (List Value)).flatten[j]? = some u → (wa.alloc (Obj.cells #[.int .i64 (-1 - (nC : Int)), .int .i64 (-1)] 53)).cell? ((⟨wa.heap.size, 0, none⟩ : Addr).add j) = some u := fun j u hj => cell_one_new' wa (cutMk nC) 53 j u (by simpa using hj)
          have hBb := hB2.evo eb (noC_not _)
          have rab := ra.evo eb (noC_not _)
          go_wp2_with (first
            | (at_builtin; refine wpList_append_rows2 k2 cl (.tmp 39) (.tmp 42) 49 53 _ 2 16 _ (List.replicate (len + j2) (cutMk nC)) [cutMk nC] (len + j2) ⟨wa.heap.size, 0, none⟩ 1 1 (by simp) rfl rfl Tryz.underlying49 Tryz.infoCut rfl (by decide) rfl rfl rfa rfl (by simp [cutMk]) hnw (by simp [cutMk, Value.oneCell']) (by simp only [maxLen]; omega) (by omega) ?_; intro ao2 cap2 w2 k3 hR3 hE3 hkeep; have hBc := hBb.evo hE3 (by omega); have x2 : w2.cell? ⟨b, 2, none⟩ = some (.slice xa (nC + 1 + j2) xc) := hBc.cell 2; have xl := hBc.lt; have rac := rab.evo hE3 (by omega); have ed : Evo k3 k3 noC w2 (w2.alloc (Obj.cells #[.slice ao2 (len + j2 + 1) cap2, .int .i64 nC] 51)) := (Evo.refl _ _ _).alloc _; have rad := rac.evo ed (noC_not _); have hBd := hBc.evo ed (noC_not _))
            | (at_builtin; refine wpList_append_rows k3 201 (.tmp 48) (.tmp 52) 44 51 _ 2 32 _ rows2 [[.slice ao2 (len + j2 + 1) cap2, .int .i64 nC]] (nC + 1 + j2) ⟨w2.heap.size, 0, none⟩ 1 1 HRB.out rfl rfl Tryz.underlying44 Tryz.infoCutsOut rfl (by decide) rfl rfl rad rfl (by simp) (fun j u hj => cell_one_new' w2 [.slice ao2 (len + j2 + 1) cap2, .int .i64 nC] 51 j u (by simpa using hj)) (by simp [Value.oneCell']) (by simp only [maxLen]; omega) (by omega) ?_; intro ao3 cap3 w3 k4 hR4 hE4; have hBe := hBd.evo hE4 (by decide); have x3 : w3.cell? ⟨b, 2, none⟩ = some (.slice xa (nC + 1 + j2) xc) := hBe.cell 2; have xf3 := hBe.free 2))
          go_roundw
          case rel =>
            have hd3 := grow_rows HRD.out eb hE3 hkeep (fun c hc e => hcl (e ▸ hc))
            have hv3 : Rows k3 w2 cl 53 2 (.slice ao2 (len + j2 + 1) cap2) (List.replicate (len + j2 + 1) (cutMk nC)) := by rw [List.replicate_succ']; exact hR3
            have hO4 := OwnSt.push HRB.out hd3 hv3 ed hR4 hE4 (by omega) (fun c hc e => by have := hL c hc; omega)
            obtain ⟨g1, g2, g3⟩ := push_fin ed hBd (by decide) hR4 hE4 2
            have es : Evo k4 k4 (fun c => c = 200) w3 (w3.setCell ⟨b, 2, none⟩ (.slice ao3 (nC + 1 + j2 + 1) cap3)) := (Evo.refl _ _ _).setCell _ _ (fun _ => g2.2)
            have hO5 := hO4.evo es (by omega) (by decide) (fun c hc e => by have := hL c hc; omega)
            have eL : ∀ c, L c → ¬ (c = 200 ∨ c = 201 ∨ c = cl) := fun c hc e => by
              have := hL c hc
              rcases e with e | e | e
              · omega
              · omega
              · exact hcl (e ▸ hc)
            have eT : Evo k2 k4 (fun c => c = 200 ∨ c = 201 ∨ c = cl) wr (w3.setCell ⟨b, 2, none⟩ (.slice ao3 (nC + 1 + j2 + 1) cap3)) :=
              (eb.mono (fun _ h => h.elim)).trans ((hE3.mono (fun c h => .inr (.inr h))).trans (g1.mono (fun c h => by rcases h with h | h <;> simp [h])))
            exact ⟨j2 + 1, by omega, by go_num, ⟨ao2, cap2, rfl⟩, hide ⟨k4, _, eA.trans eT, g2, hO5, oR2.evo eT eL (by omega), oI2.evo eT eL (by omega)⟩⟩
          case measure => simp [intOf]; omega
        · obtain ⟨k2, vC2, eA, hB2, hO2, oR2, oI2⟩ := HS.out
          have hj3 : j2 = 3 := by omega
          subst hj3
          clear HS HA
          go_wp2_with fail
          go_end0
          exact ⟨rfl, k2, eA, ⟨vC2, vR, vI, hB2, by simpa [Nat.add_assoc] using hO2.outs hnC (by omega), oR2.more (fun c h => .inl h), oI2.more (fun c h => .inl h)⟩⟩
end Go.Proofs.YtfpbkghcjaonlaaGreat
