/-
  sixfoldref: decided.
-/
import Derived.Test.YtfpbkghcjaonlaaGreatRefG
namespace Go.Proofs.YtfpbkghcjaonlaaGreat
open Go.RowKit

def MsgOk (m : Msg) : Prop := m.cuts.length ≤ 1000 ∧ m.marks.length ≤ 4000000000

def bestStep (b : List (Int × Int)) (m : Msg) : List (Int × Int) := if topOf b ≤ topOf m.cuts then m.cuts else b
def bestUp (f : List Msg) (j : Nat) : List (Int × Int) := (f.take j).foldl bestStep []
theorem bestUp_succ (f : List Msg) (j : Nat) (h : j < f.length) : bestUp f (j + 1) = bestStep (bestUp f j) f[j] := by
  unfold bestUp; rw [List.take_succ_eq_append_getElem h, List.foldl_append]; rfl
theorem bestUp_len (f : List Msg) (hf : ∀ m ∈ f, MsgOk m) (j : Nat) : (bestUp f j).length ≤ 1000 := by
  induction j with
  | zero => simp [bestUp]
  | succ j ih =>
    by_cases h : j < f.length
    · rw [bestUp_succ f j h]; unfold bestStep; split
      · exact (hf _ (List.getElem_mem h)).1
      · exact ih
    · unfold bestUp at *; rw [List.take_of_length_le (by omega)] at *; exact ih

def okUp (l : List (Int × Int)) (marks : List Int) (n : Nat) : Bool := (List.range n).all fun (i : Nat) => good l ((i : Int) + 1) (marks.getD i 0)
theorem okUp_succ (l : List (Int × Int)) (marks : List Int) (n : Nat) : okUp l marks (n + 1) = (okUp l marks n && good l ((n : Int) + 1) (marks.getD n 0)) := by
  unfold okUp; rw [List.range_succ, List.all_append]; simp
def baseUp (l : List (Int × Int)) (marks : List Int) (b0 : Nat) : Nat → Nat
  | 0 => b0
  | n + 1 => if okUp l marks (n + 1) && decide (baseUp l marks b0 n < n + 1) then n + 1 else baseUp l marks b0 n
theorem baseUp_le (l : List (Int × Int)) (marks : List Int) (b0 n : Nat) : baseUp l marks b0 n ≤ max b0 n := by
  induction n with
  | zero => simp [baseUp]
  | succ n ih => simp only [baseUp]; split <;> omega
def baseAll (l : List (Int × Int)) (f : List Msg) : Nat → Nat
  | 0 => 0
  | j + 1 => match f[j]? with | some m => baseUp l m.marks (baseAll l f j) m.marks.length | none => baseAll l f j
theorem baseAll_succ (l : List (Int × Int)) (f : List Msg) (j : Nat) (h : j < f.length) : baseAll l f (j + 1) = baseUp l f[j].marks (baseAll l f j) f[j].marks.length := by
  simp only [baseAll]; rw [List.getElem?_eq_getElem h]
theorem baseAll_le (l : List (Int × Int)) (f : List Msg) (hf : ∀ m ∈ f, MsgOk m) (j : Nat) : baseAll l f j ≤ 4000000000 := by
  induction j with
  | zero => simp [baseAll]
  | succ j ih =>
    by_cases h : j < f.length
    · rw [baseAll_succ l f j h]
      have h1 := baseUp_le l f[j].marks (baseAll l f j) f[j].marks.length
      have h2 := (hf _ (List.getElem_mem h)).2
      omega
    · simp only [baseAll]; rw [List.getElem?_eq_none (by omega)]; exact ih

def baseOf (f : List Msg) : Nat := baseAll (bestUp f 4) f 4
def decCuts (f : List Msg) (e : Int) : List (Int × Int) := bestUp f 4 ++ [(e, (baseOf f : Int))]

theorem cutRow_take (l : List (Int × Int)) (j : Nat) (h : j < l.length) : (l.take (j + 1)).map cutRow = (l.take j).map cutRow ++ [cutRow l[j]] := by
  rw [List.take_succ_eq_append_getElem h, List.map_append]; rfl

set_option maxHeartbeats 4000000 in
theorem decided_any {k : Nat → Nat} {w : World} {c b : Nat} {v : Value} {f : List Msg} (e : Int) (hb : w.cell? ⟨b, 0, none⟩ = some v) (h : MsgsIs k w c v f) (h4 : 4 ≤ f.length) (hl : f.length ≤ 4000000000) (hf : ∀ m ∈ f, MsgOk m) :
    Calls Tryz.prog 73 #[.pointer (some ⟨b, 0, none⟩), .int .i64 e] w fun en w' => (∃ z, en = .returned (.tuple #[z, .int .i64 (baseOf f)]) ∧ Made w' w.heap.size 53 2 z ((decCuts f e).map cutRow)) ∧ Below w.heap.size w w' := by
  obtain ⟨a, cap, rfl, hc⟩ := msgs_cells h
  clear h
  go_enter Tryz.func73, Tryz.ntmps73
  go_wp2
  go_loopw [6, 7] (fun v i wr => wr = w ∧ ∃ j : Nat, j ≤ 4 ∧ i = .int .i64 j ∧ CutsIm k w v (bestUp f j)) (fun _ i _ => 4 - (intOf i).toNat)
  case atStart => exact ⟨rfl, 0, Nat.zero_le _, rfl, Rows.nil _ _ _ _ _⟩
  case round =>
    obtain ⟨rfl, j, hj, rfl, hV⟩ := hrel
    by_cases hlt : j < 4
    · obtain ⟨g, vc, vm, rfl, _, _, _, _, _, _, _, h7, _, hcc, _⟩ := hc j (by omega)
      obtain ⟨z0, z1, z2, hz⟩ := Rows.shape hcc
      subst hz
      obtain ⟨y0, y1, y2, hy⟩ := Rows.shape hV
      subst hy
      have hmk := hf f[j] (List.getElem_mem (by omega))
      have HT1 := hide (top_any hcc (by have := hmk.1; omega))
      have HT2 := hide (top_any hV (by have := bestUp_len f hf j; omega))
      have hs := bestUp_succ f j (by omega)
      unfold bestStep at hs
      have hj2 : j < f.length := by omega
      by_cases hx : topOf (bestUp f j) ≤ topOf f[j].cuts
      · rw [if_pos hx] at hs
        have HS := hide hs
        clear hs
        go_wp2_with fail
        refine HT1.out.mono ?_
        rintro e1 w1 ⟨rfl, hw1⟩
        subst hw1
        go_wp2_with fail
        refine HT2.out.mono ?_
        rintro e1 w2 ⟨rfl, hw1⟩
        subst hw1
        go_wp2_with fail
        go_roundw
        case rel => exact ⟨by trivial, j + 1, by omega, by go_num, by rw [HS.out]; exact hcc⟩
        case measure => simp [intOf]; omega
      · rw [if_neg hx] at hs
        have HS := hide hs
        clear hs
        go_wp2_with fail
        refine HT1.out.mono ?_
        rintro e1 w1 ⟨rfl, hw1⟩
        subst hw1
        go_wp2_with fail
        refine HT2.out.mono ?_
        rintro e1 w2 ⟨rfl, hw1⟩
        subst hw1
        go_wp2_with fail
        go_roundw
        case rel => exact ⟨by trivial, j + 1, by omega, by go_num, by rw [HS.out]; exact hV⟩
        case measure => simp [intOf]; omega
    · have hj4 : j = 4 := by omega
      rw [hj4] at hV
      have hd4 : decide ((j : Int) < 4) = false := by simp; omega
      clear hj4 hlt hj
      obtain ⟨y0, y1, y2, hy⟩ := Rows.shape hV
      subst hy
      have hbl4 := bestUp_len f hf 4
      generalize hbest : bestUp f 4 = best at *
      have HBst := hide hbest
      clear hbest
      go_wp2
      go_loopw [8, 9] (fun y i wx => wx = wr ∧ ∃ j : Nat, j ≤ 4 ∧ i = .int .i64 j ∧ y = .int .i64 (baseAll best f j)) (fun _ i _ => 4 - (intOf i).toNat)
      case atStart => exact ⟨rfl, 0, Nat.zero_le _, rfl, rfl⟩
      case round =>
        obtain ⟨rfl, j, hj, rfl, rfl⟩ := hrel
        have hbb := baseAll_le best f hf j
        by_cases hlt : j < 4
        · have hj2 : j < f.length := by omega
          obtain ⟨g, vc, vm, rfl, _, _, _, _, _, _, _, _, h8, _, hmm⟩ := hc j hj2
          obtain ⟨ma, mc, rfl, hmcells⟩ := ints_cells hmm
          have HBS := hide (baseAll_succ best f j hj2)
          have hml := (hf f[j] (List.getElem_mem hj2)).2
          generalize baseAll best f j = b0 at *
          have HG : Hid (∀ n x : Int, Calls Tryz.prog 106 #[.int .i64 n, .int .i64 x, .slice y0 y1 y2] wr fun e w' => e = .returned (.bool (good best n x)) ∧ w' = wr) := hide fun n x => good_any n x hV (by omega)
          clear hmm
          have hd : decide ((j : Int) < 4) = true := by simp; omega
          go_wp2_with fail
          go_loopw [8, 11, 12] (fun y o i wz => wz = wr ∧ ∃ n : Nat, n ≤ f[j].marks.length ∧ i = .int .i64 ((n : Int) + 1) ∧ y = .int .i64 (baseUp best f[j].marks b0 n) ∧ o = .bool (okUp best f[j].marks n)) (fun _ _ i _ => f[j].marks.length + 1 - (intOf i).toNat)
          case atStart => exact ⟨rfl, 0, Nat.zero_le _, rfl, rfl, rfl⟩
          case round =>
            obtain ⟨rfl, n, hn, rfl, rfl, rfl⟩ := hrel
            have hbu := baseUp_le best f[j].marks b0 n
            by_cases hln : n < f[j].marks.length
            · obtain ⟨mg, rfl, hm0⟩ := hmcells n hln
              have HK := hide (HG.out ((n : Int) + 1) f[j].marks[n])
              have ho := okUp_succ best f[j].marks n
              have hgd : f[j].marks.getD n 0 = f[j].marks[n] := by simp [hln]
              rw [hgd] at ho
              have hbs : baseUp best f[j].marks b0 (n + 1) = if okUp best f[j].marks (n + 1) && decide (baseUp best f[j].marks b0 n < n + 1) then n + 1 else baseUp best f[j].marks b0 n := rfl
              rw [ho] at hbs
              generalize baseUp best f[j].marks b0 n = y at *
              generalize okUp best f[j].marks n = o at *
              generalize good best ((n : Int) + 1) f[j].marks[n] = gd at *
              have HO := hide ho
              have HBU := hide hbs
              clear ho hbs hgd
              cases o
              · go_wp2_with fail
                refine HK.out.mono ?_
                rintro e1 w2 ⟨rfl, hw1⟩
                subst hw1
                go_wp2_with fail
                go_roundw
                case rel => (exact ⟨by trivial, n + 1, by omega, by go_num, by rw [HBU.out]; simp, by rw [HO.out]; rfl⟩)
                case measure => simp [intOf]; omega
              · cases gd
                · go_wp2_with fail
                  refine HK.out.mono ?_
                  rintro e1 w2 ⟨rfl, hw1⟩
                  subst hw1
                  go_wp2_with fail
                  go_roundw
                  case rel => (exact ⟨by trivial, n + 1, by omega, by go_num, by rw [HBU.out]; simp, by rw [HO.out]; rfl⟩)
                  case measure => simp [intOf]; omega
                · by_cases hy : y < n + 1
                  · rw [if_pos (by simp [hy])] at HBU
                    go_wp2_with fail
                    refine HK.out.mono ?_
                    rintro e1 w2 ⟨rfl, hw1⟩
                    subst hw1
                    go_wp2_with fail
                    go_roundw
                    case rel => (exact ⟨by trivial, n + 1, by omega, by go_num, by rw [HBU.out]; go_num, by rw [HO.out]; rfl⟩)
                    case measure => simp [intOf]; omega
                  · rw [if_neg (by simp [hy])] at HBU
                    go_wp2_with fail
                    refine HK.out.mono ?_
                    rintro e1 w2 ⟨rfl, hw1⟩
                    subst hw1
                    go_wp2_with fail
                    go_roundw
                    case rel => (exact ⟨by trivial, n + 1, by omega, by go_num, by (rw [HBU.out]; try rfl), by rw [HO.out]; rfl⟩)
                    case measure => simp [intOf]; omega
            · have hne : n = f[j].marks.length := by omega
              have HBS2 : Hid (baseAll best f (j + 1) = baseUp best f[j].marks b0 n) := hide (by rw [HBS.out, hne])
              clear hne
              go_wp2_with fail
              go_roundw
              case rel => exact ⟨by trivial, j + 1, by omega, by go_num, by rw [HBS2.out]⟩
              case measure => simp [intOf]; omega
        · have hj4 : j = 4 := by omega
          have hd5 : decide ((j : Int) < 4) = false := by simp; omega
          have HB4 : Hid (baseAll best f j = baseOf f) := hide (by unfold baseOf; rw [HBst.out, hj4])
          clear hj4 hlt hj
          generalize baseAll best f j = base at *
          have HDC : Hid (decCuts f e = best ++ [(e, (base : Int))]) := hide (by unfold decCuts; rw [← HB4.out, HBst.out])
          obtain ⟨ya, yc, hyy, hbcells⟩ := cuts_cells hV
          simp only [Value.slice.injEq] at hyy
          obtain ⟨rfl, rfl, rfl⟩ := hyy
          obtain ⟨W0, hW0⟩ : ∃ W0, W0 = wr := ⟨_, rfl⟩
          subst hW0
          go_wp2
          go_loopw [14, 15] (fun o i wz => Below W0.heap.size W0 wz ∧ ∃ n : Nat, n ≤ best.length ∧ i = .int .i64 n ∧ Made wz W0.heap.size 53 2 o ((best.take n).map cutRow)) (fun _ i _ => best.length - (intOf i).toNat)
          case atStart => exact ⟨Below.refl _ _, 0, Nat.zero_le _, rfl, Made.nil _ _ _ _⟩
          case round =>
            obtain ⟨hB, n, hn, rfl, hM⟩ := hrel
            have hsz := hB.size
            by_cases hln : n < best.length
            · obtain ⟨bg, rfl, q0, q1⟩ := hbcells n hln
              have hbgl := World.block_lt_of_cell? W0 _ q0
              have p0 := (hB.cell (p := ⟨bg, n * 2, none⟩) hbgl).trans q0
              have p1 := (hB.cell (p := ⟨bg, n * 2 + 1, none⟩) hbgl).trans q1
              have hbgl2 := Nat.lt_of_lt_of_le hbgl hsz
              have HR := hide (cutRow_take best n hln)
              generalize hcn : best[n] = cn at *
              clear hcn q0 q1
              have hM2 := hM.kept ((Below.refl _ _).alloc (Nat.le_refl _) (Obj.cells #[.int .i64 cn.1, .int .i64 cn.2] 53))
              go_wp2_with (at_builtin; go_must (refine wpList_append_made (.tmp 83) (.tmp 88) 49 53 _ 2 16 _ ((best.take n).map cutRow) n (cutRow cn) W0.heap.size ⟨wr.heap.size, 0, none⟩ 1 (by simp; omega) rfl rfl Tryz.underlying49 Tryz.infoCut rfl (by decide) rfl rfl hM2 rfl (cell_one_new' _ _ _) (by simp [cutRow, Value.oneCell']) (by simp only [maxLen]; omega) (by omega) (by simp; omega) ?_; intro ao cap2 w2 hM3 hB3))
              go_roundw
              case rel => exact ⟨((hB.alloc (by omega) _).trans hB3), n + 1, by omega, by go_num, by rw [HR.out]; simpa using hM3⟩
              case measure => simp [intOf]; omega
            · have hne : n = best.length := by omega
              rw [hne, List.take_length] at hM
              clear hne
              have hM2 := hM.kept ((Below.refl _ _).alloc (Nat.le_refl _) (Obj.cells #[.int .i64 e, .int .i64 base] 53))
              go_wp2_with (at_builtin; go_must (refine wpList_append_made (.tmp 90) (.tmp 94) 49 53 _ 2 16 _ (best.map cutRow) best.length (cutRow (e, (base : Int))) W0.heap.size ⟨wr.heap.size, 0, none⟩ 1 (by simp) rfl rfl Tryz.underlying49 Tryz.infoCut rfl (by decide) rfl rfl hM2 rfl (cell_one_new' _ _ _) (by simp [cutRow, Value.oneCell']) (by simp only [maxLen]; omega) (by omega) (by simp; omega) ?_; intro ao cap2 w2 hM3 hB3))
              go_ret2
              refine ⟨⟨_, by rw [← HB4.out]; rfl, ?_⟩, (hB.alloc (by omega) _).trans hB3⟩
              rw [HDC.out, List.map_append]
              simpa using hM3
end Go.Proofs.YtfpbkghcjaonlaaGreat
