import Derived.Test.YtfpbkghcjaonlaaGreatJ09
import Derived.BigQuiet
/-
  sixfoldref: Open.
-/
namespace Go.Proofs.YtfpbkghcjaonlaaGreat
open Go.RowKit

def RVol.sendUp (r : RVol) (f : Nat → Msg) : Nat → RVol
  | 0 => r
  | n + 1 => (r.sendUp f n).send (f n)
theorem sendNet_len (fl : Int) (net : List (Msg × Bool)) (m : Msg) : (sendNet fl net m).length ≤ net.length + 1 := by
  unfold sendNet; split <;> simp
theorem RVol.sendUp_len (r : RVol) (f : Nat → Msg) : ∀ n, (r.sendUp f n).net.length ≤ r.net.length + n
  | 0 => Nat.le_refl _
  | n + 1 => by
    have h1 := RVol.sendUp_len r f n
    have h2 := sendNet_len (r.sendUp f n).fl (r.sendUp f n).net (f n)
    show (sendNet _ _ _).length ≤ _
    omega

theorem last_get {α : Type} (l : List α) (x : α) (h : l.length < (l ++ [x]).length) : (l ++ [x])[l.length]'h = x := by simp

def pen0 : RPen := ⟨[], [], [], false, 0, 0, 0, 0⟩
def fenceMsg (e : Int) (s : Nat) : Msg := ⟨1, e, s, e, 0, 0, 0, [], []⟩
def RVol.opened (r : RVol) : RVol := { r with pens := r.pens ++ [pen0] }
def RVol.open_ (r : RVol) : RVol × Int × Int := if r.pens.length = 9 then (r, 0, 2) else (r.opened.sendUp (fenceMsg ((r.pens.length : Int) + 1)) 6, (r.pens.length : Int) + 1, 0)

theorem Tryz.infoPenPtr : (Tryz.prog.info? 124).map (fun i => (i.zero, i.size, i.bytes)) = some (some (.pointer none), 1, 8) := by kernel_rfl

def colourPen (n j : Nat) (k : Nat → Nat) (g : Nat) : Nat := if g < n then k g else if g = n then cP j else 0

set_option maxHeartbeats 4000000 in
theorem refOpen_any {k : Nat → Nat} {w : World} {q : Nat} {r : RVol} (hY : YVol k w q r) (hnl : r.net.length ≤ 3000000000) :
    Calls Tryz.prog 29 #[.pointer (some ⟨q, 0, none⟩)] w fun e w' => e = .returned (.tuple #[.int .i64 r.open_.2.1, .int .i64 r.open_.2.2]) ∧ ∃ k', Evo k k' cRef w w' ∧ YVol k' w' q r.open_.1 := by
  obtain ⟨vSegs, vPens, sb, pb, ⟨vNet, rows, hB, hN⟩, hS, hP⟩ := hY.ex
  have l1 := hP.l1
  have l2 := hP.l2
  obtain ⟨pa, pcap, hpf, _⟩ := hP.own.form
  simp only [List.length_map] at hpf
  have y4 : w.cell? ⟨q, 4, none⟩ = some vPens := hB.cell 4
  have hql := hB.lt
  subst hpf
  by_cases h9 : r.pens.length = 9
  · have HE : Hid (r.open_ = (r, 0, 2)) := hide (by unfold RVol.open_; rw [if_pos h9])
    rw [l1, h9] at y4
    clear h9
    go_enter Tryz.func29, Tryz.ntmps29
    go_wp2
    go_ret2
    exact ⟨by rw [HE.out]; rfl, k, Evo.refl _ _ _, by rw [HE.out]; exact hY⟩
  · have HE : Hid (r.open_ = (r.opened.sendUp (fenceMsg ((r.pens.length : Int) + 1)) 6, (r.pens.length : Int) + 1, 0)) := hide (by unfold RVol.open_; rw [if_neg h9])
    have h9' : ((pb.length : Int) == 9) = false := by simp; omega
    obtain ⟨W2, hW2⟩ : ∃ W2, W2 = ((w.alloc (Obj.cells #[.slice none 0 0, .slice none 0 0, .slice none 0 0, .bool false, .int .i64 0, .int .i64 0, .int .i64 0, .int .i64 0] 126)).alloc (Obj.cells #[.pointer (some ⟨w.heap.size, 0, none⟩)] 124)) := ⟨_, rfl⟩
    have e2 : Evo k (colourPen w.heap.size r.pens.length k) noC w W2 := by rw [hW2]; exact (((Evo.refl k noC w).alloc _).alloc _).recolour _ (fun i hi => if_pos hi)
    have q0 : W2.heap[w.heap.size]? = some (.cells #[.slice none 0 0, .slice none 0 0, .slice none 0 0, .bool false, .int .i64 0, .int .i64 0, .int .i64 0, .int .i64 0] 126 (0, 0)) := by
      rw [hW2, Below.heap_alloc _ _ _ (by simp)]; exact heap_alloc_new w _
    have q1 : W2.heap[w.heap.size + 1]? = some (.cells #[.pointer (some ⟨w.heap.size, 0, none⟩)] 124 (0, 0)) := by
      rw [hW2]; exact heap_alloc2_new w _ _
    have hnews : ∀ x u, ([ptrRow w.heap.size] : List (List Value)).flatten[x]? = some u → ((w.alloc (Obj.cells #[.slice none 0 0, .slice none 0 0, .slice none 0 0, .bool false, .int .i64 0, .int .i64 0, .int .i64 0, .int .i64 0] 126)).alloc (Obj.cells #[.pointer (some ⟨w.heap.size, 0, none⟩)] 124)).cell? ((⟨w.heap.size + 1, 0, none⟩ : Addr).add x) = some u := fun x u hx => by
      rw [← hW2, Addr.add_lit, Nat.zero_add]
      rw [cell_of_row _ _ x _ _ _ q1]
      simpa [ptrRow] using hx
    have hP2 : PenIs (colourPen w.heap.size r.pens.length k) W2 (cP r.pens.length) w.heap.size pen0 := by
      refine ⟨_, _, _, ⟨q0, ?_⟩, ⟨[], Rows.nil _ _ _ _ _, rfl, fun i h => absurd h (Nat.not_lt_zero _)⟩, ⟨[], Rows.nil _ _ _ _ _, rfl, fun i h => absurd h (Nat.not_lt_zero _)⟩, Rows.nil _ _ _ _ _⟩
      unfold colourPen; rw [if_neg (by omega), if_pos rfl]
    have hPa := hP.evo e2 (noC_not _) (noC_not _) (fun c _ _ => noC_not c)
    have hSa := hS.evo e2 (noC_not _) (noC_not _) (fun c _ _ => noC_not c)
    have hNa := hN.evo e2 (noC_not _) (noC_not _)
    have hBa := hB.evo e2 (noC_not _)
    have hR2 := hPa.own
    have hB2 := hBa
    rw [hW2] at hR2 hB2
    have hb9 : pb.length ≤ 8 := by omega
    have L1 := hide l1
    have HW := hide (And.intro hW2 (And.intro q0 (And.intro q1 (And.intro hP2 (And.intro hPa (And.intro hSa (And.intro hNa hBa)))))))
    have HO := hide (And.intro hP (And.intro hS (And.intro hN hB)))
    clear l1 l2 h9 hW2 q0 q1 hP2 hPa hSa hNa hBa hP hS hN hB
    go_enter Tryz.func29, Tryz.ntmps29
    go_wp2_with (at_builtin; go_must (refine wpList_append_rows (colourPen w.heap.size r.pens.length k) cPens (.tmp 16) (.tmp 19) 82 124 _ 1 8 _ (pb.map ptrRow) [ptrRow w.heap.size] pb.length ⟨w.heap.size + 1, 0, none⟩ 1 1 (by simp) rfl rfl Tryz.underlying82 Tryz.infoPenPtr rfl (by decide) rfl rfl hR2 rfl (by simp [ptrRow]) hnews (by simp [ptrRow, Value.oneCell']) (by simp only [maxLen]; omega) (by omega) ?_; intro ao1 cap1 w1 k1 hR1 hE1; have hB1 := hB2.evo hE1 (by decide); have x4 : w1.cell? ⟨q, 4, none⟩ = some (.slice pa pb.length pcap) := hB1.cell 4; have xf := hB1.free 4; have hql1 := hB1.lt))
    obtain ⟨W1, hW1⟩ : ∃ W1, W1 = w1.setCell ⟨q, 4, none⟩ (.slice ao1 (pb.length + 1) cap1) := ⟨_, rfl⟩
    have HY1 : Hid (Evo k k1 cRef w W1 ∧ YVol k1 W1 q r.opened) := hide (by
      obtain ⟨hW2, q0, q1, hP2, hPa, hSa, hNa, hBa⟩ := HW.out
      rw [← hW2] at hE1 hB2
      obtain ⟨f1, f2, f3⟩ := push_fin (Evo.refl _ noC W2) hB2 (by decide) hR1 hE1 4
      rw [← hW1] at f1 f2 f3
      have hnot : ∀ c, 20 ≤ c → ¬ (c = cY ∨ c = cPens) := fun c hc h => by unfold cY cPens at h; omega
      have him : ¬ (IM = cY ∨ IM = cPens) := by decide
      refine ⟨(e2.mono (fun _ h => h.elim)).trans (f1.mono (fun c h => by rcases h with h | h <;> subst h <;> exact ⟨by decide, by decide⟩)), ?_⟩
      refine ⟨vSegs, _, sb, pb ++ [w.heap.size], ⟨vNet, rows, f2, hNa.evo f1 (by decide) (by decide)⟩, hSa.evo f1 him (by decide) (fun c h _ => hnot c h), ?_⟩
      have hl := L1.out
      refine ⟨by rw [List.map_append]; exact f3, by simp [RVol.opened, hl], by simp [RVol.opened]; omega, fun i a b => ?_⟩
      by_cases hib : i < pb.length
      · have e1 : (pb ++ [w.heap.size])[i]'a = pb[i] := List.getElem_append_left hib
        have e3 : (r.opened.pens)[i]'b = r.pens[i] := List.getElem_append_left (by omega)
        rw [e1, e3]
        exact (hPa.all i hib (by omega)).evo f1 him (hnot _ (by unfold cP; omega)) (hnot _ (by unfold cP; omega)) (hnot _ (by unfold cP; omega)) (hnot _ (by unfold cP; omega))
      · have hip : i = r.pens.length := by simp at a; omega
        subst hip
        have e1 : (pb ++ [w.heap.size])[r.pens.length]'a = w.heap.size := by rw [List.getElem_append_right (by omega)]; simp
        have e3 : (r.opened.pens)[r.pens.length]'b = pen0 := last_get r.pens pen0 b
        rw [e1, e3]
        exact hP2.evo f1 him (hnot _ (by unfold cP; omega)) (hnot _ (by unfold cP; omega)) (hnot _ (by unfold cP; omega)) (hnot _ (by unfold cP; omega)))
    rw [← hW1]
    clear HW HO hW1 hR1 hE1 hB1 hB2 hR2 e2 hnews x4 xf
    go_loopw [5] (fun i wr => ∃ j : Nat, j ≤ 6 ∧ i = .int .i64 j ∧ Hid (∃ k', Evo k k' cRef w wr ∧ YVol k' wr q (r.opened.sendUp (fenceMsg ((pb.length : Int) + 1)) j))) (fun i _ => 6 - (intOf i).toNat)
    case atStart => exact ⟨0, by omega, rfl, hide ⟨k1, HY1.out.1, HY1.out.2⟩⟩
    case round =>
      obtain ⟨j, hj, rfl, hst⟩ := hrel
      by_cases hlt : j < 6
      · have hd : decide ((j : Int) < 6) = true := by simp; omega
        have HS : Hid (Calls Tryz.prog 67 #[.pointer (some ⟨q, 0, none⟩), .agg #[.int .i64 1, .int .i64 ((pb.length : Int) + 1), .int .i64 j, .int .i64 ((pb.length : Int) + 1), .int .i64 0, .int .i64 0, .int .i64 0, .slice none 0 0, .slice none 0 0]] wr fun e w' => e = .returned (.tuple #[]) ∧
            ∃ k', Evo k k' cRef w w' ∧ YVol k' w' q (r.opened.sendUp (fenceMsg ((pb.length : Int) + 1)) (j + 1))) := hide (by
          obtain ⟨k', ev, hy⟩ := hst.out
          have hl := RVol.sendUp_len r.opened (fenceMsg ((pb.length : Int) + 1)) j
          have hl2 : r.opened.net.length = r.net.length := rfl
          refine (refSend_any (fenceMsg ((pb.length : Int) + 1) j) hy (by omega) (Rows.nil _ _ _ _ _) (Rows.nil _ _ _ _ _)).mono ?_
          rintro e w' ⟨rfl, k2, ev2, hy2⟩
          exact ⟨rfl, k2, ev.trans (ev2.mono (fun c h => cRef_of h)), hy2⟩)
        clear hst
        go_wp2_with fail
        refine HS.out.mono ?_
        rintro e1 w2 ⟨rfl, HY2⟩
        go_wp2_with fail
        go_roundw
        case rel => exact ⟨j + 1, by omega, by go_num, hide HY2⟩
        case measure => simp [intOf]; omega
      · have hj6 : j = 6 := by omega
        have hd : decide ((j : Int) < 6) = false := by simp; omega
        rw [hj6] at hst
        clear hj6
        go_wp2
        go_ret2
        obtain ⟨k', ev, hy⟩ := hst.out
        rw [L1.out] at hy
        exact ⟨by rw [HE.out, L1.out]; rfl, k', ev, by rw [HE.out]; exact hy⟩
end Go.Proofs.YtfpbkghcjaonlaaGreat

/-
  sixfoldref: may.
-/
namespace Go.Proofs.YtfpbkghcjaonlaaGreat
open Go.RowKit

def RVol.may (r : RVol) (n : Int) : WSt × Int := match writerAt r.pens n with
  | none => (⟨0, 0, 0, 0⟩, 3)
  | some p => (p.stands, if p.stands.phase = 4 then 4 else 0)

set_option maxHeartbeats 2000000 in
theorem may_core (w : World) (q : Nat) (n a0 a1 a2 a3 e x : Int) (hx : (e ≠ 0 ∧ x = e) ∨ (e = 0 ∧ a0 = 4 ∧ x = 4) ∨ (e = 0 ∧ a0 ≠ 4 ∧ x = 0)) (hcall : ∀ W, Below w.heap.size w W → Calls Tryz.prog 58 #[.pointer (some ⟨q, 0, none⟩), .int .i64 n] W fun en w' => en = .returned (.tuple #[.agg #[.int .i64 a0, .int .i64 a1, .int .i64 a2, .int .i64 a3], .int .i64 e]) ∧ Below W.heap.size W w') :
    Calls Tryz.prog 70 #[.pointer (some ⟨q, 0, none⟩), .int .i64 n] w fun en w' => en = .returned (.tuple #[.agg #[.int .i64 a0, .int .i64 a1, .int .i64 a2, .int .i64 a3], .int .i64 x]) ∧ Below w.heap.size w w' := by
  have HC := hide hcall
  have HX := hide hx
  clear hcall hx
  go_enter Tryz.func70, Tryz.ntmps70
  go_wp2_with fail
  refine (HC.out _ ((Below.refl _ _).alloc (Nat.le_refl _) _)).mono ?_
  rintro en w1 ⟨rfl, hb1⟩
  have hs1 := hb1.size
  simp only [World.size_alloc] at hs1 hb1
  have hr1 : w1.heap[w.heap.size]? = some (.cells #[.int .i64 0, .int .i64 0, .int .i64 0, .int .i64 0] 105 (0, 0)) := (hb1.block w.heap.size (by omega)).trans (heap_alloc_new w _)
  have c0 : w1.cell? ⟨w.heap.size, 0, none⟩ = some (.int .i64 0) := by rw [cell_of_row _ _ 0 _ _ _ hr1]; rfl
  have c1 : w1.cell? ⟨w.heap.size, 1, none⟩ = some (.int .i64 0) := by rw [cell_of_row _ _ 1 _ _ _ hr1]; rfl
  have c2 : w1.cell? ⟨w.heap.size, 2, none⟩ = some (.int .i64 0) := by rw [cell_of_row _ _ 2 _ _ _ hr1]; rfl
  have c3 : w1.cell? ⟨w.heap.size, 3, none⟩ = some (.int .i64 0) := by rw [cell_of_row _ _ 3 _ _ _ hr1]; rfl
  have f0 := frozen_of_row w1 w.heap.size 0 _ _ hr1
  have f1 := frozen_of_row w1 w.heap.size 1 _ _ hr1
  have f2 := frozen_of_row w1 w.heap.size 2 _ _ hr1
  have f3 := frozen_of_row w1 w.heap.size 3 _ _ hr1
  have hB1 : Below w.heap.size w w1 := ((Below.refl w.heap.size w).alloc (Nat.le_refl _) _).trans (hb1.mono (by omega))
  have hws : w.heap.size < w1.heap.size := by omega
  clear hr1
  rcases HX.out with ⟨he, rfl⟩ | ⟨rfl, rfl, rfl⟩ | ⟨rfl, h4, rfl⟩
  · have he' : (x == 0) = false := by simp [he]
    clear he HX
    go_wp2_with fail
    refine bodyPost_ret (v := .tuple #[.agg #[.int .i64 a0, .int .i64 a1, .int .i64 a2, .int .i64 a3], .int .i64 x]) (by simp [results, Tryz.results70, go_sem, c0, c1, c2, c3, hws]) rfl ⟨rfl, ?_⟩
    refine Below.alloc ?_ (by simp; omega) _
    refine Below.setCell (Below.setCell (Below.setCell (Below.setCell hB1 ?_ _) ?_ _) ?_ _) ?_ _
    all_goals exact Nat.le_refl _
  · go_wp2_with fail
    refine bodyPost_ret (v := .tuple #[.agg #[.int .i64 4, .int .i64 a1, .int .i64 a2, .int .i64 a3], .int .i64 4]) (by simp [results, Tryz.results70, go_sem, c0, c1, c2, c3, hws]) rfl ⟨rfl, ?_⟩
    refine Below.alloc ?_ (by simp; omega) _
    refine Below.setCell (Below.setCell (Below.setCell (Below.setCell hB1 ?_ _) ?_ _) ?_ _) ?_ _
    all_goals exact Nat.le_refl _
  · have h4' : (a0 == 4) = false := by simp [h4]
    clear h4 HX
    go_wp2_with fail
    refine bodyPost_ret (v := .tuple #[.agg #[.int .i64 a0, .int .i64 a1, .int .i64 a2, .int .i64 a3], .int .i64 0]) (by simp [results, Tryz.results70, go_sem, c0, c1, c2, c3, hws]) rfl ⟨rfl, ?_⟩
    refine Below.alloc ?_ (by simp; omega) _
    refine Below.setCell (Below.setCell (Below.setCell (Below.setCell hB1 ?_ _) ?_ _) ?_ _) ?_ _
    all_goals exact Nat.le_refl _

theorem refMay_any {k : Nat → Nat} {w : World} {q : Nat} {r : RVol} (n : Int) (hY : YVol k w q r) (hok : YOk r) :
    Calls Tryz.prog 70 #[.pointer (some ⟨q, 0, none⟩), .int .i64 n] w fun e w' => e = .returned (.tuple #[(r.may n).1.val, .int .i64 (r.may n).2]) ∧ Below w.heap.size w w' := by
  have hcall : ∀ W, Below w.heap.size w W → Calls Tryz.prog 58 #[.pointer (some ⟨q, 0, none⟩), .int .i64 n] W fun en w' => en = .returned (wAns (writerAt r.pens n)) ∧ Below W.heap.size W w' := fun W hW =>
    refWriter_any n (hY.evo (Evo.of_below (C := noC) hW) (noC_not _) (fun c _ _ => noC_not c)) hok
  unfold RVol.may
  cases ho : writerAt r.pens n with
  | none =>
    rw [ho] at hcall
    exact may_core w q n 0 0 0 0 3 3 (.inl ⟨by decide, rfl⟩) hcall
  | some p =>
    rw [ho] at hcall
    refine may_core w q n p.stands.phase p.stands.base p.stands.next p.stands.dur 0 (if p.stands.phase = 4 then 4 else 0) (.inr ?_) hcall
    by_cases h4 : p.stands.phase = 4
    · exact .inl ⟨rfl, h4, by rw [if_pos h4]⟩
    · exact .inr ⟨rfl, h4, by rw [if_neg h4]⟩
end Go.Proofs.YtfpbkghcjaonlaaGreat

/-
  sixfoldref: Append.
-/
namespace Go.Proofs.YtfpbkghcjaonlaaGreat
open Go.RowKit

/-- What every call on a writer needs. -/
theorem pen_open {k : Nat → Nat} {w : World} {q : Nat} {r : RVol} (hY : YVol k w q r) (i : Nat) (hi : i < r.pens.length) :
    ∃ vSegs vPens sb pb g cap vNet rows, YNet k w q r.wi r.fl vSegs vPens r.net ∧ SegsIs k w vSegs sb r.segs ∧ PensIs k w vPens pb r.pens ∧ Blk k w cY q 84 [.int .i64 r.wi, .int .i64 r.fl, vNet, vSegs, vPens] ∧ NetIs k w vNet r.net rows ∧
      pb.length = r.pens.length ∧ w.cell? ⟨q, 4, none⟩ = some (.slice (some ⟨g, 0, none⟩) r.pens.length cap) ∧ ∃ (h1 : i < pb.length), w.cell? ⟨g, i, none⟩ = some (.pointer (some ⟨pb[i], 0, none⟩)) ∧ PenIs k w (cP i) pb[i] r.pens[i] := by
  obtain ⟨vSegs, vPens, sb, pb, ⟨vNet, rows, hB, hN⟩, hS, hP⟩ := hY.ex
  have l1 := hP.l1
  obtain ⟨a, cap, hv, hg⟩ := ptrs_cells hP.own
  obtain ⟨g, rfl, hp⟩ := hg i (by omega)
  refine ⟨vSegs, vPens, sb, pb, g, cap, vNet, rows, ⟨vNet, rows, hB, hN⟩, hS, hP, hB, hN, l1, ?_, by omega, hp, hP.all i (by omega) hi⟩
  rw [hB.cell, hv, l1]; rfl

def RPen.Fine (p : RPen) : Prop := p.over = true → p.a0 = 4

/-- A writer on which a call may be made. -/
theorem RVol.may_ok {r : RVol} {n : Int} (h : (r.may n).2 = 0) (hf : ∀ p ∈ r.pens, p.Fine) : ∃ (i : Nat) (hi : i < r.pens.length), n = (i : Int) + 1 ∧ r.may n = (r.pens[i].stands, 0) ∧ r.pens[i].over = false := by
  unfold RVol.may at h ⊢
  cases ho : writerAt r.pens n with
  | none => rw [ho] at h; simp at h
  | some p =>
    rw [ho] at h
    simp only at h ⊢
    unfold writerAt at ho
    by_cases h1 : n < 1
    · rw [if_pos h1] at ho; simp at ho
    · rw [if_neg h1] at ho
      obtain ⟨hi, he⟩ := List.getElem?_eq_some_iff.1 ho
      refine ⟨n.toNat - 1, hi, by omega, ?_, ?_⟩
      · rw [he, h]
      · cases hov : r.pens[n.toNat - 1].over
        · rfl
        · exfalso
          have h4 := hf _ (List.getElem_mem hi) hov
          rw [he] at h4 hov
          have : p.stands.phase = 4 := by unfold RPen.stands; rw [if_pos hov]; exact h4
          rw [if_pos this] at h
          simp at h

theorem durUp_le (st : List Msg) (b : Nat) : ∀ n, durUp st b n ≤ b + n
  | 0 => Nat.zero_le _
  | n + 1 => by have := durUp_le st b n; unfold durUp; split <;> omega
theorem baseOf_le {f : List Msg} (hf : ∀ m ∈ f, MsgOk m) : baseOf f ≤ 4000000000 := baseAll_le _ _ hf _
theorem RPen.stands_le {p : RPen} (h : PenOk p) (ho : p.over = false) : 0 ≤ p.stands.base ∧ p.stands.base ≤ 4000000000 ∧ 0 ≤ p.stands.next ∧ p.stands.next ≤ 8000000000 ∧ 0 ≤ p.stands.dur ∧ p.stands.dur ≤ 9000000000 := by
  have h1 := baseOf_le h.f
  have h2 := h.vl
  have h3 := durUp_le p.status (baseOf p.fenced) (p.values.length + 1)
  unfold RPen.stands
  rw [if_neg (by simp [ho])]
  split
  · simp
  · split
    · simp only; omega
    · simp only; omega

def writeMsg (n lsn value : Int) (s : Nat) : Msg := ⟨6, n, s, n, lsn, value, 0, [], []⟩
def RVol.pushed (r : RVol) (i : Nat) (v : Int) : RVol := match r.pens[i]? with | some p => { r with pens := r.pens.set i { p with values := p.values ++ [v] } } | none => r
def RVol.append (r : RVol) (n v : Int) : RVol × Int × Int :=
  if (r.may n).2 ≠ 0 then (r, 0, (r.may n).2)
  else if (r.may n).1.phase ≠ 3 then (r, 0, 5)
  else if (r.may n).1.next = 40 then (r, 0, 7)
  else if (r.may n).1.next = (r.may n).1.dur + r.wi then (r, 0, 6)
  else ((r.pushed (n.toNat - 1) v).sendUp (writeMsg n ((r.may n).1.next + 1) v) 6, (r.may n).1.next + 1, 0)

set_option maxHeartbeats 4000000 in
theorem refAppend_any {k : Nat → Nat} {w : World} {q : Nat} {r : RVol} (n v : Int) (hY : YVol k w q r) (hok : YOk r) (hnl : r.net.length ≤ 3000000000) (hf : ∀ p ∈ r.pens, p.Fine) (hw0 : 0 ≤ r.wi) (hw8 : r.wi ≤ 8) :
    Calls Tryz.prog 33 #[.pointer (some ⟨q, 0, none⟩), .int .i64 n, .int .i64 v] w fun e w' => e = .returned (.tuple #[.int .i64 (r.append n v).2.1, .int .i64 (r.append n v).2.2]) ∧ ∃ k', Evo k k' cRef w w' ∧ YVol k' w' q (r.append n v).1 := by
  have HM := hide (refMay_any n hY hok)
  unfold WSt.val at HM
  by_cases he : (r.may n).2 ≠ 0
  · have HE : Hid (r.append n v = (r, 0, (r.may n).2)) := hide (by unfold RVol.append; rw [if_pos he])
    have he' : ((r.may n).2 != 0) = true := by simpa using he
    clear he
    generalize r.may n = m at *
    go_enter Tryz.func33, Tryz.ntmps33
    go_wp2_with fail
    refine HM.out.mono ?_
    rintro e1 w1 ⟨rfl, hb1⟩
    go_wp2_with fail
    go_ret2
    exact ⟨by rw [HE.out]; rfl, k, Evo.of_below (hb1.alloc hb1.size _), by rw [HE.out]; exact hY.evo (Evo.of_below (C := noC) (hb1.alloc hb1.size _)) (noC_not _) (fun c _ _ => noC_not c)⟩
  · have he0 : (r.may n).2 = 0 := by omega
    obtain ⟨i, hi, hni, hme, hov⟩ := RVol.may_ok he0 hf
    have hbd := RPen.stands_le (hok.pk _ (List.getElem_mem hi)) hov
    rw [hme] at HM
    dsimp only at HM
    subst hni
    obtain ⟨vSegs, vPens, sb, pb, g, cap, vNet, rows, hN, hS, hP, hB, hNet, l1, y4, h1, hp, hpen⟩ := pen_open hY i hi
    have HA : Hid (r.append ((i : Int) + 1) v = if r.pens[i].stands.phase ≠ 3 then (r, 0, 5) else if r.pens[i].stands.next = 40 then (r, 0, 7) else if r.pens[i].stands.next = r.pens[i].stands.dur + r.wi then (r, 0, 6) else ((r.pushed i v).sendUp (writeMsg ((i : Int) + 1) (r.pens[i].stands.next + 1) v) 6, r.pens[i].stands.next + 1, 0)) := hide (by
      unfold RVol.append; rw [if_neg he]; simp only [hme]; rw [show ((i : Int) + 1).toNat - 1 = i from by omega])
    clear he he0 hme
    generalize hst : r.pens[i].stands = st at *
    clear hst
    by_cases h3 : st.phase = 3
    · obtain ⟨ph, ba, ne, du⟩ := st
      dsimp only at h3 HM HA hbd
      subst h3
      obtain ⟨b1, b2, b3, b4, b5, b6⟩ := hbd
      by_cases h40 : ne = 40
      · have HE : Hid (r.append ((i : Int) + 1) v = (r, 0, 7)) := hide (by rw [HA.out, if_neg (by simp), if_pos h40])
        subst h40
        clear HA
        go_enter Tryz.func33, Tryz.ntmps33
        go_wp2_with fail
        refine HM.out.mono ?_
        rintro e1 w1 ⟨rfl, hb1⟩
        go_wp2_with fail
        go_ret2
        exact ⟨by rw [HE.out]; rfl, k, Evo.of_below (hb1.alloc hb1.size _), by rw [HE.out]; exact hY.evo (Evo.of_below (C := noC) (hb1.alloc hb1.size _)) (noC_not _) (fun c _ _ => noC_not c)⟩
      · have h40' : (ne == 40) = false := by simp [h40]
        have hql := hB.lt
        by_cases hwi : ne = du + r.wi
        · have HE : Hid (r.append ((i : Int) + 1) v = (r, 0, 6)) := hide (by rw [HA.out, if_neg (by simp), if_neg h40, if_pos hwi])
          subst hwi
          clear HA h40
          go_enter Tryz.func33, Tryz.ntmps33
          go_wp2_with fail
          refine HM.out.mono ?_
          rintro e1 w1 ⟨rfl, hb1⟩
          have hB1 := hB.evo (Evo.of_below (C := noC) hb1) (noC_not _)
          have z0 : w1.cell? ⟨q, 0, none⟩ = some (.int .i64 r.wi) := hB1.cell 0
          have hql1 := hB1.lt
          go_wp2_with fail
          go_quiet (fail)
          go_wp2_with fail
          go_ret2
          exact ⟨by rw [HE.out]; rfl, k, ((Evo.of_below hb1).alloc _).drewN _, by rw [HE.out]; exact hY.evo (((Evo.of_below (C := noC) hb1).alloc _).drewN _) (noC_not _) (fun c _ _ => noC_not c)⟩
        · have hwi' : (ne == du + r.wi) = false := by simp [hwi]
          have HE : Hid (r.append ((i : Int) + 1) v = ((r.pushed i v).sendUp (writeMsg ((i : Int) + 1) (ne + 1) v) 6, ne + 1, 0)) := hide (by rw [HA.out, if_neg (by simp), if_neg h40, if_neg hwi])
          clear HA h40 hwi
          obtain ⟨vF, vS, vV, pB, pF, pS, pV⟩ := hpen.ex
          have hi9 : (i : Int) < 9 := by have := hP.l2; omega
          have hvl := (hok.pk _ (List.getElem_mem hi)).vl
          obtain ⟨va, vcap, hvf, _⟩ := pV.form
          simp only [List.length_map] at hvf
          subst hvf
          generalize hpbi : pb[i] = pp at *
          have HPB := hide hpbi
          clear hpbi
          go_enter Tryz.func33, Tryz.ntmps33
          go_wp2_with fail
          refine HM.out.mono ?_
          rintro e1 w1 ⟨rfl, hb1⟩
          have ev1 : Evo k k noC w w1 := Evo.of_below hb1
          have hB1 := hB.evo ev1 (noC_not _)
          have z0 : w1.cell? ⟨q, 0, none⟩ = some (.int .i64 r.wi) := hB1.cell 0
          have z4 : w1.cell? ⟨q, 4, none⟩ = some (.slice (some ⟨g, 0, none⟩) r.pens.length cap) := (hb1.cell (p := ⟨q, 4, none⟩) hB.lt).trans y4
          have hgl := World.block_lt_of_cell? w _ hp
          have zp : w1.cell? ⟨g, i, none⟩ = some (.pointer (some ⟨pp, 0, none⟩)) := (hb1.cell (p := ⟨g, i, none⟩) hgl).trans hp
          have pB1 := pB.evo ev1 (noC_not _)
          have zv : w1.cell? ⟨pp, 2, none⟩ = _ := pB1.cell 2
          simp only [List.getElem?_cons_zero, List.getElem?_cons_succ] at zv
          have hql1 := hB1.lt
          have hgl1 := World.block_lt_of_cell? w1 _ zp
          have hpl1 := pB1.lt
          go_wp2_with fail
          go_quiet (fail)
          have ex : Evo k (fun x => if x < w1.heap.size then k x else 0) noC w1 (((w1.alloc (Obj.cells #[.int .i64 3, .int .i64 ba, .int .i64 ne, .int .i64 du] 105)).drewN nq).alloc (Obj.cells #[.int .i64 v] 3)) := (((((Evo.refl k noC w1).alloc _).drewN nq).alloc _)).recolour _ (fun x hx => if_pos hx)
          have hR3 := (pV.evo ev1 (noC_not _)).evo ex (noC_not _)
          have hnews : ∀ x u, ([intRow v] : List (List Value)).flatten[x]? = some u → (((w1.alloc (Obj.cells #[.int .i64 3, .int .i64 ba, .int .i64 ne, .int .i64 du] 105)).drewN nq).alloc (Obj.cells #[.int .i64 v] 3)).cell? ((⟨w1.heap.size + 1, 0, none⟩ : Addr).add x) = some u := fun x u hx => by
            have := cell_one_new ((w1.alloc (Obj.cells #[.int .i64 3, .int .i64 ba, .int .i64 ne, .int .i64 du] 105)).drewN nq) (.int .i64 v) 3 x u (by simpa [intRow] using hx)
            simpa using this
          have hX : Blk (fun x => if x < w1.heap.size then k x else 0) (((w1.alloc (Obj.cells #[.int .i64 3, .int .i64 ba, .int .i64 ne, .int .i64 du] 105)).drewN nq).alloc (Obj.cells #[.int .i64 v] 3)) 0 w1.heap.size 105 [.int .i64 3, .int .i64 ba, .int .i64 ne, .int .i64 du] := by
            refine ⟨?_, by simp⟩
            rw [Below.heap_alloc _ _ _ (by simp)]
            exact heap_alloc_new w1 _
          have hB3 := (hB.evo ev1 (noC_not _)).evo ex (noC_not _)
          have pB3 := pB1.evo ex (noC_not _)
          have HN3 := hide (And.intro ((hN.evo ev1 (noC_not _) (noC_not _) (noC_not _)).evo ex (noC_not _) (noC_not _) (noC_not _)) (And.intro ((hS.evo ev1 (noC_not _) (noC_not _) (fun c _ _ => noC_not c)).evo ex (noC_not _) (noC_not _) (fun c _ _ => noC_not c)) (And.intro ((hP.evo ev1 (noC_not _) (noC_not _) (fun c _ _ => noC_not c)).evo ex (noC_not _) (noC_not _) (fun c _ _ => noC_not c))
            (And.intro ((pF.evo ev1 (noC_not _) (noC_not _)).evo ex (noC_not _) (noC_not _)) ((pS.evo ev1 (noC_not _) (noC_not _)).evo ex (noC_not _) (noC_not _))))))
          clear hN hS hP pF pS pV hB pB hpen hNet
          go_wp2_with (at_builtin; go_must (refine wpList_append_rows (fun x => if x < w1.heap.size then k x else 0) (cP i + 3) (.tmp 50) (.tmp 52) 61 3 _ 1 8 _ (r.pens[i].values.map intRow) [intRow v] r.pens[i].values.length ⟨w1.heap.size + 1, 0, none⟩ 1 1 (by simp) rfl rfl Tryz.underlying61 Tryz.infoInt rfl (by decide) rfl rfl hR3 rfl (by simp [intRow]) hnews (by simp [intRow, Value.oneCell']) (by simp only [maxLen]; omega) (by omega) ?_; intro ao1 cap1 w2 k2 hR2 hE2; have pB4 := pB3.evo hE2 (by omega); have x2 : w2.cell? ⟨pp, 2, none⟩ = _ := pB4.cell 2; simp only [List.getElem?_cons_zero, List.getElem?_cons_succ] at x2; have xf := pB4.free 2; have xl := pB4.lt))
          have HP : Hid (r.pushed i v = { r with pens := r.pens.set i { r.pens[i] with values := r.pens[i].values ++ [v] } }) := hide (by unfold RVol.pushed; rw [List.getElem?_eq_getElem hi])
          have HY1 : Hid (∃ k', Evo k k' cRef w (w2.setCell ⟨pp, 2, none⟩ (.slice ao1 (r.pens[i].values.length + 1) cap1)) ∧ Blk k' (w2.setCell ⟨pp, 2, none⟩ (.slice ao1 (r.pens[i].values.length + 1) cap1)) 0 w1.heap.size 105 [.int .i64 3, .int .i64 ba, .int .i64 ne, .int .i64 du] ∧ YVol k' (w2.setCell ⟨pp, 2, none⟩ (.slice ao1 (r.pens[i].values.length + 1) cap1)) q (r.pushed i v)) := hide (by
            obtain ⟨hN3, hS3, hP3, pF3, pS3⟩ := HN3.out
            obtain ⟨f1, f2, f3⟩ := push_fin (Evo.refl _ noC _) pB3 (by omega) hR2 hE2 2
            have hcol : ∀ c, c = cP i ∨ c = cP i + 3 → cP i ≤ c ∧ c < cP i + 4 := fun c h => by omega
            have hpe : PenIs k2 (w2.setCell ⟨pp, 2, none⟩ (.slice ao1 (r.pens[i].values.length + 1) cap1)) (cP i) pb[i] { r.pens[i] with values := r.pens[i].values ++ [v] } := by
              rw [HPB.out]
              refine ⟨_, _, _, f2, pF3.evo f1 (by omega) (by unfold cP IM; omega), pS3.evo f1 (by omega) (by unfold cP IM; omega), ?_⟩
              rw [List.map_append]; exact f3
            refine ⟨k2, (((ev1.trans ex).mono (fun _ h => h.elim)).trans (f1.mono (fun c h => by unfold cP at h; unfold cRef; omega))), hX.evo f1 (by unfold cP; omega), ?_⟩
            rw [HP.out]
            exact YVol.set_pen hN3 hS3 hP3 i h1 f1 hcol hpe)
          have hpn : Hid ((r.pushed i v).net = r.net) := hide (by rw [HP.out])
          clear HN3 HP hX hR3 hnews ex hR2 hE2 pB3 pB4 x2 xf hB3 pB1 hB1 ev1 z0 z4 zp zv hb1
          obtain ⟨b0, hb0⟩ : ∃ b0, b0 = w1.heap.size := ⟨_, rfl⟩
          rw [← hb0] at HY1
          rw [← hb0]
          obtain ⟨W3, hW3⟩ : ∃ W3, W3 = w2.setCell ⟨pp, 2, none⟩ (.slice ao1 (r.pens[i].values.length + 1) cap1) := ⟨_, rfl⟩
          rw [← hW3] at HY1
          rw [← hW3]
          clear hb0 hW3
          go_loopw [11] (fun x wr => ∃ j : Nat, j ≤ 6 ∧ x = .int .i64 j ∧ Hid (∃ k', Evo k k' cRef w wr ∧ Blk k' wr 0 b0 105 [.int .i64 3, .int .i64 ba, .int .i64 ne, .int .i64 du] ∧ YVol k' wr q ((r.pushed i v).sendUp (writeMsg ((i : Int) + 1) (ne + 1) v) j))) (fun x _ => 6 - (intOf x).toNat)
          case atStart => exact ⟨0, by omega, rfl, HY1⟩
          case round =>
            obtain ⟨j, hj, rfl, hst⟩ := hrel
            have x2 : wr.cell? ⟨b0, 2, none⟩ = some (.int .i64 ne) := by obtain ⟨k', _, hx, _⟩ := hst.out; exact hx.cell 2
            have xl : b0 < wr.heap.size := by obtain ⟨k', _, hx, _⟩ := hst.out; exact hx.lt
            by_cases hlt : j < 6
            · have hd : decide ((j : Int) < 6) = true := by simp; omega
              have HS : Hid (Calls Tryz.prog 67 #[.pointer (some ⟨q, 0, none⟩), .agg #[.int .i64 6, .int .i64 ((i : Int) + 1), .int .i64 j, .int .i64 ((i : Int) + 1), .int .i64 (ne + 1), .int .i64 v, .int .i64 0, .slice none 0 0, .slice none 0 0]] wr fun e w' => e = .returned (.tuple #[]) ∧
                  ∃ k', Evo k k' cRef w w' ∧ Blk k' w' 0 b0 105 [.int .i64 3, .int .i64 ba, .int .i64 ne, .int .i64 du] ∧ YVol k' w' q ((r.pushed i v).sendUp (writeMsg ((i : Int) + 1) (ne + 1) v) (j + 1))) := hide (by
                obtain ⟨k', ev, hx, hy⟩ := hst.out
                have hl := RVol.sendUp_len (r.pushed i v) (writeMsg ((i : Int) + 1) (ne + 1) v) j
                rw [hpn.out] at hl
                refine (refSend_any (writeMsg ((i : Int) + 1) (ne + 1) v j) hy (by omega) (Rows.nil _ _ _ _ _) (Rows.nil _ _ _ _ _)).mono ?_
                rintro e w' ⟨rfl, k2, ev2, hy2⟩
                exact ⟨rfl, k2, ev.trans (ev2.mono (fun c h => cRef_of h)), hx.evo ev2 (by decide), hy2⟩)
              clear hst
              go_wp2_with fail
              refine HS.out.mono ?_
              rintro e1 w2 ⟨rfl, HY2⟩
              go_wp2_with fail
              go_roundw
              case rel => exact ⟨j + 1, by omega, by go_num, hide HY2⟩
              case measure => simp [intOf]; omega
            · have hj6 : j = 6 := by omega
              have hd : decide ((j : Int) < 6) = false := by simp; omega
              rw [hj6] at hst
              clear hj6
              go_wp2_with fail
              go_ret2
              obtain ⟨k', ev, _, hy⟩ := hst.out
              exact ⟨by rw [HE.out]; rfl, k', ev, by rw [HE.out]; exact hy⟩
    · have h3' : (st.phase != 3) = true := by simp [h3]
      have HE : Hid (r.append ((i : Int) + 1) v = (r, 0, 5)) := hide (by rw [HA.out, if_pos h3])
      clear h3 HA
      go_enter Tryz.func33, Tryz.ntmps33
      go_wp2_with fail
      refine HM.out.mono ?_
      rintro e1 w1 ⟨rfl, hb1⟩
      go_wp2_with fail
      go_ret2
      exact ⟨by rw [HE.out]; rfl, k, Evo.of_below (hb1.alloc hb1.size _), by rw [HE.out]; exact hY.evo (Evo.of_below (C := noC) (hb1.alloc hb1.size _)) (noC_not _) (fun c _ _ => noC_not c)⟩
end Go.Proofs.YtfpbkghcjaonlaaGreat

/-
  sixfoldref: Read.
-/
namespace Go.Proofs.YtfpbkghcjaonlaaGreat
open Go.RowKit

def RVol.reads (r : RVol) (p : RPen) (lsn : Int) (s : Nat) : Bool := decide (lsn ≤ notedN p.status s) && (match r.segs[s]? with | some g => g.up | none => false)
def RVol.pickSeg (r : RVol) (p : RPen) (lsn : Int) : Option Nat := (List.range 6).find? fun s => r.reads p lsn s
theorem RVol.pickSeg_some {r : RVol} {p : RPen} {lsn : Int} {j : Nat} (hj : j < 6) (h : r.reads p lsn j = true) (hno : ∀ s, s < j → r.reads p lsn s = false) : r.pickSeg p lsn = some j := by
  unfold RVol.pickSeg
  rw [List.find?_range_eq_some]
  exact ⟨h, by simpa using hj, fun s hs => by simp [hno s hs]⟩
theorem RVol.pickSeg_none {r : RVol} {p : RPen} {lsn : Int} (hno : ∀ s, s < 6 → r.reads p lsn s = false) : r.pickSeg p lsn = none := by
  unfold RVol.pickSeg
  rw [List.find?_range_eq_none]
  intro s hs; simp [hno s hs]

def recL (o : Option Ent) : Int := (o.map (·.lsn)).getD 0
def recE (o : Option Ent) : Int := (o.map (·.epoch)).getD 0
def recV (o : Option Ent) : Int := (o.map (·.value)).getD 0
theorem recVal_eq (o : Option Ent) : recVal o = .agg #[.int .i64 (recL o), .int .i64 (recE o), .int .i64 (recV o)] := by cases o <;> rfl

def RVol.ends (r : RVol) (i : Nat) : RVol := match r.pens[i]? with | some p => { r with pens := r.pens.set i p.ended } | none => r
def RVol.readOf (r : RVol) (i : Nat) (p : RPen) (lsn : Int) : RVol × Int × Int := match (r.pickSeg p lsn).bind fun s => r.segs[s]? with
  | none => (r, 0, 9)
  | some g => if (i : Int) + 1 < g.epoch then (r.ends i, 0, 4) else (r, recV (keptAt g.entries lsn), 0)
def RVol.read (r : RVol) (n lsn : Int) : RVol × Int × Int :=
  if (r.may n).2 ≠ 0 then (r, 0, (r.may n).2)
  else if (r.may n).1.phase ≠ 3 then (r, 0, 5)
  else if lsn < 1 ∨ (r.may n).1.dur < lsn then (r, 0, 8)
  else match r.pens[n.toNat - 1]? with
  | none => (r, 0, 9)
  | some p => r.readOf (n.toNat - 1) p lsn

set_option maxHeartbeats 4000000 in
theorem refRead_any {k : Nat → Nat} {w : World} {q : Nat} {r : RVol} (n v : Int) (hY : YVol k w q r) (hok : YOk r) (hf : ∀ p ∈ r.pens, p.Fine) :
    Calls Tryz.prog 35 #[.pointer (some ⟨q, 0, none⟩), .int .i64 n, .int .i64 v] w fun e w' => e = .returned (.tuple #[.int .i64 (r.read n v).2.1, .int .i64 (r.read n v).2.2]) ∧ ∃ k', Evo k k' cRef w w' ∧ YVol k' w' q (r.read n v).1 := by
  have HM := hide (refMay_any n hY hok)
  unfold WSt.val at HM
  by_cases he : (r.may n).2 ≠ 0
  · have HE : Hid (r.read n v = (r, 0, (r.may n).2)) := hide (by unfold RVol.read; rw [if_pos he])
    have he' : ((r.may n).2 != 0) = true := by simpa using he
    clear he
    generalize r.may n = m at *
    go_enter Tryz.func35, Tryz.ntmps35
    go_wp2_with fail
    refine HM.out.mono ?_
    rintro e1 w1 ⟨rfl, hb1⟩
    go_wp2_with fail
    go_ret2
    exact ⟨by rw [HE.out]; rfl, k, Evo.of_below (hb1.alloc hb1.size _), by rw [HE.out]; exact hY.evo (Evo.of_below (C := noC) (hb1.alloc hb1.size _)) (noC_not _) (fun c _ _ => noC_not c)⟩
  · have he0 : (r.may n).2 = 0 := by omega
    obtain ⟨i, hi, hni, hme, hov⟩ := RVol.may_ok he0 hf
    rw [hme] at HM
    dsimp only at HM
    subst hni
    have HA : Hid (r.read ((i : Int) + 1) v = if r.pens[i].stands.phase ≠ 3 then (r, 0, 5) else if v < 1 ∨ r.pens[i].stands.dur < v then (r, 0, 8) else r.readOf i r.pens[i] v) := hide (by
      unfold RVol.read; rw [if_neg he]; simp only [hme]; rw [show ((i : Int) + 1).toNat - 1 = i from by omega, List.getElem?_eq_getElem hi])
    clear he he0 hme
    generalize hst : r.pens[i].stands = st at *
    clear hst
    by_cases h3 : st.phase = 3
    · obtain ⟨ph, ba, ne, du⟩ := st
      dsimp only at h3 HM HA
      subst h3
      by_cases hr : v < 1 ∨ du < v
      · have HE : Hid (r.read ((i : Int) + 1) v = (r, 0, 8)) := hide (by rw [HA.out, if_neg (by simp), if_pos hr])
        clear HA
        by_cases hr1 : v < 1
        · have d1 : decide (v < 1) = true := by simpa using hr1
          clear hr
          go_enter Tryz.func35, Tryz.ntmps35
          go_wp2_with fail
          refine HM.out.mono ?_
          rintro e1 w1 ⟨rfl, hb1⟩
          go_wp2_with fail
          go_ret2
          exact ⟨by rw [HE.out]; rfl, k, Evo.of_below (hb1.alloc hb1.size _), by rw [HE.out]; exact hY.evo (Evo.of_below (C := noC) (hb1.alloc hb1.size _)) (noC_not _) (fun c _ _ => noC_not c)⟩
        · have d1 : decide (v < 1) = false := by simpa using hr1
          have d2 : decide (du < v) = true := by simp; omega
          clear hr hr1
          go_enter Tryz.func35, Tryz.ntmps35
          go_wp2_with fail
          refine HM.out.mono ?_
          rintro e1 w1 ⟨rfl, hb1⟩
          go_wp2_with fail
          go_ret2
          exact ⟨by rw [HE.out]; rfl, k, Evo.of_below (hb1.alloc hb1.size _), by rw [HE.out]; exact hY.evo (Evo.of_below (C := noC) (hb1.alloc hb1.size _)) (noC_not _) (fun c _ _ => noC_not c)⟩
      · have d1 : decide (v < 1) = false := by simp; omega
        have d2 : decide (du < v) = false := by simp; omega
        have HE : Hid (r.read ((i : Int) + 1) v = r.readOf i r.pens[i] v) := hide (by rw [HA.out, if_neg (by simp), if_neg hr])
        clear HA hr
        obtain ⟨_, _, _, pb0, g, cap, _, _, _, _, hP0, hB, _, l1, y4, h1, hp, _⟩ := pen_open hY i hi
        have hi9 : (i : Int) < 9 := by have := hP0.l2; omega
        have hgl := World.block_lt_of_cell? w _ hp
        have hql := hB.lt
        generalize pb0[i] = pp at *
        go_enter Tryz.func35, Tryz.ntmps35
        go_wp2_with fail
        refine HM.out.mono ?_
        rintro e1 w1 ⟨rfl, hb1⟩
        have z4 : w1.cell? ⟨q, 4, none⟩ = some (.slice (some ⟨g, 0, none⟩) r.pens.length cap) := (hb1.cell (p := ⟨q, 4, none⟩) hB.lt).trans y4
        have zp : w1.cell? ⟨g, i, none⟩ = some (.pointer (some ⟨pp, 0, none⟩)) := (hb1.cell (p := ⟨g, i, none⟩) hgl).trans hp
        have hsz := hb1.size
        have hql1 : q < w1.heap.size := by omega
        have hgl1 : g < w1.heap.size := by omega
        go_wp2_with fail
        obtain ⟨W2, hW2⟩ : ∃ W2, W2 = w1.alloc (Obj.cells #[.int .i64 3, .int .i64 ba, .int .i64 ne, .int .i64 du] 105) := ⟨_, rfl⟩
        rw [← hW2]
        have hbW : Below w.heap.size w W2 := by rw [hW2]; exact hb1.alloc hb1.size _
        have zp2 : W2.cell? ⟨g, i, none⟩ = some (.pointer (some ⟨pp, 0, none⟩)) := (hbW.cell (p := ⟨g, i, none⟩) hgl).trans hp
        have z42 : W2.cell? ⟨q, 4, none⟩ = some (.slice (some ⟨g, 0, none⟩) r.pens.length cap) := (hbW.cell (p := ⟨q, 4, none⟩) hB.lt).trans y4
        have evW : Evo k k noC w W2 := Evo.of_below hbW
        have hY2 := hY.evo evW (noC_not _) (fun c _ _ => noC_not c)
        obtain ⟨vSegs, vPens, sb, pb, g', cap', vNet, rows, hN, hS, hP, hB2, hNet, l1', y4', h1', hp', hpen⟩ := pen_open hY2 i hi
        have hgg : g' = g := by rw [z42] at y4'; simp at y4'; exact y4'.1.symm
        have hpp : pb[i] = pp := by rw [hgg, zp2] at hp'; simp at hp'; exact hp'.symm
        rw [hpp] at hpen
        have HPP := hide hpp
        have HBW := hide (And.intro hbW evW)
        clear hW2 hgg hpp hp' y4' z4 zp hb1 hp y4 hB hP0 hbW evW
        obtain ⟨vF, vS, vV, pB, pF, pS, pV⟩ := hpen.ex
        have hsl := (hok.pk _ (List.getElem_mem hi)).sl
        have HNo : Hid (∀ s : Int, Calls Tryz.prog 72 #[.pointer (some ⟨pp, 0, none⟩), .int .i64 s] W2 fun e w' => e = .returned (.tuple #[.int .i64 (notedN r.pens[i].status s), .bool (heardIn r.pens[i].status s)]) ∧ w' = W2) := hide fun s => noted_any s (pB.cell 1) pS hsl
        clear pB pF pS pV
        go_loop [11] (fun x => ∃ j : Nat, j ≤ 6 ∧ x = .int .i64 j ∧ Hid (∀ s, s < j → r.reads r.pens[i] v s = false)) (fun x => 6 - (intOf x).toNat)
        case atStart => exact ⟨0, by omega, rfl, hide (fun s hs => by omega)⟩
        case round =>
          obtain ⟨j, hj, rfl, hno⟩ := hrel
          by_cases hlt : j < 6
          · have hd : decide ((j : Int) < 6) = true := by simp; omega
            obtain ⟨_, _, sb', _, gs, caps, _, _, _, _, _, hBs, _, ls, y3, s1, s2, hsp, hsto⟩ := seg_open hY2 j hlt
            have hsk := hok.sk r.segs[j] (List.getElem_mem s2)
            obtain ⟨vE, vL, vN, sB, sE, sL, sN⟩ := hsto.ex
            have c0 : W2.cell? ⟨sb'[j], 0, none⟩ = some (.bool r.segs[j].up) := sB.cell 0
            have hq2 := hBs.lt
            have hj6 : (j : Int) < 6 := by omega
            have HR : Hid (r.reads r.pens[i] v j = (decide (v ≤ notedN r.pens[i].status j) && r.segs[j].up)) := hide (by unfold RVol.reads; rw [List.getElem?_eq_getElem s2])
            have HNj := hide (HNo.out (j : Int))
            have HEp := hide (epoch_any (sB.cell 1) sE hsk.e0 hsk.el)
            have HKp : Hid (∀ W, Below W2.heap.size W2 W → Calls Tryz.prog 84 #[.pointer (some ⟨sb'[j], 0, none⟩), .int .i64 v] W fun e w' => e = .returned (.tuple #[recVal (keptAt r.segs[j].entries v), .bool (keptAt r.segs[j].entries v).isSome]) ∧ Below W.heap.size W w') := hide fun W hW =>
              kept_any v ((sB.evo (Evo.of_below (C := noC) hW) (noC_not _)).cell 3) (sN.evo (Evo.of_below (C := noC) hW) (noC_not _)) hsk.nl
            simp only [recVal_eq] at HKp
            have hepo : r.segs[j].epochs.getLastD 0 = r.segs[j].epoch := rfl
            rw [hepo] at HEp
            have hsbl := sB.lt
            have hgsl := World.block_lt_of_cell? W2 _ hsp
            clear hsto sB sE sL sN hepo
            generalize sb'[j] = sj at *
            by_cases hn : v ≤ notedN r.pens[i].status j
            · have hn' : decide (notedN r.pens[i].status j < v) = false := by simp; omega
              have hn2 : decide (v ≤ notedN r.pens[i].status j) = true := by simpa using hn
              rw [hn2] at HR
              cases hu : r.segs[j].up
              · rw [hu] at c0 HR
                have HR2 : Hid (r.reads r.pens[i] v j = false) := hide (by rw [HR.out]; rfl)
                clear hu HR HE
                generalize notedN r.pens[i].status j = no at *
                generalize heardIn r.pens[i].status j = ha at *
                go_wp2_with fail
                refine HNj.out.mono ?_
                rintro e2 w2 ⟨rfl, hw⟩
                subst hw
                go_wp2_with fail
                go_round
                case rel => exact ⟨j + 1, by omega, by go_num, hide (fun s hs => by
                  by_cases e : s = j
                  · rw [e]; exact HR2.out
                  · exact hno.out s (by omega))⟩
                case measure => simp [intOf]; omega
              · rw [hu] at c0 HR
                have HR2 : Hid (r.pickSeg r.pens[i] v = some j) := hide (RVol.pickSeg_some hlt (by rw [HR.out]; rfl) hno.out)
                have HE2 : Hid (r.read ((i : Int) + 1) v = if (i : Int) + 1 < r.segs[j].epoch then (r.ends i, 0, 4) else (r, recV (keptAt r.segs[j].entries v), 0)) := hide (by
                  rw [HE.out]; unfold RVol.readOf; rw [HR2.out, Option.bind_some, List.getElem?_eq_getElem s2])
                have HEnd : Hid (∀ W, Below W2.heap.size W2 W → Calls Tryz.prog 83 #[.pointer (some ⟨pp, 0, none⟩), .int .i64 ((i : Int) + 1)] W fun en w' => en = .returned (.tuple #[]) ∧ ∃ k', Evo k k' (fun c => c = cP i) W w' ∧ PenIs k' w' (cP i) pp r.pens[i].ended) := hide fun W hW =>
                  end_any _ (hpen.evo (Evo.of_below (C := noC) hW) (noC_not _) (noC_not _) (noC_not _) (noC_not _) (noC_not _)) (hok.pk _ (List.getElem_mem hi)) (by unfold cP IM; omega)
                clear hu HR HE HR2
                by_cases hep : (i : Int) + 1 < r.segs[j].epoch
                · have hep' : decide ((i : Int) + 1 < r.segs[j].epoch) = true := by simpa using hep
                  have HE3 : Hid (r.read ((i : Int) + 1) v = (r.ends i, 0, 4)) := hide (by rw [HE2.out, if_pos hep])
                  clear hep HE2
                  generalize notedN r.pens[i].status j = no at *
                  generalize heardIn r.pens[i].status j = ha at *
                  generalize r.segs[j].epoch = ep at *
                  go_wp2_with fail
                  refine HNj.out.mono ?_
                  rintro e2 w2 ⟨rfl, hw⟩
                  subst hw
                  go_wp2_with fail
                  refine HEp.out.mono ?_
                  rintro e2 w3 ⟨rfl, hb3⟩
                  go_wp2_with fail
                  refine (HEnd.out _ hb3).mono ?_
                  rintro e2 w4 ⟨rfl, k4, ev4, hp4⟩
                  go_wp2_with fail
                  go_ret2
                  have e3 : Evo k k noC w2 w3 := Evo.of_below hb3
                  refine ⟨by rw [HE3.out]; rfl, k4, ((HBW.out.2.trans e3).mono (fun _ h => h.elim)).trans (ev4.mono (fun c h => by unfold cP at h; unfold cRef; omega)), ?_⟩
                  rw [HE3.out]
                  show YVol _ _ _ (r.ends i)
                  unfold RVol.ends
                  rw [List.getElem?_eq_getElem hi]
                  exact YVol.set_pen (hN.evo e3 (noC_not _) (noC_not _) (noC_not _)) (hS.evo e3 (noC_not _) (noC_not _) (fun c _ _ => noC_not c)) (hP.evo e3 (noC_not _) (noC_not _) (fun c _ _ => noC_not c)) i h1' ev4 (fun c h => by omega) (by rw [HPP.out]; exact hp4)
                · have hep' : decide ((i : Int) + 1 < r.segs[j].epoch) = false := by simpa using hep
                  have HE3 : Hid (r.read ((i : Int) + 1) v = (r, recV (keptAt r.segs[j].entries v), 0)) := hide (by rw [HE2.out, if_neg hep])
                  clear hep HE2
                  generalize notedN r.pens[i].status j = no at *
                  generalize heardIn r.pens[i].status j = ha at *
                  generalize r.segs[j].epoch = ep at *
                  generalize keptAt r.segs[j].entries v = ke at *
                  go_wp2_with fail
                  refine HNj.out.mono ?_
                  rintro e2 w2 ⟨rfl, hw⟩
                  subst hw
                  go_wp2_with fail
                  refine HEp.out.mono ?_
                  rintro e2 w3 ⟨rfl, hb3⟩
                  have hs3 := hb3.size
                  have y33 := (hb3.cell (p := ⟨q, 3, none⟩) hq2).trans y3
                  have sp3 := (hb3.cell (p := ⟨gs, j, none⟩) hgsl).trans hsp
                  have hq3 : q < w3.heap.size := by omega
                  have hg3 : gs < w3.heap.size := by omega
                  go_wp2_with fail
                  refine (HKp.out _ hb3).mono ?_
                  rintro e2 w4 ⟨rfl, hb4⟩
                  go_wp2_with fail
                  go_ret2
                  have e3 : Evo k k noC w2 w3 := Evo.of_below hb3
                  have e4 : Evo k k noC w3 (w4.alloc (Obj.cells #[.int .i64 (recL ke), .int .i64 (recE ke), .int .i64 (recV ke)] 59)) := (Evo.of_below hb4).alloc _
                  refine ⟨by rw [HE3.out]; rfl, k, (((HBW.out.2.trans e3).trans e4).mono (fun _ h => h.elim)), ?_⟩
                  rw [HE3.out]
                  exact hY2.evo (e3.trans e4) (noC_not _) (fun c _ _ => noC_not c)
            · have hn' : decide (notedN r.pens[i].status j < v) = true := by simp; omega
              have hn2 : decide (v ≤ notedN r.pens[i].status j) = false := by simpa using hn
              have HR2 : Hid (r.reads r.pens[i] v j = false) := hide (by rw [HR.out, hn2]; rfl)
              clear HR HE
              generalize notedN r.pens[i].status j = no at *
              generalize heardIn r.pens[i].status j = ha at *
              go_wp2_with fail
              refine HNj.out.mono ?_
              rintro e2 w2 ⟨rfl, hw⟩
              subst hw
              go_wp2_with fail
              go_round
              case rel => exact ⟨j + 1, by omega, by go_num, hide (fun s hs => by
                by_cases e : s = j
                · rw [e]; exact HR2.out
                · exact hno.out s (by omega))⟩
              case measure => simp [intOf]; omega
          · have hd : decide ((j : Int) < 6) = false := by simp; omega
            have HE2 : Hid (r.read ((i : Int) + 1) v = (r, 0, 9)) := hide (by
              rw [HE.out]; unfold RVol.readOf; rw [RVol.pickSeg_none (fun s hs => hno.out s (by omega))]; rfl)
            clear HE
            go_wp2_with fail
            go_ret2
            exact ⟨by rw [HE2.out]; rfl, k, HBW.out.2.mono (fun _ h => h.elim), by rw [HE2.out]; exact hY2⟩
    · have h3' : (st.phase != 3) = true := by simp [h3]
      have HE : Hid (r.read ((i : Int) + 1) v = (r, 0, 5)) := hide (by rw [HA.out, if_pos h3])
      clear h3 HA
      go_enter Tryz.func35, Tryz.ntmps35
      go_wp2_with fail
      refine HM.out.mono ?_
      rintro e1 w1 ⟨rfl, hb1⟩
      go_wp2_with fail
      go_ret2
      exact ⟨by rw [HE.out]; rfl, k, Evo.of_below (hb1.alloc hb1.size _), by rw [HE.out]; exact hY.evo (Evo.of_below (C := noC) (hb1.alloc hb1.size _)) (noC_not _) (fun c _ _ => noC_not c)⟩
end Go.Proofs.YtfpbkghcjaonlaaGreat
