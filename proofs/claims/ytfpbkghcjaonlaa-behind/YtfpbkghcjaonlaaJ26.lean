import Derived.Test.YtfpbkghcjaonlaaJ25
import Derived.Test.YtfpbkghcjaonlaaJ05
/-
  sixfoldlaw's player: all.
-/
namespace Go.Proofs.Ytfpbkghcjaonlaa.Sim
open Go.RowKit

theorem ASt.asks {k : Nat → Nat} {w wr : World} {b px : Nat} {P : PSt} {X : List (Nat × Nat × List Value)} (h : ASt k w wr b px P X) (i : Nat) (hi : i < P.pens.length) (p : RPen) (hp : P.r.pens[i]? = some p) :
    Calls Try.prog 34 #[.pointer (some ⟨b, 0, none⟩), .int .i64 ((i : Int) + 1)] wr fun e w' => ∃ P', (e = .returned (.bool true) ∧ P'.r = P.r ∧ P'.pens = (P.told i p.stands).pens ∧ P'.most = P.most) ∧ ASt k w w' b px P' X :=
  h.call (Q := fun e P' => e = .returned (.bool true) ∧ P'.r = P.r ∧ P'.pens = (P.told i p.stands).pens ∧ P'.most = P.most) (fun _ _ hW => (pl_asks hW i hi p hp).mono (fun _ _ ⟨e1, k2, P', e2, e3, e4, e5, e6⟩ => ⟨P', k2, ⟨e1, e4, e5, e6⟩, e2, e3⟩))
theorem ASt.pens {k : Nat → Nat} {w wr : World} {b px : Nat} {P : PSt} {X : List (Nat × Nat × List Value)} (h : ASt k w wr b px P X) : ∃ a cap, wr.cell? ⟨b, 3, none⟩ = some (.slice a P.pens.length cap) ∧ b < wr.heap.size := by
  obtain ⟨k', ev, hp, hX⟩ := h
  obtain ⟨a, cap, h1, h2, _⟩ := hp.arr
  exact ⟨a, cap, h1, h2⟩

/-- All have been asked, up to the j-th. -/
structure Asked (P P' : PSt) (j : Nat) : Prop where
  r : P'.r = P.r
  most : P'.most = P.most
  len : P'.pens.length = P.pens.length
  last : ∀ (i : Nat) (q : PPen) (p : RPen), i < j → P'.pens[i]? = some q → P.r.pens[i]? = some p → q.last = p.stands
theorem Asked.same {P P' : PSt} {j : Nat} (h : Asked P P' j) (hi : PlInv P) : PSame P P' := ⟨h.most, by rw [h.r]; exact Goes0.refl hi.saf, h.len⟩
theorem Asked.next {P P' P'' : PSt} {j : Nat} {p : RPen} (h : Asked P P' j) (hj : j < P'.pens.length) (hp : P.r.pens[j]? = some p) (h1 : P''.r = P'.r) (h2 : P''.pens = (P'.told j p.stands).pens) (h3 : P''.most = P'.most) : Asked P P'' (j + 1) := by
  rw [told_eq hj] at h2
  refine ⟨h1.trans h.r, h3.trans h.most, by rw [h2, List.length_set]; exact h.len, fun i q p' hi hq hp' => ?_⟩
  rw [h2] at hq
  by_cases e : j = i
  · subst e
    rw [List.getElem?_set_self hj] at hq
    rw [hp] at hp'
    rw [← Option.some.inj hq, ← Option.some.inj hp']
  · rw [List.getElem?_set_ne e] at hq
    exact h.last i q p' (by omega) hq hp'

set_option maxRecDepth 3000 in
set_option maxHeartbeats 8000000 in
theorem pl_all {k : Nat → Nat} {w : World} {b px : Nat} {P : PSt} (h : Pl k w b px P) :
    Calls Try.prog 14 #[.pointer (some ⟨b, 0, none⟩)] w fun e w' => e = .returned (.bool true) ∧ ∃ P' k', Asked P P' P.pens.length ∧ Evo k k' cPS w w' ∧ Pl k' w' b px P' := by
  have h9 := h.2.p9
  have HL := hide h.2.len
  have H0 := hide (ASt.start h)
  clear h
  obtain ⟨n, hn⟩ : ∃ n, n = P.pens.length := ⟨_, rfl⟩
  rw [← hn] at h9 HL ⊢
  have HN := hide hn
  clear hn
  go_enter Try.func14, Try.ntmps14
  go_wp2_with fail
  go_loopw [3] (fun v wr => ∃ j : Nat, j ≤ n ∧ v = .int .i64 ((j : Int) + 1) ∧ ∃ P', Hid (Asked P P' j ∧ ASt k w wr b px P' [])) (fun v _ => n + 1 - (intOf v).toNat)
  case atStart => exact ⟨0, Nat.zero_le _, rfl, P, hide ⟨⟨rfl, rfl, rfl, fun i _ _ hi => by omega⟩, H0.out⟩⟩
  case round =>
    obtain ⟨j, hj, rfl, P', hst⟩ := hrel
    obtain ⟨a, cap, z3, hbl⟩ := hst.out.2.pens
    rw [hst.out.1.len, ← HN.out] at z3
    by_cases hlt : j < n
    · have hd : decide ((j : Int) + 1 ≤ (n : Int)) = true := by simp; omega
      have hjp : j < P'.pens.length := by rw [hst.out.1.len, ← HN.out]; exact hlt
      obtain ⟨p, hp⟩ : ∃ p, P.r.pens[j]? = some p := ⟨P.r.pens[j]'(by rw [← HL.out]; exact hlt), List.getElem?_eq_getElem _⟩
      have HA := hide (hst.out.2.asks j hjp p (by rw [hst.out.1.r]; exact hp))
      have hw : IntKind.i64.wrap ((j : Int) + 1 + 1) = ((j + 1 : Nat) : Int) + 1 := by rw [IntKind.wrap_i64] <;> omega
      have HNx : Hid (∀ P'' : PSt, P''.r = P'.r → P''.pens = (P'.told j p.stands).pens → P''.most = P'.most → Asked P P'' (j + 1)) := hide (fun P'' a b c => hst.out.1.next hjp hp a b c)
      clear hp hjp
      go_wp2_with fail
      refine HA.out.mono ?_
      rintro e1 w1 ⟨P'', ⟨rfl, e1, e2, e3⟩, h1⟩
      have HR : Hid (Asked P P'' (j + 1) ∧ ASt k w w1 b px P'' []) := hide ⟨HNx.out P'' e1 e2 e3, h1⟩
      clear e1 e2 e3 h1
      go_wp2_with fail
      go_roundw
      case rel => exact ⟨j + 1, by omega, by go_num, P'', HR⟩
      case measure => simp [intOf]; omega
    · have hje : j = n := by omega
      have hd : decide ((j : Int) + 1 ≤ (n : Int)) = false := by simp; omega
      rw [hje] at hst
      clear hje
      go_wp2_with fail
      go_ret
      obtain ⟨h1, k', ev, hp, _⟩ := hst.out
      exact ⟨rfl, P', k', h1, ev, hp⟩
end Go.Proofs.Ytfpbkghcjaonlaa.Sim

/-
  sixfoldlaw's player: config, player.
-/
namespace Go.Proofs.Ytfpbkghcjaonlaa.Sim
open Go.RowKit

theorem inv0 (a b : Int) (h1 : 1 ≤ a) (h2 : a ≤ 8) (h3 : 1 ≤ b) (h4 : b ≤ 200) : Inv (r0 a b) ∧ Saf (r0 a b) := by
  have hs : ∀ g ∈ (r0 a b).segs, g = seg0 := fun g hg => List.eq_of_mem_replicate hg
  constructor
  · refine ⟨⟨by show 1 ≤ a; omega, by show a ≤ 8; omega⟩, ⟨by show 1 ≤ b; omega, by show b ≤ 200; omega⟩, by simp [r0], by simp [r0], fun q hq => by simp [r0] at hq, fun g hg => ?_, fun i p hp => by simp [r0] at hp, by show ((0 : Nat) : Int) ≤ b; omega⟩
    rw [hs g hg]
    exact ⟨⟨fun e he => by simp [seg0] at he, fun n => by simp [seg0]⟩, .inl rfl, by decide, fun e he => by simp [seg0] at he⟩
  · refine ⟨fun i p hp => by simp [r0] at hp, fun i p hp => by simp [r0] at hp, fun i p hp => by simp [r0] at hp, fun g hg => ?_, fun g hg hu => ?_, fun p hp => by simp [r0] at hp, fun q hq => by simp [r0] at hq, fun q hq => by simp [r0] at hq, fun q hq => by simp [r0] at hq, fun q hq => by simp [r0] at hq, fun q hq => by simp [r0] at hq, fun i p hp => by simp [r0] at hp, fun q hq => by simp [r0] at hq⟩
    · rw [hs g hg]
      exact ⟨by decide, by simp [r0, RSeg.epoch, seg0]⟩
    · rw [hs g hg] at hu
      simp [seg0] at hu
theorem xseg_new : xseg seg0 = xseg0 := by
  refine seg_ext rfl rfl rfl ?_
  show (List.range 40).map (fun (n : Nat) => plOf seg0.entries ((n : Int) + 1)) = List.replicate 40 (0, 0, 0)
  have h : ∀ n : Nat, plOf seg0.entries ((n : Int) + 1) = (0, 0, 0) := fun n => rfl
  simp only [h, List.map_const', List.length_range]
theorem vol_new (a b : Int) (px : Nat) (k : Nat → Nat) (w : World) (h : Blk k w cX px 87 (volCells a b (.slice none 0 0) (newRows 6) (.slice none 0 0))) : XVolIs k w px (xvol (r0 a b)) := by
  have hsegs : (xvol (r0 a b)).segs = List.replicate 6 (xseg seg0) := List.map_replicate
  have hel : ∀ (i : Nat) (hi : i < (xvol (r0 a b)).segs.length), (xvol (r0 a b)).segs[i] = xseg0 := fun i hi => by
    rw [← xseg_new]
    exact List.eq_of_mem_replicate (n := 6) (by rw [← hsegs]; exact List.getElem_mem hi)
  have hl6 : (xvol (r0 a b)).segs.length = 6 := by rw [hsegs]; exact List.length_replicate
  refine ⟨⟨.slice none 0 0, .slice none 0 0, newRows 6, [], ?_, ⟨[], Rows.nil _ _ _ _ _, rfl, fun i hi => by simp [xvol, r0, liveOf] at hi⟩, ⟨newRows_len 6 (by omega), hl6, fun i h1 h2 => ?_⟩, ⟨Rows.nil _ _ _ _ _, rfl, by show ([] : List XWr).length ≤ 9; simp, fun i h1 => by simp at h1⟩⟩⟩
  · exact h
  · have e1 : (newRows 6)[i] = segNewRow := by simp only [newRows6]; exact List.getElem_replicate _
    have e2 := hel i h2
    refine ⟨.slice none 0 0, e1.trans ?_, ?_, ?_⟩
    · show segNewRow = xsegRow (xvol (r0 a b)).segs[i] _
      rw [e2, segNewRow_eq]
    · show CutsIm k w _ (xvol (r0 a b)).segs[i].cuts
      rw [e2]; exact Rows.nil _ _ _ _ _
    · show (xvol (r0 a b)).segs[i].places.length = 40
      rw [e2]; simp [xseg0]

theorem Try.infoCfgSize : (Try.prog.info? 23).map (·.size) = some 2 := by kernel_rfl

set_option maxHeartbeats 2000000 in
theorem config_any (w : World) (a b : Int) (ha : i64R a) (hb : i64R b) :
    Calls Try.prog 10 #[.agg #[.int .i64 a, .int .i64 b]] w fun e w' => ∃ wi fl, e = .returned (.agg #[.int .i64 wi, .int .i64 fl]) ∧ (1 ≤ wi ∧ wi ≤ 8 ∧ 1 ≤ fl ∧ fl ≤ 200) ∧ Below w.heap.size w w' := by
  have HP1 := hide (fun W => pickN_any W a 8 ha.1 ha.2 (by omega) (by omega))
  have HP2 := hide (fun W => pickN_any W b 200 hb.1 hb.2 (by omega) (by omega))
  obtain ⟨p1, p2⟩ := pick_lt a 8 (by omega)
  obtain ⟨q1, q2⟩ := pick_lt b 200 (by omega)
  generalize pickOf a 8 = x at *
  generalize pickOf b 200 = y at *
  have hw1 : IntKind.i64.wrap (1 + x) = 1 + x := by rw [IntKind.wrap_i64] <;> omega
  have hw2 : IntKind.i64.wrap (1 + y) = 1 + y := by rw [IntKind.wrap_i64] <;> omega
  have HX : Hid (1 ≤ 1 + x ∧ 1 + x ≤ 8 ∧ 1 ≤ 1 + y ∧ 1 + y ≤ 200) := hide (by omega)
  clear p1 p2 q1 q2 ha hb
  have hK : Blk (fun _ => 0) ((w.alloc (Obj.cells #[.int .i64 a, .int .i64 b] 23)).alloc (Obj.cells #[.int .i64 0, .int .i64 0] 23)) 0 w.heap.size 23 [.int .i64 a, .int .i64 b] := ⟨(Below.heap_alloc _ _ _ (by simp)).trans (heap_alloc_new w _), rfl⟩
  have y0 : ((w.alloc (Obj.cells #[.int .i64 a, .int .i64 b] 23)).alloc (Obj.cells #[.int .i64 0, .int .i64 0] 23)).cell? ⟨w.heap.size, 0, none⟩ = some (.int .i64 a) := hK.cell 0
  have y1 : ((w.alloc (Obj.cells #[.int .i64 a, .int .i64 b] 23)).alloc (Obj.cells #[.int .i64 0, .int .i64 0] 23)).cell? ⟨w.heap.size, 1, none⟩ = some (.int .i64 b) := hK.cell 1
  clear hK
  go_enter Try.func10, Try.ntmps10
  go_wp2_with fail
  go_region_with (first
      | (go_at_call_of 22 (Value.int IntKind.i64 a); refine (HP1.out _).mono ?_; rintro e2 w2 ⟨rfl, hw2⟩; subst hw2)
      | (go_at_call_of 22 (Value.int IntKind.i64 b); refine (HP2.out _).mono ?_; rintro e2 w2 ⟨rfl, hw2⟩; subst hw2))
  all_goals go_wp2_with fail
  all_goals
    refine bodyPost_ret (v := .agg #[.int .i64 (1 + x), .int .i64 (1 + y)]) ?_ rfl ⟨_, _, rfl, HX.out, ((((Below.refl w.heap.size w).alloc (Nat.le_refl _) _).alloc (by simp) _)).drew⟩
    exact results_cell_row rfl _ _ (w.heap.size + 1) 23 _ (0, 0) _ rfl (heap_alloc2_new w _ _) Try.underlying23 rfl (by rw [Try.infoCfgSize]; rfl)

set_option maxRecDepth 100000 in
theorem playerZero (px : Nat) (wi fl most : Int) : (((Try.zeroCells47.setIfInBounds 0 (.pointer (some ⟨px, 0, none⟩))).setIfInBounds 1 (.int .i64 wi)).setIfInBounds 2 (.int .i64 fl)).setIfInBounds 4 (.int .i64 most) = (plCells px wi fl (.slice none 0 0) most (List.replicate 41 false) (List.replicate 41 0)).toArray := by kernel_rfl

set_option maxRecDepth 100000 in
set_option maxHeartbeats 4000000 in
theorem player_any (w : World) (wi fl most : Int) (hc : 1 ≤ wi ∧ wi ≤ 8 ∧ 1 ≤ fl ∧ fl ≤ 200) :
    Calls Try.prog 9 #[.agg #[.int .i64 wi, .int .i64 fl], .int .i64 most] w fun e w' => ∃ b px k', e = .returned (.pointer (some ⟨b, 0, none⟩)) ∧ Pl k' w' b px ⟨r0 wi fl, [], most, List.replicate 41 false, List.replicate 41 0⟩ ∧ Below w.heap.size w w' ∧ ∀ g, g < w.heap.size → k' g = 0 := by
  have HX := hide (fun W => xnew_good W wi fl (by omega) (by omega) (by omega) (by omega))
  have HI := hide (inv0 wi fl (by omega) (by omega) (by omega) (by omega))
  clear hc
  go_enter Try.func9, Try.ntmps9
  go_wp2_with fail
  refine (HX.out _).mono ?_
  rintro e1 w1 ⟨px, rfl, hpx, hblk, hb1⟩
  have hs1 := hb1.size
  simp only [World.size_alloc] at hs1 hpx
  have c0 : w1.cell? ⟨w.heap.size, 0, none⟩ = some (.int .i64 wi) := by rw [hb1.cell (p := ⟨w.heap.size, 0, none⟩) (by simp)]; exact cell_of_row _ w.heap.size 0 _ _ _ (heap_alloc_new w _)
  have c1 : w1.cell? ⟨w.heap.size, 1, none⟩ = some (.int .i64 fl) := by rw [hb1.cell (p := ⟨w.heap.size, 1, none⟩) (by simp)]; exact cell_of_row _ w.heap.size 1 _ _ _ (heap_alloc_new w _)
  have hwl : w.heap.size < w1.heap.size := by omega
  go_wp2_with fail
  go_ret
  have hrow := playerZero px wi fl most
  have hbA : Below w.heap.size w w1 := ((Below.refl w.heap.size w).alloc (Nat.le_refl _) _).trans (hb1.mono (by simp))
  have hbB := hbA.alloc (by omega) (Obj.cells ((((Try.zeroCells47.setIfInBounds 0 (.pointer (some ⟨px, 0, none⟩))).setIfInBounds 1 (.int .i64 wi)).setIfInBounds 2 (.int .i64 fl)).setIfInBounds 4 (.int .i64 most)) 47)
  have hpl := (Array.getElem?_eq_some_iff.1 hblk).1
  refine ⟨w1.heap.size, px, fun g => if g < w.heap.size then 0 else if g = px then 100 else if g = w1.heap.size then 300 else 0, rfl, ⟨⟨?_, .slice none 0 0, [], ⟨?_, Rows.nil _ _ _ _ _, rfl, fun i h => by simp at h⟩⟩, ⟨HI.out.1, HI.out.2, rfl, fun i q p hq => by simp at hq, by simp, by simp, fun n hn => ?_⟩⟩, hbB, fun g hg => if_pos hg⟩
  · refine vol_new wi fl px _ _ ⟨?_, ?_⟩
    · rw [Below.heap_alloc _ _ _ hpl]; exact hblk
    · show (if px < w.heap.size then 0 else if px = px then 100 else if px = w1.heap.size then 300 else 0) = 100
      rw [if_neg (by omega), if_pos rfl]
  · refine ⟨?_, ?_⟩
    · rw [heap_alloc_new, hrow]; rfl
    · show (if w1.heap.size < w.heap.size then 0 else if w1.heap.size = px then 100 else if w1.heap.size = w1.heap.size then 300 else 0) = 300
      rw [if_neg (by omega), if_neg (by omega), if_pos rfl]
  · exfalso
    have := List.mem_of_getElem? hn
    have := List.eq_of_mem_replicate this
    simp at this
end Go.Proofs.Ytfpbkghcjaonlaa.Sim

/-
  sixfoldlaw's player: what a segment tells.
-/
namespace Go.Proofs.Ytfpbkghcjaonlaa.Sim
open Go.RowKit

theorem map_fmap {A B C : Type} (f : A → Option B) (g : B → C) : ∀ l : List A, (l.filterMap f).map g = l.filterMap fun a => (f a).map g
  | [] => rfl
  | a :: r => by
    rw [List.filterMap_cons, List.filterMap_cons]
    cases f a with
    | none => exact map_fmap f g r
    | some b => simp only [List.map_cons, Option.map_some]; rw [map_fmap f g r]
theorem recs_eq (g : RSeg) (kk : Bool) : (xrecsUp (xseg g).places (if kk then 2 else 1) 40).map recRow = (recsUp g.entries kk 40).map recRow := by
  unfold xrecsUp recsUp
  rw [map_fmap, map_fmap]
  apply fmap_congr
  intro i hi
  have hi40 : i < 40 := by simpa using hi
  rw [xseg_get g i hi40]
  have he := entIdx_find g.entries ((i : Int) + 1)
  have e2 : ((entIdx g.entries ((i : Int) + 1)).bind fun j => g.entries[j]?.bind fun e => if e.kept == kk then some e else none) = (g.entries.find? (entHit ((i : Int) + 1))).bind fun e => if e.kept == kk then some e else none := by
    rw [← he]
    cases entIdx g.entries ((i : Int) + 1) <;> rfl
  rw [e2]
  simp only [Option.bind_some]
  unfold plOf
  cases hf : g.entries.find? (entHit ((i : Int) + 1)) with
  | none => cases kk <;> rfl
  | some e =>
    have hp := List.find?_some hf
    unfold entHit at hp
    simp at hp
    simp only [Option.bind_some]
    cases hk : e.kept <;> cases kk <;> simp [recRow, hp.2]
theorem recsUp_len40 (l : List Ent) (kk : Bool) : (recsUp l kk 40).length ≤ 40 := by
  unfold recsUp
  exact Nat.le_trans (List.length_filterMap_le _ _) (by simp)

/-- What stands in such a list. -/
theorem recs_at (l : List Ent) (kk : Bool) (n : Nat) : ∀ e ∈ recsUp l kk n, e ∈ l ∧ e.gone = false ∧ e.kept = kk ∧ 1 ≤ e.lsn ∧ e.lsn ≤ (n : Int) ∧ l.find? (entHit e.lsn) = some e := by
  intro e he
  unfold recsUp at he
  obtain ⟨i, hi, h2⟩ := List.mem_filterMap.1 he
  have hin : i < n := by simpa using hi
  have e2 : ((entIdx l ((i : Int) + 1)).bind fun j => l[j]?.bind fun e => if e.kept == kk then some e else none) = (l.find? (entHit ((i : Int) + 1))).bind fun e => if e.kept == kk then some e else none := by
    rw [← entIdx_find]
    cases entIdx l ((i : Int) + 1) <;> rfl
  rw [e2] at h2
  obtain ⟨a, ha, h3⟩ := Option.bind_eq_some_iff.1 h2
  split at h3
  · rename_i hk
    have := Option.some.inj h3
    subst this
    have hp := List.find?_some ha
    unfold entHit at hp
    simp at hp
    exact ⟨List.mem_of_find?_eq_some ha, hp.1, by simpa using hk, by omega, by omega, by rw [hp.2]; exact ha⟩
  · simp at h3
theorem recs_rise (l : List Ent) (kk : Bool) : ∀ n, (recsUp l kk n).Pairwise (fun a b => a.lsn < b.lsn)
  | 0 => by unfold recsUp; simp
  | n + 1 => by
    rw [recsUp_succ, List.pairwise_append]
    refine ⟨recs_rise l kk n, ?_, fun a ha b hb => ?_⟩
    · cases h : ((entIdx l ((n : Int) + 1)).bind fun j => l[j]?.bind fun e => if e.kept == kk then some e else none) <;> simp
    · have h1 := (recs_at l kk n a ha).2.2.2.2.1
      have hb' : b ∈ recsUp l kk (n + 1) := by rw [recsUp_succ]; exact List.mem_append_right _ hb
      have e2 : ((entIdx l ((n : Int) + 1)).bind fun j => l[j]?.bind fun e => if e.kept == kk then some e else none) = (l.find? (entHit ((n : Int) + 1))).bind fun e => if e.kept == kk then some e else none := by
        rw [← entIdx_find]
        cases entIdx l ((n : Int) + 1) <;> rfl
      rw [e2] at hb
      have hb := Option.mem_toList.1 hb
      obtain ⟨x, hx, h3⟩ := Option.bind_eq_some_iff.1 hb
      split at h3
      · have := Option.some.inj h3
        subst this
        have hp := List.find?_some hx
        unfold entHit at hp
        simp at hp
        omega
      · simp at h3
theorem recs_kept {l : List Ent} {m : Nat} {e : Ent} (h1 : 1 ≤ m) (h2 : m ≤ 40) (h : keptAt l (m : Int) = some e) : e ∈ recsUp l true 40 := by
  unfold recsUp
  refine List.mem_filterMap.2 ⟨m - 1, by simp; omega, ?_⟩
  rw [show ((m - 1 : Nat) : Int) + 1 = (m : Int) from by omega]
  have e2 : ((entIdx l (m : Int)).bind fun j => l[j]?.bind fun e => if e.kept == true then some e else none) = (l.find? (entHit (m : Int))).bind fun e => if e.kept == true then some e else none := by
    rw [← entIdx_find]
    cases entIdx l (m : Int) <;> rfl
  rw [e2]
  rw [keptAt_find] at h
  simpa using h

/-- What a segment tells, in memory that nobody else has. -/
structure SegTold (k : Nat → Nat) (w : World) (g : RSeg) (vc vk vb : Value) : Prop where
  c : Rows k w 0 92 2 vc (g.cuts.map cutRow)
  kp : Rows k w 0 70 3 vk ((recsUp g.entries true 40).map recRow)
  bf : Rows k w 0 70 3 vb ((recsUp g.entries false 40).map recRow)
def segV (g : RSeg) (vc vk vb : Value) : Value := .agg #[.bool g.up, .int .i64 g.epoch, .int .i64 (sclOf g.entries), vc, vk, vb]
theorem SegTold.evo {k k' : Nat → Nat} {w w' : World} {g : RSeg} {vc vk vb : Value} {C : Nat → Prop} (h : SegTold k w g vc vk vb) (ev : Evo k k' C w w') (hC : ¬ C 0) : SegTold k' w' g vc vk vb := ⟨h.c.evo ev hC, h.kp.evo ev hC, h.bf.evo ev hC⟩
theorem pl_segment {k : Nat → Nat} {w : World} {b px : Nat} {P : PSt} (h : Pl k w b px P) (i : Nat) (g : RSeg) (hg : P.r.segs[i]? = some g) :
    Calls Try.prog 35 #[.pointer (some ⟨px, 0, none⟩), .int .i64 i] w fun e w' => ∃ vc vk vb, e = .returned (.tuple #[segV g vc vk vb, .int .i64 0]) ∧ SegTold (fun x => if x < w.heap.size then k x else 0) w' g vc vk vb ∧ Below w.heap.size w w' := by
  have hil := (List.getElem?_eq_some_iff.1 hg).1
  have h6 := h.2.inv.s6
  have hi : i < 6 := by omega
  have hgi := h.2.inv.segs g (List.mem_of_getElem? hg)
  have hct := hgi.ct.len9 h.2.inv
  have hxs : ∀ hl : i < (xvol P.r).segs.length, (xvol P.r).segs[i] = xseg g := fun hl => by
    have : P.r.segs[i] = g := by rw [List.getElem?_eq_getElem hil] at hg; exact Option.some.inj hg
    simp [xvol, this]
  obtain ⟨rr, c0, c1, c2, hl, hS, hC, _⟩ := seg_write h.1.1 i hi
  rw [hxs hl] at hS hC
  refine (xsegment_in (k := k) i hi hS.at_ hC (by show g.cuts.length ≤ _; omega)).mono ?_
  rintro e w' ⟨⟨v, rfl, vc, vk, vb, B1, B2, rfl, g1, g2, g3, g4, g5, g6, g7⟩, hb⟩
  have e1 := recs_eq g true
  have e2 := recs_eq g false
  simp only [if_true, Bool.false_eq_true, if_false] at e1 e2
  rw [e1] at g6
  rw [e2] at g7
  refine ⟨vc, vk, vb, ?_, ⟨g5.colour (fun x hx => ?_), g6.colour (fun x hx => ?_), g7.colour (fun x hx => ?_)⟩, hb⟩
  · unfold segV
    rw [← xscl_seg g hgi.ents]; rfl
  · have := (g5.block x hx).1
    exact if_neg (by omega)
  · have := (g6.block x hx).1
    exact if_neg (by omega)
  · have := (g7.block x hx).1
    exact if_neg (by omega)
/-- The cells of a list of records. -/
theorem recs_cells {k : Nat → Nat} {w : World} {c : Nat} {v : Value} {l : List Ent} (h : Rows k w c 70 3 v (l.map recRow)) : ∃ a cap, v = .slice a l.length cap ∧ ∀ x (hx : x < l.length), ∃ lg, a = some ⟨lg, 0, none⟩ ∧ lg < w.heap.size ∧ k lg = c ∧ w.cell? ⟨lg, x * 3, none⟩ = some (.int .i64 l[x].lsn) ∧ w.cell? ⟨lg, x * 3 + 1, none⟩ = some (.int .i64 l[x].epoch) ∧ w.cell? ⟨lg, x * 3 + 2, none⟩ = some (.int .i64 l[x].value) := by
  obtain ⟨a, cap, he, _⟩ := h.form
  simp only [List.length_map] at he
  refine ⟨a, cap, he, fun x hx => ?_⟩
  obtain ⟨g, cap', he2, hk, hlt, _, hc, _⟩ := h.at (by simp; omega)
  rw [he] at he2
  simp only [Value.slice.injEq] at he2
  have a0 := hc x 0 (by simpa using hx) (by decide)
  have a1 := hc x 1 (by simpa using hx) (by decide)
  have a2 := hc x 2 (by simpa using hx) (by decide)
  exact ⟨g, he2.1, hlt, hk, by simpa [recRow] using a0, by simpa [recRow] using a1, by simpa [recRow] using a2⟩
theorem cuts_cells {k : Nat → Nat} {w : World} {c : Nat} {v : Value} {l : List (Int × Int)} (h : Rows k w c 92 2 v (l.map cutRow)) : ∃ a cap, v = .slice a l.length cap ∧ ∀ x (hx : x < l.length), ∃ lg, a = some ⟨lg, 0, none⟩ ∧ lg < w.heap.size ∧ k lg = c ∧ w.cell? ⟨lg, x * 2, none⟩ = some (.int .i64 l[x].1) ∧ w.cell? ⟨lg, x * 2 + 1, none⟩ = some (.int .i64 l[x].2) := by
  obtain ⟨a, cap, he, _⟩ := h.form
  simp only [List.length_map] at he
  refine ⟨a, cap, he, fun x hx => ?_⟩
  obtain ⟨g, cap', he2, hk, hlt, _, hc, _⟩ := h.at (by simp; omega)
  rw [he] at he2
  simp only [Value.slice.injEq] at he2
  have a0 := hc x 0 (by simpa using hx) (by decide)
  have a1 := hc x 1 (by simpa using hx) (by decide)
  exact ⟨g, he2.1, hlt, hk, by simpa [cutRow] using a0, by simpa [cutRow] using a1⟩
end Go.Proofs.Ytfpbkghcjaonlaa.Sim

/-
  sixfoldlaw's player: solid.
-/
namespace Go.Proofs.Ytfpbkghcjaonlaa.Sim
open Go.RowKit

def keptOf (r : RVol) (s : Nat) : List Ent := match r.segs[s]? with | some g => recsUp g.entries true 40 | none => []
def cnt (val : List Int) (n : Nat) (l : List Ent) : Nat := (l.filter fun e => e.lsn == (n : Int) && val[n]? == some e.value).length
theorem cnt_take (val : List Int) (n : Nat) (l : List Ent) (c : Nat) (h : c < l.length) : cnt val n (l.take (c + 1)) = cnt val n (l.take c) + if (l[c].lsn == (n : Int) && val[n]? == some l[c].value) = true then 1 else 0 := by
  unfold cnt
  rw [List.take_succ_eq_append_getElem h, List.filter_append, List.length_append]
  by_cases hg : (l[c].lsn == (n : Int) && val[n]? == some l[c].value) = true
  · rw [if_pos hg, List.filter_cons_of_pos (by simpa using hg)]; simp
  · rw [if_neg hg, List.filter_cons_of_neg (by simpa using hg)]; simp
def tot (P : PSt) (n : Nat) : Nat → Nat
  | 0 => 0
  | j + 1 => tot P n j + cnt P.value n (keptOf P.r j)
theorem cnt_le (val : List Int) (n : Nat) (l : List Ent) : cnt val n l ≤ l.length := List.length_filter_le _ _
theorem keptOf_le (r : RVol) (s : Nat) : (keptOf r s).length ≤ 40 := by
  unfold keptOf
  split
  · exact recsUp_len40 _ _
  · simp
theorem tot_le (P : PSt) (n : Nat) : ∀ j, tot P n j ≤ 40 * j
  | 0 => Nat.le_refl _
  | j + 1 => by
    have := tot_le P n j
    have := cnt_le P.value n (keptOf P.r j)
    have := keptOf_le P.r j
    simp only [tot]
    omega
theorem solid_tot {P : PSt} (h : PlInv P) {n : Nat} (hn : P.sworn[n]? = some true) : 4 ≤ tot P n 6 := by
  obtain ⟨v, h1, ho⟩ := h.sw n hn
  have h40 := once40 h.inv ho
  have hf := ho.four h.inv h.saf
  have key : ∀ j, ((List.range j).filter fun (s : Nat) => match P.r.segs[s]? with | some g => (match keptAt g.entries (n : Int) with | some e => e.value == v | none => false) | none => false).length ≤ tot P n j := by
    intro j
    induction j with
    | zero => simp [tot]
    | succ j ih =>
      rw [List.range_succ, List.filter_append, List.length_append]
      simp only [tot]
      have : ((List.filter (fun (s : Nat) => match P.r.segs[s]? with | some g => (match keptAt g.entries (n : Int) with | some e => e.value == v | none => false) | none => false) [j]).length) ≤ cnt P.value n (keptOf P.r j) := by
        by_cases hc : (match P.r.segs[j]? with | some g => (match keptAt g.entries (n : Int) with | some e => e.value == v | none => false) | none => false) = true
        · rw [List.filter_cons_of_pos (by simpa using hc)]
          simp only [List.filter_nil, List.length_singleton]
          cases hg : P.r.segs[j]? with
          | none => rw [hg] at hc; simp at hc
          | some g =>
            rw [hg] at hc
            simp only at hc
            cases hk : keptAt g.entries (n : Int) with
            | none => rw [hk] at hc; simp at hc
            | some e =>
              rw [hk] at hc
              simp only [beq_iff_eq] at hc
              have hm := recs_kept h40.1 h40.2 hk
              have hl := (keptAt_eq hk).1
              unfold cnt keptOf
              rw [hg]
              simp only
              refine List.length_pos_of_mem (List.mem_filter.2 ⟨hm, ?_⟩)
              rw [h1, hl, hc]
              simp
        · rw [List.filter_cons_of_neg (by simpa using hc)]; simp
      omega
  exact Nat.le_trans hf (key 6)

theorem Pl.sworn {k : Nat → Nat} {w : World} {b px : Nat} {P : PSt} (h : Pl k w b px P) (n : Nat) (hn : n < 41) : w.cell? ⟨b, 5 + n, none⟩ = some (.bool (P.sworn[n]'(by rw [h.2.sl]; exact hn))) ∧ w.cell? ⟨b, 46 + n, none⟩ = some (.int .i64 (P.value[n]'(by rw [h.2.vl]; exact hn))) := by
  obtain ⟨vP, gs, ho⟩ := h.1.2
  exact ⟨(ho.blk.cell _).trans (pl_sworn _ _ _ _ _ _ _ n (by rw [h.2.sl]; exact hn)), (ho.blk.cell _).trans (pl_value _ _ _ _ _ _ _ n h.2.sl (by rw [h.2.vl]; exact hn))⟩
theorem int_cell {k : Nat → Nat} {w : World} {c b e : Nat} {H : List Int} (h : Blk k w c b e (H.map (Value.int .i64))) (n : Nat) (hn : n < H.length) : w.cell? ⟨b, n, none⟩ = some (.int .i64 H[n]) := by
  rw [h.cell n, List.getElem?_map, List.getElem?_eq_getElem hn]; rfl

/-- How many have been counted. -/
def Counted (_P : PSt) (f : Nat → Nat) (H : List Int) : Prop := H.length = 41 ∧ ∀ n, 1 ≤ n → n ≤ 40 → H[n]? = some ((f n : Nat) : Int)
theorem Counted.set {P : PSt} {f f' : Nat → Nat} {H : List Int} (h : Counted P f H) (n : Nat) (hn : n ≤ 40) (x : Int) (hx : x = ((f' n : Nat) : Int)) (ho : ∀ m, m ≠ n → f' m = f m) : Counted P f' (H.set n x) := by
  refine ⟨by rw [List.length_set]; exact h.1, fun m h1 h2 => ?_⟩
  by_cases e : n = m
  · subst e
    rw [List.getElem?_set_self (by rw [h.1]; omega), hx]
  · rw [List.getElem?_set_ne e, ho m (fun h => e h.symm)]
    exact h.2 m h1 h2

set_option maxRecDepth 100000 in
set_option maxHeartbeats 16000000 in
theorem pl_solid {k : Nat → Nat} {w : World} {b px : Nat} {P : PSt} (h : Pl k w b px P) :
    Calls Try.prog 13 #[.pointer (some ⟨b, 0, none⟩)] w fun e w' => e = .returned (.bool true) ∧ ∃ k', Evo k k' cPS w w' ∧ Pl k' w' b px P := by
  obtain ⟨W0, hW0⟩ : ∃ W0, W0 = w.alloc (Obj.cells #[.int .i64 0, .int .i64 0, .int .i64 0, .int .i64 0, .int .i64 0, .int .i64 0, .int .i64 0, .int .i64 0, .int .i64 0, .int .i64 0, .int .i64 0, .int .i64 0, .int .i64 0, .int .i64 0, .int .i64 0, .int .i64 0, .int .i64 0, .int .i64 0, .int .i64 0, .int .i64 0, .int .i64 0, .int .i64 0, .int .i64 0, .int .i64 0, .int .i64 0, .int .i64 0, .int .i64 0, .int .i64 0, .int .i64 0, .int .i64 0, .int .i64 0, .int .i64 0, .int .i64 0, .int .i64 0, .int .i64 0, .int .i64 0, .int .i64 0, .int .i64 0, .int .i64 0, .int .i64 0, .int .i64 0] 45) := ⟨_, rfl⟩
  have ev0 : Evo k (fun x => if x < w.heap.size then k x else 399) noC w W0 := by rw [hW0]; exact ((Evo.refl k noC w).alloc _).recolour _ (fun i hi => if_pos hi)
  have HS0 : Hid (∃ k' H, Evo k k' cPS w W0 ∧ Pl k' W0 b px P ∧ Blk k' W0 399 w.heap.size 45 (H.map (Value.int .i64)) ∧ Counted P (fun n => tot P n 0) H) := hide ⟨_, List.replicate 41 0, ev0.mono (fun _ h => h.elim), h.evo ev0 (fun c _ _ => noC_not c) (noC_not _), ⟨by rw [hW0]; exact heap_alloc_new w _, if_neg (Nat.lt_irrefl _)⟩, by simp, fun n h1 h2 => by rw [List.getElem?_eq_getElem (by simp; omega), List.getElem_replicate]; rfl⟩
  have HT := hide (fun n hn => solid_tot (P := P) h.2 (n := n) hn)
  have h6 := h.2.inv.s6
  have HL := hide (And.intro h.2.sl h.2.vl)
  clear h ev0
  go_enter Try.func13, Try.ntmps13
  go_wp2_with fail
  rw [← hW0]
  clear hW0
  obtain ⟨hb, hhb⟩ : ∃ hb, hb = w.heap.size := ⟨_, rfl⟩
  rw [← hhb] at HS0 ⊢
  clear hhb
  go_loopw [4] (fun v wr => ∃ j : Nat, j ≤ 6 ∧ v = .int .i64 j ∧ Hid (∃ k' H, Evo k k' cPS w wr ∧ Pl k' wr b px P ∧ Blk k' wr 399 hb 45 (H.map (Value.int .i64)) ∧ Counted P (fun n => tot P n j) H)) (fun v _ => 6 - (intOf v).toNat)
  case atStart => exact ⟨0, by omega, rfl, HS0⟩
  case round =>
    obtain ⟨j, hj, rfl, hst⟩ := hrel
    obtain ⟨k1, H, ev1, hp1, hB1, hC1⟩ := hst.out
    by_cases hlt : j < 6
    · have hd : decide ((j : Int) < 6) = true := by simp; omega
      obtain ⟨g, hg⟩ : ∃ g, P.r.segs[j]? = some g := ⟨P.r.segs[j]'(by omega), List.getElem?_eq_getElem _⟩
      have HC := hide (pl_segment hp1 j g hg)
      obtain ⟨z0, hbl⟩ := hp1.ptr
      have HX1 := hide (And.intro ev1 (And.intro hp1 (And.intro hB1 hC1)))
      have HG := hide hg
      obtain ⟨W1, hW1⟩ : ∃ W1, W1 = wr := ⟨_, rfl⟩
      subst hW1
      clear ev1 hp1 hB1 hC1 hst hg
      unfold segV at HC
      go_wp2_with fail
      refine HC.out.mono ?_
      rintro e2 w2 ⟨vc, vk, vb, rfl, hT2, hb2⟩
      obtain ⟨ak, kcap, hvk, _⟩ := recs_cells hT2.kp
      obtain ⟨ac, ccap, hvc, _⟩ := cuts_cells hT2.c
      obtain ⟨ab, bcap, hvb, _⟩ := recs_cells hT2.bf
      subst hvk hvc hvb
      obtain ⟨m, hm⟩ : ∃ m, m = (recsUp g.entries true 40).length := ⟨_, rfl⟩
      have hm40 : m ≤ 40 := by rw [hm]; exact recsUp_len40 _ _
      rw [← hm] at hT2 ⊢
      have HM := hide hm
      clear hm HC
      have HT2 := hide (And.intro hT2 hb2)
      clear hT2 hb2 z0 hbl
      go_wp2_with fail
      obtain ⟨W2, hW2⟩ : ∃ W2, W2 = w2.alloc (Obj.cells #[.bool g.up, .int .i64 g.epoch, .int .i64 (sclOf g.entries), .slice ac g.cuts.length ccap, .slice ak m kcap, .slice ab (recsUp g.entries false 40).length bcap] 66) := ⟨_, rfl⟩
      rw [← hW2]
      obtain ⟨A, hA⟩ : ∃ A, A = w2.heap.size := ⟨_, rfl⟩
      rw [← hA]
      have HS2 : Hid (∃ k2, Evo k k2 cPS w W2 ∧ Pl k2 W2 b px P ∧ Blk k2 W2 399 hb 45 (H.map (Value.int .i64)) ∧ SegTold k2 W2 g (.slice ac g.cuts.length ccap) (.slice ak m kcap) (.slice ab (recsUp g.entries false 40).length bcap) ∧ Blk k2 W2 0 A 66 [.bool g.up, .int .i64 g.epoch, .int .i64 (sclOf g.entries), .slice ac g.cuts.length ccap, .slice ak m kcap, .slice ab (recsUp g.entries false 40).length bcap]) := hide (by
        obtain ⟨ev1, hp1, hB1, hC1⟩ := HX1.out
        obtain ⟨hT2, hb2⟩ := HT2.out
        have hsz := hb2.size
        have hbA : Below w2.heap.size w2 W2 := by rw [hW2]; exact (Below.refl _ _).alloc (Nat.le_refl _) _
        have e12 : Evo k1 (fun x => if x < W1.heap.size then k1 x else 0) noC W1 W2 := ((Evo.of_below hb2).trans (Evo.of_below hbA)).recolour _ (fun x hx => if_pos hx)
        have e2 : Evo (fun x => if x < W1.heap.size then k1 x else 0) (fun x => if x < W1.heap.size then k1 x else 0) noC w2 W2 := Evo.of_below hbA
        exact ⟨_, ev1.trans (e12.mono (fun _ h => h.elim)), hp1.evo e12 (fun c _ _ => noC_not c) (noC_not _), hB1.evo e12 (noC_not _), hT2.evo e2 (noC_not _), by rw [hW2, hA]; exact heap_alloc_new w2 _, if_neg (by omega)⟩)
      have HC1 := hide HX1.out.2.2.2
      clear HX1 HT2 hW2 hA
      obtain ⟨k2, hS2⟩ := HS2.out
      have HS2' := hide hS2
      clear HS2 hS2
      go_loopw [7] (fun v wr => ∃ c : Nat, c ≤ m ∧ v = .int .i64 c ∧ Hid (∃ H, Evo k2 k2 (fun c => c = 399) W2 wr ∧ Blk k2 wr 399 hb 45 (H.map (Value.int .i64)) ∧ Counted P (fun n => tot P n j + cnt P.value n ((recsUp g.entries true 40).take c)) H)) (fun v _ => m - (intOf v).toNat)
      case atStart => exact ⟨0, Nat.zero_le _, rfl, hide ⟨H, Evo.refl _ _ _, HS2'.out.2.2.1, by simpa [cnt] using HC1.out⟩⟩
      case round =>
        obtain ⟨c, hc, rfl, hst⟩ := hrel
        obtain ⟨H2, ev2, hB2, hC2⟩ := hst.out
        obtain ⟨evw, hpw, -, hTw, hAw⟩ := HS2'.out
        have hAr := hAw.evo ev2 (by omega)
        have A4 : wr.cell? ⟨A, 4, none⟩ = some (.slice ak m kcap) := hAr.cell 4
        have Al := hAr.lt
        by_cases hcm : c < m
        · have hd2 : decide ((c : Int) < (m : Int)) = true := by simp; omega
          have hcl : c < (recsUp g.entries true 40).length := by rw [← HM.out]; exact hcm
          obtain ⟨ak', kcap', hvk, hcells⟩ := recs_cells ((hTw.evo ev2 (by omega)).kp)
          simp only [Value.slice.injEq] at hvk
          obtain ⟨rfl, -, rfl⟩ := hvk
          obtain ⟨lg, rfl, hlg, -, l0, -, l2⟩ := hcells c hcl
          obtain ⟨_, _, _, hn1, hn2, _⟩ := recs_at g.entries true 40 _ (List.getElem_mem hcl)
          have HCT := hide (fun n => cnt_take P.value n (recsUp g.entries true 40) c hcl)
          generalize (recsUp g.entries true 40)[c] = e at *
          obtain ⟨n, hn⟩ : ∃ n : Nat, e.lsn = (n : Int) := ⟨e.lsn.toNat, by omega⟩
          rw [hn] at l0 hn1 hn2 HCT
          have hn40 : n ≤ 40 := by omega
          have hn01 : 1 ≤ n := by omega
          have hpr : Pl k2 wr b px P := hpw.evo ev2 (fun c _ _ => by omega) (by unfold IM; omega)
          have v0 := (hpr.sworn n (by omega)).2
          have hvl := HL.out.2
          have HVn : Hid (P.value[n]? = some (P.value[n]'(by omega))) := hide (List.getElem?_eq_getElem _)
          generalize P.value[n]'(by omega) = pv at *
          have hbl := hpr.ptr.2
          have hHn := hC2.2 n hn01 hn40
          obtain ⟨hnl, hHv⟩ := List.getElem?_eq_some_iff.1 hHn
          have h0 := int_cell hB2 n hnl
          rw [hHv] at h0
          have hf0 := hB2.free n
          have hbhl := hB2.lt
          have hbA : ¬ hb = A := fun e => hB2.ne hAr (by omega) e
          have d1 : decide ((1 : Int) ≤ (n : Int)) = true := by simp; omega
          have d1' : decide (1 ≤ n) = true := by simpa using hn01
          have d2 : decide ((n : Int) ≤ 40) = true := by simp; omega
          have d2' : decide (n ≤ 40) = true := by simpa using hn40
          have ht1 := tot_le P n j
          have ht2 := cnt_le P.value n ((recsUp g.entries true 40).take c)
          have ht3 : ((recsUp g.entries true 40).take c).length ≤ 40 := by rw [List.length_take]; omega
          have HX := hide (And.intro ev2 (And.intro hB2 hC2))
          obtain ⟨t, ht⟩ : ∃ t, t = tot P n j + cnt P.value n ((recsUp g.entries true 40).take c) := ⟨_, rfl⟩
          simp only [← ht] at h0
          have ht300 : t ≤ 300 := by omega
          have HTt := hide ht
          have hwt : IntKind.i64.wrap ((t : Int) + 1) = (t : Int) + 1 := by rw [IntKind.wrap_i64] <;> omega
          clear hst ev2 hB2 hC2 evw hpw hTw hAw hAr hcells hcl hpr hHn hHv hvl ht ht1 ht2 ht3 hn hn1 hn2
          cases d3 : (pv == e.value)
          · go_wp2_with fail
            go_region
            go_wp2_with fail
            go_roundw
            case rel => exact ⟨c + 1, by omega, by go_num, hide (by
              obtain ⟨ev2, hB2, hC2⟩ := HX.out
              refine ⟨H2, ev2.drew, hB2.evo ((Evo.refl k2 noC wr).drew) (noC_not _), hC2.1, fun x h1 h2 => ?_⟩
              rw [hC2.2 x h1 h2]
              have := HCT.out x
              simp only
              rw [this]
              have hno : ¬ ((((n : Int)) == (x : Int) && P.value[x]? == some e.value) = true) := by
                intro hy
                simp only [Bool.and_eq_true, beq_iff_eq] at hy
                have hnx : n = x := by omega
                subst hnx
                rw [HVn.out] at hy
                have := Option.some.inj hy.2
                rw [this] at d3
                simp at d3
              rw [if_neg hno]; rfl)⟩
            case measure => simp [intOf]; omega
          · go_wp2_with fail
            go_region
            go_wp2_with fail
            go_roundw
            case rel => exact ⟨c + 1, by omega, by go_num, hide (by
              obtain ⟨ev2, hB2, hC2⟩ := HX.out
              have e3 : Evo k2 k2 (fun c => c = 399) wr ((wr.setCell ⟨hb, n, none⟩ (.int .i64 ((t : Int) + 1))).drew) := ((Evo.refl k2 _ wr).setCell _ _ (fun _ => hB2.2)).drew
              have hB3 := hB2.set n (.int .i64 ((t : Int) + 1))
              rw [map_set'] at hB3
              refine ⟨H2.set n ((t : Int) + 1), ev2.trans e3, ⟨hB3.1, hB3.2⟩, hC2.set n hn40 _ ?_ (fun x hx => ?_)⟩
              · rw [HCT.out n, if_pos (by rw [HVn.out]; simpa using d3), HTt.out]
                omega
              · rw [HCT.out x, if_neg (by simp; intro hy; omega)]; rfl)⟩
            case measure => simp [intOf]; omega
        · have hd2 : decide ((c : Int) < (m : Int)) = false := by simp; omega
          have hcm' : c = m := by omega
          have HX := hide (And.intro (evw.trans (ev2.mono (fun c h => by unfold cPS; omega))) (And.intro (hpw.evo ev2 (fun c _ _ => by omega) (by unfold IM; omega)) (And.intro hB2 hC2)))
          have HCm := hide hcm'
          clear hst ev2 hB2 hC2 evw hpw hTw hAw hAr hcm'
          go_wp2_with fail
          go_roundw
          case rel => exact ⟨j + 1, by omega, by go_num, hide (by
            obtain ⟨a, b', c', d, f⟩ := HX.out
            refine ⟨k2, H2, a, b', c', d, fun x h1 h2 => ?_⟩
            rw [f x h1 h2]
            simp only [tot]
            unfold keptOf
            rw [HG.out]
            simp only
            rw [List.take_of_length_le (by rw [← HM.out, HCm.out]; exact Nat.le_refl _)])⟩
          case measure => simp [intOf]; omega
    · have hd : decide ((j : Int) < 6) = false := by simp; omega
      have hj6 : j = 6 := by omega
      rw [hj6] at hC1
      have HX := hide (And.intro ev1 (And.intro hp1 (And.intro hB1 hC1)))
      clear ev1 hp1 hB1 hC1 hst hj6
      obtain ⟨W1, hW1⟩ : ∃ W1, W1 = wr := ⟨_, rfl⟩
      subst hW1
      go_wp2_with fail
      go_loopw [9] (fun v wr => wr = W1 ∧ ∃ n : Nat, n ≤ 40 ∧ v = .int .i64 ((n : Int) + 1)) (fun v _ => 42 - (intOf v).toNat)
      case atStart => exact ⟨rfl, 0, by omega, rfl⟩
      case round =>
        obtain ⟨rfl, n, hn, rfl⟩ := hrel
        by_cases hn40 : n < 40
        · have hd2 : decide ((n : Int) + 1 ≤ 40) = true := by simp; omega
          obtain ⟨ev1, hp1, hB1, hC1⟩ := HX.out
          have c0 := (hp1.sworn (n + 1) (by omega)).1
          have hbl := hp1.ptr.2
          have hHn := hC1.2 (n + 1) (by omega) (by omega)
          obtain ⟨hnl, hHv⟩ := List.getElem?_eq_some_iff.1 hHn
          have h0 := int_cell hB1 (n + 1) hnl
          rw [hHv] at h0
          simp only at h0
          have hbhl := hB1.lt
          have hsl := HL.out.1
          have HTn := hide (HT.out (n + 1))
          rw [List.getElem?_eq_getElem (show n + 1 < P.sworn.length by omega)] at HTn
          generalize P.sworn[n + 1]'(by omega) = sn at *
          generalize tot P (n + 1) 6 = t at *
          have hw1 : IntKind.i64.wrap ((n : Int) + 1 + 1) = ((n + 1 : Nat) : Int) + 1 := by rw [IntKind.wrap_i64] <;> omega
          obtain ⟨q, hq⟩ : ∃ q, q = n + 1 := ⟨_, rfl⟩
          have hqi : (n : Int) + 1 = (q : Int) := by omega
          rw [hqi] at hd2 ⊢
          rw [← hq] at c0 h0
          have hw1' : IntKind.i64.wrap ((q : Int) + 1) = (q : Int) + 1 := by rw [IntKind.wrap_i64] <;> omega
          have hq40 : q ≤ 40 := by omega
          have HQ := hide hq
          clear ev1 hp1 hB1 hC1 hHn hHv hsl hq hqi hw1
          cases sn
          · go_wp2_with fail
            go_roundw
            case rel => exact ⟨trivial, n + 1, by omega, by rw [HQ.out]⟩
            case measure => simp [intOf]; omega
          · have ht4 := HTn.out rfl
            have d3 : decide ((t : Int) < 4) = false := by simp; omega
            have d3' : decide (t < 4) = false := by simp; omega
            go_wp2_with fail
            go_roundw
            case rel => exact ⟨trivial, n + 1, by omega, by rw [HQ.out]⟩
            case measure => simp [intOf]; omega
        · have hd2 : decide ((n : Int) + 1 ≤ 40) = false := by simp; omega
          go_wp2_with fail
          go_ret
          obtain ⟨ev1, hp1, hB1, hC1⟩ := HX.out
          exact ⟨rfl, k1, ev1, hp1⟩
end Go.Proofs.Ytfpbkghcjaonlaa.Sim
