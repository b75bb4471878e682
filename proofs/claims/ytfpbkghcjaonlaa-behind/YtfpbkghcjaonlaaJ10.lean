import Derived.Test.YtfpbkghcjaonlaaJ09
import Derived.Test.YtfpbkghcjaonlaaJ04
/-
  The program: a segment: status, refusal, marks.
-/
namespace Go.Proofs.Ytfpbkghcjaonlaa
open Go.RowKit

set_option maxRecDepth 3000 in
set_option maxHeartbeats 4000000 in
theorem sstatus_any {w : World} {b o : Nat} {s : XSeg} {vc : Value} (h : SegAt w b o s vc) (nr wr : Int) :
    Calls Try.prog 79 #[.pointer (some ⟨b, o, none⟩), .int .i64 nr, .int .i64 wr] w fun e w' => e = .returned (.agg #[.int .i64 4, .int .i64 nr, .int .i64 wr, .int .i64 wr, .int .i64 0, .int .i64 0, .int .i64 (xscl s), .slice none 0 0, .slice none 0 0]) ∧ Below w.heap.size w w' := by
  have HS : Hid (∀ W, Below w.heap.size w W → Calls Try.prog 81 #[.pointer (some ⟨b, o, none⟩)] W fun e w' => e = .returned (.int .i64 (xscl s)) ∧ w' = W) := hide fun W hW => xscl_any (h.below hW)
  clear h
  generalize xscl s = sc at *
  go_enter Try.func79, Try.ntmps79
  go_wp2_with fail
  refine (HS.out _ ((Below.refl _ _).alloc (Nat.le_refl _) _)).mono ?_
  rintro e1 w1 ⟨rfl, rfl⟩
  go_wp2_with fail
  exact bodyPost_ret (v := .agg #[.int .i64 4, .int .i64 nr, .int .i64 wr, .int .i64 wr, .int .i64 0, .int .i64 0, .int .i64 sc, .slice none 0 0, .slice none 0 0]) (by simp [results, Try.results79, go_sem]) rfl ⟨rfl, (Below.refl _ _).alloc (Nat.le_refl _) _⟩

set_option maxRecDepth 3000 in
set_option maxHeartbeats 4000000 in
theorem refusal_any {w : World} {b o : Nat} {s : XSeg} {vc : Value} (h : SegAt w b o s vc) (m0 m1 m2 m3 m4 m5 m6 : Int) (z0 y0 : Option Addr) (z1 z2 y1 y2 : Nat) :
    Calls Try.prog 100 #[.pointer (some ⟨b, o, none⟩), .agg #[.int .i64 m0, .int .i64 m1, .int .i64 m2, .int .i64 m3, .int .i64 m4, .int .i64 m5, .int .i64 m6, .slice z0 z1 z2, .slice y0 y1 y2]] w fun e w' => e = .returned (.agg #[.int .i64 5, .int .i64 m2, .int .i64 m1, .int .i64 s.epoch, .int .i64 0, .int .i64 0, .int .i64 0, .slice none 0 0, .slice none 0 0]) ∧ Below w.heap.size w w' := by
  have hbl := h.lt
  have q1 : w.cell? ⟨b, o + 1, none⟩ = some (.int .i64 s.epoch) := h.cell 1 (by omega)
  have hb0 : ¬ b = w.heap.size := by omega
  have hb1 : ¬ b = w.heap.size + 1 := by omega
  clear h
  go_enter Try.func100, Try.ntmps100
  go_wp2_with fail
  go_region_held3 (fun W => W.cell? ⟨b, o + 1, none⟩ = some (.int .i64 s.epoch) ∧ W.cell? ⟨w.heap.size, 1, none⟩ = some (.int .i64 m1) ∧ W.cell? ⟨w.heap.size, 2, none⟩ = some (.int .i64 m2)) (go_keep) (fail)
  go_wp2_with fail
  exact bodyPost_ret (v := .agg #[.int .i64 5, .int .i64 m2, .int .i64 m1, .int .i64 s.epoch, .int .i64 0, .int .i64 0, .int .i64 0, .slice none 0 0, .slice none 0 0]) (by simp [results, Try.results100, go_sem]) rfl ⟨rfl, (((Below.refl _ _).alloc (Nat.le_refl _) _).alloc (by simp) _).drew⟩

theorem xmarks_take (l : List (Int × Int × Int)) (j : Nat) (h : j < l.length) (hall : ∀ y ∈ l.take j, (y.1 == 2) = true) (hj : (l[j].1 == 2) = false) : xmarks l = (l.take j).map (fun p : Int × Int × Int => p.2.1) := by
  unfold xmarks
  congr 1
  conv => lhs; rw [← List.take_append_drop j l]
  rw [List.takeWhile_append_of_pos hall, List.drop_eq_getElem_cons h, List.takeWhile_cons_of_neg (by simpa using hj), List.append_nil]
theorem xmarks_all (l : List (Int × Int × Int)) (hall : ∀ y ∈ l, (y.1 == 2) = true) : xmarks l = l.map (fun p : Int × Int × Int => p.2.1) := by
  unfold xmarks
  congr 1
  have := List.takeWhile_append_of_pos (p := fun p : Int × Int × Int => p.1 == 2) (l₂ := []) hall
  simpa using this

set_option maxRecDepth 3000 in
set_option maxHeartbeats 4000000 in
theorem smarks_any {w : World} {b o : Nat} {s : XSeg} {vc : Value} (h : SegAt w b o s vc) :
    Calls Try.prog 101 #[.pointer (some ⟨b, o, none⟩)] w fun e w' => (∃ z, e = .returned z ∧ Made w' w.heap.size 3 1 z ((xmarks s.places).map intRow)) ∧ Below w.heap.size w w' := by
  have hl := h.len
  have hbl := h.lt
  have HP := hide h.place
  obtain ⟨mk, hmk⟩ : ∃ mk, mk = xmarks s.places := ⟨_, rfl⟩
  rw [← hmk]
  have HMK := hide hmk
  clear h hmk
  go_enter Try.func101, Try.ntmps101
  go_wp2_with fail
  go_loopw [3, 4] (fun z i wr => Below w.heap.size w wr ∧ ∃ j : Nat, j ≤ 40 ∧ i = .int .i64 j ∧ Made wr w.heap.size 3 1 z (((s.places.take j).map (fun p : Int × Int × Int => p.2.1)).map intRow) ∧ Hid (∀ y ∈ s.places.take j, (y.1 == 2) = true)) (fun _ i _ => 40 - (intOf i).toNat)
  case atStart => exact ⟨Below.refl _ _, 0, by omega, rfl, Made.nil _ _ _ _, hide (by simp)⟩
  case round =>
    obtain ⟨hB, j, hj, rfl, hM, hall⟩ := hrel
    have hsz := hB.size
    by_cases hlt : j < 40
    · have hd : decide ((j : Int) < 40) = true := by simp; omega
      have hj40 : (j : Int) < 40 := by omega
      have hjl : j < s.places.length := by omega
      obtain ⟨q0, q1, _⟩ := HP.out j hjl
      have u0 := (hB.cell (p := ⟨b, o + 3 + j * 3, none⟩) hbl).trans q0
      have u1 := (hB.cell (p := ⟨b, o + 3 + j * 3 + 1, none⟩) hbl).trans q1
      have hbl2 : b < wr.heap.size := by omega
      have HT : Hid ((s.places.take (j + 1)).map (fun p : Int × Int × Int => p.2.1) = (s.places.take j).map (fun p : Int × Int × Int => p.2.1) ++ [s.places[j].2.1]) := hide (by rw [List.take_succ_eq_append_getElem hjl, List.map_append]; rfl)
      have HAl : Hid ((s.places[j].1 == 2) = true → ∀ y ∈ s.places.take (j + 1), (y.1 == 2) = true) := hide fun h2 y hy => by
        rw [List.take_succ_eq_append_getElem hjl] at hy
        rcases List.mem_append.1 hy with h | h
        · exact hall.out y h
        · rw [List.mem_singleton.1 h]; exact h2
      have HEnd : Hid ((s.places[j].1 == 2) = false → mk = (s.places.take j).map (fun p : Int × Int × Int => p.2.1)) := hide fun h2 => by rw [HMK.out]; exact xmarks_take s.places j hjl hall.out h2
      generalize s.places[j].1 = p0 at *
      generalize s.places[j].2.1 = p1 at *
      clear q0 q1
      cases hst : (p0 == 2)
      · have HE := hide (HEnd.out hst)
        go_wp2_with fail
        go_ret
        exact ⟨⟨_, rfl, by rw [HE.out]; exact hM⟩, hB⟩
      · have HA2 := hide (HAl.out hst)
        have hln : (((s.places.take j).map (fun p : Int × Int × Int => p.2.1)).map intRow).length = j := by simp; omega
        have HLn := hide hln
        clear hln
        have hM2 := hM.kept ((Below.refl _ _).alloc (Nat.le_refl _) (Obj.cells #[.int .i64 p1] 3))
        go_wp2_with (at_builtin; go_must (refine wpList_append_made (.tmp 19) (.tmp 27) 38 3 _ 1 8 _ (((s.places.take j).map (fun p : Int × Int × Int => p.2.1)).map intRow) j (intRow p1) w.heap.size ⟨wr.heap.size, 0, none⟩ 1 HLn.out rfl rfl Try.underlying38 Try.infoInt rfl (by decide) rfl rfl hM2 rfl (cell_one_new' _ _ _) (by simp [intRow, Value.oneCell']) (by simp only [maxLen]; omega) (by omega) (by simp; omega) ?_; intro ao cap2 w2 hM3 hB3))
        go_roundw
        case rel => exact ⟨(hB.alloc (by omega) _).trans hB3, j + 1, by omega, by go_num, by rw [HT.out, List.map_append]; simpa using hM3, HA2⟩
        case measure => simp [intOf]; omega
    · have hj40 : j = 40 := by omega
      have hd : decide ((j : Int) < 40) = false := by simp; omega
      have HE : Hid (mk = (s.places.take j).map (fun p : Int × Int × Int => p.2.1)) := hide (by
        have hh := hall.out
        rw [hj40, ← hl, List.take_length] at hh
        rw [HMK.out, hj40, ← hl, List.take_length]
        exact xmarks_all _ hh)
      clear hj40
      go_wp2_with fail
      go_ret
      exact ⟨⟨_, rfl, by rw [HE.out]; exact hM⟩, hB⟩
end Go.Proofs.Ytfpbkghcjaonlaa

/-
  The simulation: messages in flight, the places of a segment.
-/
namespace Go.Proofs.Ytfpbkghcjaonlaa.Sim

/-- The messages in flight. -/
def liveOf (net : List (Msg × Bool)) : List Msg := (net.filter (fun p => !p.2)).map (·.1)
theorem liveOf_len (net : List (Msg × Bool)) : (liveOf net).length = flightOf net := by unfold liveOf flightOf; simp
theorem liveOf_send (fl : Int) (net : List (Msg × Bool)) (m : Msg) : liveOf (sendNet fl net m) = if fl ≤ ((liveOf net).length : Int) then liveOf net else liveOf net ++ [m] := by
  rw [liveOf_len]
  unfold sendNet
  by_cases h : (flightOf net : Int) < fl
  · rw [if_pos h, if_neg (by omega)]
    unfold liveOf; simp
  · rw [if_neg h, if_pos (by omega)]
theorem liveOf_mem {net : List (Msg × Bool)} {m : Msg} (h : m ∈ liveOf net) : (m, false) ∈ net := by
  unfold liveOf at h
  obtain ⟨p, hp, rfl⟩ := List.mem_map.1 h
  obtain ⟨h1, h2⟩ := List.mem_filter.1 hp
  have : p.2 = false := by simpa using h2
  rw [← this]; exact h1
theorem liveOf_place : ∀ (net : List (Msg × Bool)) (n : Nat), (∀ i, placeOf net n = some i → ∃ h : i < net.length, (liveOf net)[n]? = some net[i].1 ∧ net[i].2 = false ∧ liveOf (goneAt net i) = (liveOf net).eraseIdx n) ∧ (placeOf net n = none → (liveOf net)[n]? = none)
  | [], n => ⟨fun i h => by simp [placeOf] at h, fun _ => by simp [liveOf]⟩
  | (m, b) :: r, n => by
    cases b with
    | true =>
      have ih := liveOf_place r n
      have e0 : liveOf ((m, true) :: r) = liveOf r := by simp [liveOf]
      refine ⟨fun i h => ?_, fun h => ?_⟩
      · simp only [placeOf] at h
        cases hp : placeOf r n with
        | none => rw [hp] at h; simp at h
        | some j =>
          rw [hp] at h
          simp at h
          obtain ⟨hj, h1, h2, h3⟩ := ih.1 j hp
          subst h
          refine ⟨by simpa using hj, by rw [e0, h1]; simp, by simpa using h2, ?_⟩
          have : goneAt ((m, true) :: r) (j + 1) = (m, true) :: goneAt r j := by
            rw [goneAt_of (by simpa using hj), goneAt_of hj]; simp
          rw [this, e0, ← h3]; simp [liveOf]
      · simp only [placeOf] at h
        rw [e0]; exact ih.2 (by simpa using h)
    | false =>
      have e0 : liveOf ((m, false) :: r) = m :: liveOf r := by simp [liveOf]
      cases n with
      | zero =>
        refine ⟨fun i h => ?_, fun h => by simp [placeOf] at h⟩
        simp [placeOf] at h
        subst h
        refine ⟨by simp, by rw [e0]; rfl, rfl, ?_⟩
        rw [goneAt_of (by simp), e0]
        simp [liveOf]
      | succ n =>
        have ih := liveOf_place r n
        refine ⟨fun i h => ?_, fun h => ?_⟩
        · simp only [placeOf] at h
          cases hp : placeOf r n with
          | none => rw [hp] at h; simp at h
          | some j =>
            rw [hp] at h
            simp at h
            obtain ⟨hj, h1, h2, h3⟩ := ih.1 j hp
            subst h
            refine ⟨by simpa using hj, by rw [e0]; simpa using h1, by simpa using h2, ?_⟩
            have : goneAt ((m, false) :: r) (j + 1) = (m, false) :: goneAt r j := by
              rw [goneAt_of (by simpa using hj), goneAt_of hj]; simp
            rw [this, e0]; simp only [List.eraseIdx_cons_succ]; rw [← h3]; simp [liveOf]
        · simp only [placeOf] at h
          rw [e0]; simpa using ih.2 (by simpa using h)

/-- The place of a number, by what came to the segment. -/
def plOf (l : List Ent) (lsn : Int) : Int × Int × Int := match l.find? (entHit lsn) with | none => (0, 0, 0) | some e => (if e.kept then 2 else 1, e.epoch, e.value)
def xseg (g : RSeg) : XSeg := ⟨g.up, g.epoch, g.cuts, (List.range 40).map fun (n : Nat) => plOf g.entries ((n : Int) + 1)⟩

theorem entIdx_find (l : List Ent) (lsn : Int) : (entIdx l lsn).bind (fun i => l[i]?) = l.find? (entHit lsn) := by
  unfold entIdx
  induction l with
  | nil => rfl
  | cons a r ih =>
    rw [List.findIdx?_cons, List.find?_cons]
    cases h : entHit lsn a with
    | true => simp
    | false =>
      rw [← ih]
      cases List.findIdx? (entHit lsn) r <;> simp
theorem entIdx_none (l : List Ent) (lsn : Int) : entIdx l lsn = none ↔ l.find? (entHit lsn) = none := by
  rw [← entIdx_find]
  cases h : entIdx l lsn with
  | none => simp
  | some i =>
    obtain ⟨hi, _⟩ := List.findIdx?_eq_some_iff_getElem.1 h
    simp; omega
theorem keptAt_find (l : List Ent) (lsn : Int) : keptAt l lsn = (l.find? (entHit lsn)).bind fun e => if e.kept then some e else none := by
  unfold keptAt
  rw [← entIdx_find]
  cases entIdx l lsn <;> simp
theorem keptAt_pl (l : List Ent) (lsn : Int) : (keptAt l lsn).isSome = ((plOf l lsn).1 == 2) := by
  rw [keptAt_find]; unfold plOf
  cases l.find? (entHit lsn) with
  | none => rfl
  | some e => cases h : e.kept <;> simp [h]
theorem keptAt_eq {l : List Ent} {lsn : Int} {e : Ent} (h : keptAt l lsn = some e) : e.lsn = lsn ∧ plOf l lsn = (2, e.epoch, e.value) ∧ e ∈ l ∧ e.gone = false ∧ e.kept = true := by
  rw [keptAt_find] at h
  unfold plOf
  cases hf : l.find? (entHit lsn) with
  | none => rw [hf] at h; simp at h
  | some a =>
    rw [hf] at h
    have hp := List.find?_some hf
    have hm := List.mem_of_find?_eq_some hf
    cases hk : a.kept with
    | false => simp [hk] at h
    | true =>
      simp [hk] at h
      subst h
      unfold entHit at hp
      simp at hp
      exact ⟨hp.2, by simp [hk], hm, hp.1, hk⟩
theorem xseg_get (g : RSeg) (n : Nat) (h : n < 40) : (xseg g).places[n]? = some (plOf g.entries ((n : Int) + 1)) := by
  unfold xseg; simp [h]
theorem xseg_len (g : RSeg) : (xseg g).places.length = 40 := by simp [xseg]

/-- What is live has a number from 1 to 40, and no number stands twice. -/
structure EntsOk (l : List Ent) : Prop where
  rng : ∀ e ∈ l, e.gone = false → 1 ≤ e.lsn ∧ e.lsn ≤ 40
  one : ∀ n, l.countP (entHit n) ≤ 1

theorem plOf_out {l : List Ent} (h : EntsOk l) (n : Int) (hn : n < 1 ∨ 40 < n) : l.find? (entHit n) = none := by
  rw [List.find?_eq_none]
  intro e he
  simp only [entHit, Bool.and_eq_true, Bool.not_eq_true', beq_iff_eq, not_and]
  intro h1 h2
  have := h.rng e he h1
  omega

theorem xsclUp_spec (l : List (Int × Int × Int)) (m : Nat) (hm : m ≤ l.length) (hno : ∀ h : m < l.length, (l[m].1 == 2) = false) : ∀ f n, n ≤ m → m ≤ n + f → (∀ i, n ≤ i → (h2 : i < m) → ((l[i]'(by omega)).1 == 2) = true) → xsclUp l f n = m := by
  intro f
  induction f with
  | zero => intro n h1 h2 _; simp only [xsclUp]; omega
  | succ f ih =>
    intro n h1 h2 h
    by_cases hn : n = m
    · subst hn
      by_cases hl : n < l.length
      · rw [xsclUp_step l f n hl, hno hl]; rfl
      · simp only [xsclUp]; rw [List.getElem?_eq_none (by omega)]
    · rw [xsclUp_step l f n (by omega), h n (Nat.le_refl _) (by omega)]
      exact ih (n + 1) (by omega) (by omega) (fun i a b => h i (by omega) b)

theorem xscl_exists (s : XSeg) (hl : s.places.length = 40) : ∃ m, m ≤ 40 ∧ xscl s = m ∧ (∀ h : m < s.places.length, (s.places[m].1 == 2) = false) ∧ ∀ i, (h : i < m) → ∃ h2 : i < s.places.length, (s.places[i].1 == 2) = true := by
  have key : ∀ f n, n + f = 40 → (∀ i, (h : i < n) → ∃ h2 : i < s.places.length, (s.places[i].1 == 2) = true) → ∃ m, m ≤ 40 ∧ (∀ h : m < s.places.length, (s.places[m].1 == 2) = false) ∧ ∀ i, (h : i < m) → ∃ h2 : i < s.places.length, (s.places[i].1 == 2) = true := by
    intro f
    induction f with
    | zero => intro n h1 h2; exact ⟨n, by omega, fun h => by omega, h2⟩
    | succ f ih =>
      intro n h1 h2
      have hn : n < s.places.length := by omega
      cases hb : (s.places[n].1 == 2) with
      | false => exact ⟨n, by omega, fun _ => hb, h2⟩
      | true =>
        refine ih (n + 1) (by omega) (fun i hi => ?_)
        by_cases e : i = n
        · subst e; exact ⟨hn, hb⟩
        · exact h2 i (by omega)
  obtain ⟨m, h1, h2, h3⟩ := key 40 0 rfl (fun i h => by omega)
  refine ⟨m, h1, ?_, h2, h3⟩
  unfold xscl
  exact xsclUp_spec _ _ (by omega) h2 _ _ (by omega) (by omega) (fun i _ h => (h3 i h).2)

theorem xseg_state (g : RSeg) (i : Nat) (h : i < (xseg g).places.length) : ((xseg g).places[i].1 == 2) = (keptAt g.entries ((i : Int) + 1)).isSome := by
  rw [xseg_len] at h
  rw [keptAt_pl]
  have := xseg_get g i h
  rw [List.getElem?_eq_getElem (by rw [xseg_len]; omega)] at this
  rw [Option.some.inj this]

theorem xscl_seg (g : RSeg) (h : EntsOk g.entries) : xscl (xseg g) = sclOf g.entries := by
  obtain ⟨m, h1, h2, h3, h4⟩ := xscl_exists (xseg g) (xseg_len g)
  rw [h2]
  symm
  refine sclOf_spec (fun i a b => ?_) ?_
  · obtain ⟨hi, hs⟩ := h4 (i - 1) (by omega)
    rw [xseg_state] at hs
    rw [show ((i - 1 : Nat) : Int) + 1 = (i : Int) from by omega] at hs
    exact hs
  · by_cases hm : m < (xseg g).places.length
    · have := h3 hm
      rw [xseg_state] at this
      exact this
    · rw [xseg_len] at hm
      rw [keptAt_find, plOf_out h _ (by omega)]; rfl
theorem scl_le40 (g : RSeg) (h : EntsOk g.entries) : sclOf g.entries ≤ 40 := by
  obtain ⟨m, h1, h2, _, _⟩ := xscl_exists (xseg g) (xseg_len g)
  rw [← xscl_seg g h, h2]; exact h1

theorem xmarks_seg (g : RSeg) (h : EntsOk g.entries) : xmarks (xseg g).places = marksOf g.entries := by
  obtain ⟨m, h1, h2, h3, h4⟩ := xscl_exists (xseg g) (xseg_len g)
  have hs : sclOf g.entries = m := by rw [← xscl_seg g h, h2]
  have hl := xseg_len g
  unfold marksOf
  rw [hs]
  have htk : (xseg g).places.takeWhile (fun p => p.1 == 2) = (xseg g).places.take m := by
    conv => lhs; rw [← List.take_append_drop m (xseg g).places]
    rw [List.takeWhile_append_of_pos (fun y hy => by
      obtain ⟨i, hi, rfl⟩ := List.getElem_of_mem hy
      rw [List.length_take] at hi
      rw [List.getElem_take]
      exact (h4 i (by omega)).2)]
    by_cases hm : m < (xseg g).places.length
    · rw [List.drop_eq_getElem_cons hm, List.takeWhile_cons_of_neg (by simpa using h3 hm), List.append_nil]
    · rw [List.drop_eq_nil_of_le (by omega)]; simp
  unfold xmarks marksUp
  rw [htk]
  apply List.ext_getElem?
  intro i
  by_cases hi : i < m
  · have hx := xseg_get g i (by omega)
    simp only [List.getElem?_map, List.getElem?_take, hi, if_true, hx, List.getElem?_range hi, Option.map_some]
    unfold epochAt
    have hk := (h4 i hi).2
    rw [xseg_state] at hk
    cases hka : keptAt g.entries ((i : Int) + 1) with
    | none => rw [hka] at hk; simp at hk
    | some e => rw [(keptAt_eq hka).2.1]; rfl
  · rw [List.getElem?_eq_none (by simp; omega), List.getElem?_eq_none (by simp; omega)]
end Go.Proofs.Ytfpbkghcjaonlaa.Sim

/-
  The simulation: what a segment does.
-/
namespace Go.Proofs.Ytfpbkghcjaonlaa.Sim

theorem find_sift {A : Type} (p c : A → Bool) (f : A → A) : ∀ l : List A, l.countP p ≤ 1 → (∀ e ∈ l, p (f e) = (p e && c e)) → (l.map f).find? p = (l.find? p).bind fun e => if c e then some (f e) else none
  | [], _, _ => rfl
  | a :: r, hc, h => by
    rw [List.map_cons, List.find?_cons, List.find?_cons]
    have ha := h a List.mem_cons_self
    have hr := fun e he => h e (List.mem_cons_of_mem _ he)
    cases hp : p a with
    | false =>
      rw [hp] at ha
      simp only [Bool.false_and] at ha
      rw [ha]
      rw [List.countP_cons_of_neg (by simp [hp])] at hc
      exact find_sift p c f r hc hr
    | true =>
      rw [hp] at ha
      simp only [Bool.true_and] at ha
      rw [List.countP_cons_of_pos hp] at hc
      have h0 : r.countP p = 0 := by omega
      rw [ha]
      cases hca : c a with
      | true => simp [hca]
      | false =>
        simp only [hca, Option.bind_some, Bool.false_eq_true, if_false]
        rw [List.find?_eq_none]
        intro e he
        obtain ⟨e0, he0, rfl⟩ := List.mem_map.1 he
        rw [hr e0 he0, List.countP_eq_zero.1 h0 e0 he0 |> Bool.eq_false_iff.2]
        simp

theorem count_sift {A : Type} (p : A → Bool) (f : A → A) (l : List A) (h : ∀ e ∈ l, p (f e) = true → p e = true) : (l.map f).countP p ≤ l.countP p := by
  induction l with
  | nil => simp
  | cons a r ih =>
    have := ih (fun e he => h e (List.mem_cons_of_mem _ he))
    rw [List.map_cons, List.countP_cons, List.countP_cons]
    have ha := h a List.mem_cons_self
    by_cases hp : p (f a) = true
    · rw [if_pos hp, if_pos (ha hp)]; omega
    · rw [if_neg hp]; omega

theorem crash_hit (n : Int) (e : Ent) : entHit n (crashE e) = (entHit n e && e.kept) := by
  unfold entHit crashE
  cases h : e.kept <;> simp
theorem crash_pl {l : List Ent} (h : EntsOk l) (n : Int) : plOf (l.map crashE) n = crashAt (plOf l n) := by
  unfold plOf
  rw [find_sift (entHit n) (fun e => e.kept) crashE l (h.one n) (fun e _ => crash_hit n e)]
  cases l.find? (entHit n) with
  | none => rfl
  | some e => cases hk : e.kept <;> simp [crashAt, crashE, hk]
theorem crash_ok {l : List Ent} (h : EntsOk l) : EntsOk (l.map crashE) := by
  refine ⟨fun e he hg => ?_, fun n => Nat.le_trans (count_sift _ _ _ (fun e _ hp => ?_)) (h.one n)⟩
  · obtain ⟨e0, he0, rfl⟩ := List.mem_map.1 he
    unfold crashE at hg ⊢
    split at hg
    · rename_i hk; rw [if_pos hk]; exact h.rng e0 he0 hg
    · simp at hg
  · rw [crash_hit] at hp; simp at hp; exact hp.1

theorem sync_hit (n : Int) (e : Ent) : entHit n (syncE e) = entHit n e := by
  unfold entHit syncE
  cases h : e.gone <;> simp [h]
theorem sync_pl {l : List Ent} (h : EntsOk l) (n : Int) : plOf (l.map syncE) n = syncAt (plOf l n) := by
  unfold plOf
  rw [find_sift (entHit n) (fun _ => true) syncE l (h.one n) (fun e _ => by rw [sync_hit]; simp)]
  cases hf : l.find? (entHit n) with
  | none => rfl
  | some e =>
    have hp := List.find?_some hf
    unfold entHit at hp
    simp at hp
    cases hk : e.kept <;> simp [syncAt, syncE, hk, hp.1]
theorem sync_ok {l : List Ent} (h : EntsOk l) : EntsOk (l.map syncE) := by
  refine ⟨fun e he hg => ?_, fun n => Nat.le_trans (count_sift _ _ _ (fun e _ hp => ?_)) (h.one n)⟩
  · obtain ⟨e0, he0, rfl⟩ := List.mem_map.1 he
    unfold syncE at hg ⊢
    split at hg
    · rename_i hk; rw [if_pos hk]; exact h.rng e0 he0 hg
    · rename_i hk; rw [if_neg hk]; exact h.rng e0 he0 (by simpa using hk)
  · rw [sync_hit] at hp; exact hp

theorem sift_hit (cs : List (Int × Int)) (n : Int) (e : Ent) : entHit n (siftBy cs e) = (entHit n e && good cs e.lsn e.epoch) := by
  unfold entHit siftBy
  cases h : good cs e.lsn e.epoch <;> simp
theorem sift_pl {l : List Ent} (h : EntsOk l) (cs : List (Int × Int)) (n : Nat) : plOf (l.map (siftBy cs)) ((n : Int) + 1) = forgetAt cs n (plOf l ((n : Int) + 1)) := by
  unfold plOf
  rw [find_sift (entHit ((n : Int) + 1)) (fun e => good cs e.lsn e.epoch) (siftBy cs) l (h.one _) (fun e _ => sift_hit cs _ e)]
  cases hf : l.find? (entHit ((n : Int) + 1)) with
  | none => simp [forgetAt]
  | some e =>
    have hp := List.find?_some hf
    unfold entHit at hp
    simp at hp
    have hl := hp.2
    cases hg : good cs ((n : Int) + 1) e.epoch <;> simp [forgetAt, siftBy, hg, hl]
theorem sift_ok {l : List Ent} (h : EntsOk l) (cs : List (Int × Int)) : EntsOk (l.map (siftBy cs)) := by
  refine ⟨fun e he hg => ?_, fun n => Nat.le_trans (count_sift _ _ _ (fun e _ hp => ?_)) (h.one n)⟩
  · obtain ⟨e0, he0, rfl⟩ := List.mem_map.1 he
    unfold siftBy at hg ⊢
    split at hg
    · rename_i hk; rw [if_pos hk]; exact h.rng e0 he0 hg
    · simp at hg
  · rw [sift_hit] at hp; simp at hp; exact hp.1

theorem come_pl (l : List Ent) (lsn ep v n : Int) : plOf (comeTo l (lsn, ep, v)) n = if n = lsn ∧ (plOf l lsn).1 = 0 then (1, ep, v) else plOf l n := by
  have hz : (plOf l lsn).1 = 0 ↔ l.find? (entHit lsn) = none := by
    unfold plOf
    cases l.find? (entHit lsn) with
    | none => simp
    | some e => cases h : e.kept <;> simp [h]
  unfold comeTo
  by_cases hi : entIdx l lsn = none
  · rw [if_pos hi]
    rw [entIdx_none] at hi
    by_cases hn : n = lsn
    · subst hn
      rw [if_pos ⟨rfl, hz.2 hi⟩]
      unfold plOf
      rw [List.find?_append, hi]
      simp [entHit]
    · rw [if_neg (fun h => hn h.1)]
      unfold plOf
      rw [List.find?_append]
      cases l.find? (entHit n) with
      | some e => rfl
      | none => simp [entHit, show ¬ lsn = n from fun e => hn e.symm]
  · rw [if_neg hi, if_neg (fun h => hi ((entIdx_none _ _).2 (hz.1 h.2)))]
theorem come_ok {l : List Ent} (h : EntsOk l) (lsn ep v : Int) (h1 : 1 ≤ lsn) (h2 : lsn ≤ 40) : EntsOk (comeTo l (lsn, ep, v)) := by
  unfold comeTo
  by_cases hi : entIdx l lsn = none
  · rw [if_pos hi]
    rw [entIdx_none] at hi
    refine ⟨fun e he hg => ?_, fun n => ?_⟩
    · rcases List.mem_append.1 he with h3 | h3
      · exact h.rng e h3 hg
      · rw [List.mem_singleton.1 h3]; exact ⟨h1, h2⟩
    · rw [List.countP_append]
      by_cases hn : n = lsn
      · subst hn
        have : l.countP (entHit n) = 0 := by
          rw [List.countP_eq_zero]; exact List.find?_eq_none.1 hi
        rw [this]; exact Nat.le_trans (Nat.le_of_eq (Nat.zero_add _)) List.countP_le_length
      · have := h.one n
        rw [show List.countP (entHit n) [(⟨lsn, ep, v, false, false⟩ : Ent)] = 0 from by simp [entHit]; exact fun e => hn e.symm]
        exact this
  · rw [if_neg hi]; exact h

theorem seg_ext {s t : XSeg} (h1 : s.up = t.up) (h2 : s.epoch = t.epoch) (h3 : s.cuts = t.cuts) (h4 : s.places = t.places) : s = t := by
  cases s; cases t; simp at *; exact ⟨h1, h2, h3, h4⟩

theorem xseg_at (g : RSeg) (h : EntsOk g.entries) (lsn : Int) : (xseg g).at_ lsn = plOf g.entries lsn := by
  unfold XSeg.at_
  by_cases hn : lsn < 1 ∨ 40 < lsn
  · rw [if_pos hn]; unfold plOf; rw [plOf_out h _ hn]
  · rw [if_neg hn, List.getD_eq_getElem?_getD, xseg_get g _ (by omega)]
    simp only [Option.getD_some]
    rw [show ((lsn - 1).toNat : Int) + 1 = lsn from by omega]

theorem xseg_places (g : RSeg) (f : Int × Int × Int → Int × Int × Int) (l : List Ent) (h : ∀ n : Nat, plOf l ((n : Int) + 1) = f (plOf g.entries ((n : Int) + 1))) : (List.range 40).map (fun (n : Nat) => plOf l ((n : Int) + 1)) = (xseg g).places.map f := by
  unfold xseg
  rw [List.map_map]
  exact List.map_congr_left fun n _ => h n

theorem xseg_crash (g : RSeg) (h : EntsOk g.entries) : (xseg g).crash = xseg { g with up := false, entries := g.entries.map crashE } :=
  seg_ext rfl rfl rfl (xseg_places g crashAt _ (fun _ => crash_pl h _)).symm
theorem xseg_restart (g : RSeg) : (xseg g).restart = xseg { g with up := true } := rfl
theorem xseg_synced (g : RSeg) (h : EntsOk g.entries) : (xseg g).synced = xseg { g with entries := g.entries.map syncE } :=
  seg_ext rfl rfl rfl (xseg_places g syncAt _ (fun _ => sync_pl h _)).symm
theorem xseg_forget (g : RSeg) (h : EntsOk g.entries) (e : Int) (l : List (Int × Int)) : XSeg.forget { xseg g with epoch := e, cuts := l } = xseg ((g.epochUp e).cutBy l) := by
  refine seg_ext rfl (by simp [XSeg.forget, xseg, RSeg.cutBy, RSeg.epochUp, RSeg.epoch]) (by simp [XSeg.forget, xseg, RSeg.cutBy, RSeg.epochUp, RSeg.cuts]) ?_
  simp only [XSeg.forget, xseg, RSeg.cutBy, RSeg.epochUp]
  apply List.ext_getElem?
  intro i
  rw [List.getElem?_mapIdx, List.getElem?_map, List.getElem?_map]
  by_cases hi : i < 40
  · rw [List.getElem?_range hi]; simp [sift_pl h]
  · rw [List.getElem?_eq_none (by simp; omega)]; rfl
theorem xseg_take (g : RSeg) (m : Msg) (h1 : 1 ≤ m.lsn) (h2 : m.lsn ≤ 40) : (xseg g).take m = xseg (g.coming m) := by
  unfold XSeg.take
  have e1 : ((m.lsn - 1).toNat : Int) + 1 = m.lsn := by omega
  rw [if_neg (by omega), List.getD_eq_getElem?_getD, xseg_get g _ (by omega), e1]
  simp only [Option.getD_some]
  have hp : (List.range 40).map (fun (n : Nat) => plOf (comeTo g.entries (m.lsn, m.epoch, m.value)) ((n : Int) + 1)) = if (plOf g.entries m.lsn).1 = 0 then (xseg g).places.set (m.lsn - 1).toNat (1, m.epoch, m.value) else (xseg g).places := by
    apply List.ext_getElem?
    intro i
    by_cases hi : i < 40
    · rw [List.getElem?_map, List.getElem?_range hi]
      simp only [Option.map_some, come_pl]
      by_cases hz : (plOf g.entries m.lsn).1 = 0
      · rw [if_pos hz]
        by_cases he : (i : Int) + 1 = m.lsn
        · rw [if_pos ⟨he, hz⟩, show i = (m.lsn - 1).toNat from by omega, List.getElem?_set_self (by rw [xseg_len]; omega)]
        · rw [if_neg (fun h => he h.1), List.getElem?_set_ne (by omega), xseg_get g i hi]
      · rw [if_neg hz, if_neg (fun h => hz h.2), xseg_get g i hi]
    · rw [List.getElem?_eq_none (by simp; omega), List.getElem?_eq_none (by split <;> simp [xseg_len] <;> omega)]
  by_cases hz : (plOf g.entries m.lsn).1 = 0
  · rw [if_pos hz] at hp ⊢
    exact seg_ext rfl rfl rfl hp.symm
  · rw [if_neg hz] at hp ⊢
    exact seg_ext rfl rfl rfl hp.symm
theorem xseg_value (g : RSeg) (h : EntsOk g.entries) (lsn : Int) : (xseg g).value lsn = recV (keptAt g.entries lsn) := by
  unfold XSeg.value recV
  rw [xseg_at g h]
  have hk := keptAt_pl g.entries lsn
  cases hka : keptAt g.entries lsn with
  | none =>
    rw [hka] at hk
    rw [if_neg (by intro h2; rw [h2] at hk; simp at hk)]; rfl
  | some e => rw [(keptAt_eq hka).2.1]; rfl
end Go.Proofs.Ytfpbkghcjaonlaa.Sim

/-
  The simulation: the program out of the document; what always holds.
-/
namespace Go.Proofs.Ytfpbkghcjaonlaa.Sim

def note3 (m : Msg) : Int × List (Int × Int) × List Int := (m.frm, m.cuts, m.marks)
def heardL (st : List Msg) : List Bool := (List.range 6).map fun (s : Nat) => heardIn st (s : Int)
def notedL (st : List Msg) : List Int := (List.range 6).map fun (s : Nat) => notedN st (s : Int)
/-- The program's writer, out of the document's. -/
def xpen (n : Int) (p : RPen) : XWr :=
  ⟨n, p.stands.phase, p.stands.base, p.stands.next, p.stands.dur, if p.over = true ∨ 4 ≤ p.fenced.length then [] else p.fenced.map note3,
    if p.over = true ∨ p.fenced.length < 4 then [] else decCuts p.fenced n, if p.over = true then [] else p.values, heardL p.status, notedL p.status⟩
/-- The program's volume, out of the document's. -/
def xvol (r : RVol) : XVol := ⟨r.wi, r.fl, liveOf r.net, r.segs.map xseg, r.pens.mapIdx fun i p => xpen ((i : Int) + 1) p⟩

/-- Writer number n has decided: it is p. -/
def Dec (pens : List RPen) (n : Int) (p : RPen) : Prop := ∃ i : Nat, n = (i : Int) + 1 ∧ pens[i]? = some p ∧ 4 ≤ p.fenced.length
def CutsInv (pens : List RPen) (l : List (Int × Int)) : Prop := l = [] ∨ ∃ n p, Dec pens n p ∧ l = decCuts p.fenced n
/-- A record that was appended. -/
def RecInv (pens : List RPen) (ep lsn v : Int) : Prop := 1 ≤ lsn ∧ lsn ≤ 40 ∧ ∃ p, Dec pens ep p ∧ (baseOf p.fenced : Int) < lsn ∧ p.values[(lsn - (baseOf p.fenced : Int) - 1).toNat]? = some v

/-- Pens only go on. -/
def PLe (pens pens' : List RPen) : Prop := pens.length ≤ pens'.length ∧ ∀ (i : Nat) (p : RPen), pens[i]? = some p → 4 ≤ p.fenced.length → ∃ p', pens'[i]? = some p' ∧ p'.fenced = p.fenced ∧ p.values <+: p'.values
theorem PLe.refl (pens : List RPen) : PLe pens pens := ⟨Nat.le_refl _, fun _ p h _ => ⟨p, h, rfl, List.prefix_refl _⟩⟩

structure MsgInv (pens : List RPen) (m : Msg) : Prop where
  to_ : MsgTo pens.length m
  kr : 1 ≤ m.kind ∧ m.kind ≤ 8
  ct : CutsInv pens m.cuts
  mrk : m.marks.length ≤ 40
  fr : m.kind = 2 ∨ m.kind = 4 ∨ m.kind = 5 ∨ m.kind = 7 → 0 ≤ m.frm ∧ m.frm < 6
  wr : m.kind = 1 ∨ m.kind = 3 ∨ m.kind = 6 → m.frm = m.epoch ∧ 1 ≤ m.epoch ∧ m.epoch ≤ (pens.length : Int)
  k2 : m.kind = 2 → topOf m.cuts ≤ m.to_
  k3 : m.kind = 3 → ∃ p, Dec pens m.epoch p ∧ m.cuts = decCuts p.fenced m.epoch
  k4 : m.kind = 4 → 0 ≤ m.scl ∧ ∃ p, Dec pens m.to_ p ∧ m.scl ≤ (baseOf p.fenced : Int) + (p.values.length : Int)
  k68 : m.kind = 6 ∨ m.kind = 8 → RecInv pens m.epoch m.lsn m.value

structure SegInv (pens : List RPen) (g : RSeg) : Prop where
  ents : EntsOk g.entries
  ct : CutsInv pens g.cuts
  top : topOf g.cuts ≤ g.epoch
  recs : ∀ e ∈ g.entries, e.gone = false → RecInv pens e.epoch e.lsn e.value ∧ good g.cuts e.lsn e.epoch = true

structure PenInv (pens : List RPen) (wi : Int) (n : Int) (p : RPen) : Prop where
  f4 : p.fenced.length ≤ 4
  fm : ∀ m ∈ p.fenced, CutsInv pens m.cuts ∧ m.marks.length ≤ 40 ∧ 0 ≤ m.frm ∧ m.frm < 6 ∧ topOf m.cuts ≤ n
  few : p.fenced.length < 4 → p.status = [] ∧ p.values = []
  sm : ∀ m ∈ p.status, 0 ≤ m.scl ∧ m.scl ≤ (baseOf p.fenced : Int) + (p.values.length : Int) ∧ 0 ≤ m.frm ∧ m.frm < 6
  ov : p.over = true → p.a0 = 4 ∧ 0 ≤ p.a1 ∧ p.a1 ≤ 40 ∧ 0 ≤ p.a3 ∧ p.a3 ≤ 40 ∧ 0 ≤ p.a2
  n40 : baseOf p.fenced + p.values.length ≤ 40
  shut : fourOf p.status (baseOf p.fenced : Int) = false → p.values = []
  win : 4 ≤ p.fenced.length → fourOf p.status (baseOf p.fenced : Int) = true → (baseOf p.fenced : Int) + (p.values.length : Int) ≤ (durUp p.status (baseOf p.fenced) (p.values.length + 1) : Int) + wi
  srt : 4 ≤ p.fenced.length → (decCuts p.fenced n).Pairwise (fun a b => a.1 < b.1)
  len : 4 ≤ p.fenced.length → ((decCuts p.fenced n).length : Int) ≤ n
  pos : 4 ≤ p.fenced.length → ∀ c ∈ decCuts p.fenced n, 1 ≤ c.1

structure Inv (r : RVol) : Prop where
  wi : 1 ≤ r.wi ∧ r.wi ≤ 8
  fl : 1 ≤ r.fl ∧ r.fl ≤ 200
  s6 : r.segs.length = 6
  p9 : r.pens.length ≤ 9
  net : ∀ q ∈ r.net, MsgInv r.pens q.1
  segs : ∀ g ∈ r.segs, SegInv r.pens g
  pens : ∀ (i : Nat) (p : RPen), r.pens[i]? = some p → PenInv r.pens r.wi ((i : Int) + 1) p
  fly : (flightOf r.net : Int) ≤ r.fl

theorem Dec.mono {pens pens' : List RPen} (h : PLe pens pens') {n : Int} {p : RPen} (d : Dec pens n p) : ∃ p', Dec pens' n p' ∧ p'.fenced = p.fenced ∧ p.values <+: p'.values := by
  obtain ⟨i, hn, hi, h4⟩ := d
  obtain ⟨p', h1, h2, h3⟩ := h.2 i p hi h4
  exact ⟨p', ⟨i, hn, h1, by rw [h2]; exact h4⟩, h2, h3⟩
theorem CutsInv.mono {pens pens' : List RPen} (h : PLe pens pens') {l : List (Int × Int)} (c : CutsInv pens l) : CutsInv pens' l := by
  rcases c with rfl | ⟨n, p, d, rfl⟩
  · exact .inl rfl
  · obtain ⟨p', d', hf, _⟩ := d.mono h
    exact .inr ⟨n, p', d', by rw [hf]⟩
theorem RecInv.mono {pens pens' : List RPen} (h : PLe pens pens') {ep lsn v : Int} (c : RecInv pens ep lsn v) : RecInv pens' ep lsn v := by
  obtain ⟨h1, h2, p, d, h3, h4⟩ := c
  obtain ⟨p', d', hf, hv⟩ := d.mono h
  refine ⟨h1, h2, p', d', by rw [hf]; exact h3, ?_⟩
  rw [hf]
  obtain ⟨t, ht⟩ := hv
  rw [← ht]
  obtain ⟨hl, he⟩ := List.getElem?_eq_some_iff.1 h4
  rw [List.getElem?_append_left hl]; exact h4
theorem MsgInv.mono {pens pens' : List RPen} (h : PLe pens pens') {m : Msg} (c : MsgInv pens m) : MsgInv pens' m := by
  refine ⟨?_, c.kr, c.ct.mono h, c.mrk, c.fr, fun hk => ?_, c.k2, fun hk => ?_, fun hk => ?_, fun hk => (c.k68 hk).mono h⟩
  · have := c.to_
    unfold MsgTo at *
    split
    · rename_i hk; rw [if_pos hk] at this; exact ⟨this.1, by have := h.1; omega⟩
    · rename_i hk; rw [if_neg hk] at this; exact this
  · have := c.wr hk
    exact ⟨this.1, this.2.1, by have := h.1; omega⟩
  · obtain ⟨p, d, hc⟩ := c.k3 hk
    obtain ⟨p', d', hf, _⟩ := d.mono h
    exact ⟨p', d', by rw [hf]; exact hc⟩
  · obtain ⟨h0, p, d, hc⟩ := c.k4 hk
    obtain ⟨p', d', hf, hv⟩ := d.mono h
    exact ⟨h0, p', d', by rw [hf]; have := hv.length_le; omega⟩
theorem SegInv.mono {pens pens' : List RPen} (h : PLe pens pens') {g : RSeg} (c : SegInv pens g) : SegInv pens' g := ⟨c.ents, c.ct.mono h, c.top, fun e he hg => ⟨(c.recs e he hg).1.mono h, (c.recs e he hg).2⟩⟩
theorem PenInv.mono {pens pens' : List RPen} (h : PLe pens pens') {wi n : Int} {p : RPen} (c : PenInv pens wi n p) : PenInv pens' wi n p :=
  ⟨c.f4, fun m hm => ⟨(c.fm m hm).1.mono h, (c.fm m hm).2⟩, c.few, c.sm, c.ov, c.n40, c.shut, c.win, c.srt, c.len, c.pos⟩

theorem Inv.pens_one {r : RVol} (h : Inv r) (i : Nat) (p : RPen) (hle : PLe r.pens (r.pens.set i p)) (hp : PenInv (r.pens.set i p) r.wi ((i : Int) + 1) p) : Inv { r with pens := r.pens.set i p } := by
  refine ⟨h.wi, h.fl, h.s6, by simpa using h.p9, fun q hq => (h.net q hq).mono hle, fun g hg => (h.segs g hg).mono hle, fun j q hq => ?_, h.fly⟩
  simp only at hq ⊢
  rw [List.getElem?_set] at hq
  by_cases e : i = j
  · subst e
    rw [if_pos rfl] at hq
    split at hq
    · have := Option.some.inj hq
      subst this
      exact hp
    · simp at hq
  · rw [if_neg e] at hq
    exact (h.pens j q hq).mono hle
theorem PLe.set {pens : List RPen} {i : Nat} {p p' : RPen} (hi : pens[i]? = some p) (h : 4 ≤ p.fenced.length → p'.fenced = p.fenced ∧ p.values <+: p'.values) : PLe pens (pens.set i p') := by
  refine ⟨by simp, fun j q hq h4 => ?_⟩
  rw [List.getElem?_set]
  by_cases e : i = j
  · subst e
    rw [hi] at hq
    have := Option.some.inj hq
    subst this
    rw [if_pos rfl, if_pos (List.getElem?_eq_some_iff.1 hi).1]
    exact ⟨p', rfl, h h4⟩
  · rw [if_neg e]
    exact ⟨q, hq, rfl, List.prefix_refl _⟩

theorem Inv.seg_one {r : RVol} (h : Inv r) (i : Nat) (g : RSeg) (hg : SegInv r.pens g) : Inv (r.setSeg i g) :=
  ⟨h.wi, h.fl, by simpa [RVol.setSeg] using h.s6, h.p9, h.net, fun q hq => by
    rcases List.mem_or_eq_of_mem_set hq with h1 | rfl
    · exact h.segs q h1
    · exact hg, h.pens, h.fly⟩
theorem fly_send {fl : Int} {net : List (Msg × Bool)} (h : (flightOf net : Int) ≤ fl) (m : Msg) : (flightOf (sendNet fl net m) : Int) ≤ fl := by
  rw [← liveOf_len, liveOf_send, liveOf_len]
  split
  · rw [liveOf_len]; exact h
  · rename_i h2
    simp only [List.length_append, List.length_singleton, liveOf_len]; omega
theorem flight_set (m : Msg) : ∀ (net : List (Msg × Bool)) (i : Nat), flightOf (net.set i (m, true)) ≤ flightOf net
  | [], _ => Nat.le_refl _
  | (a, b) :: r, 0 => by simp only [List.set_cons_zero, flightOf]; cases b <;> simp
  | (a, b) :: r, i + 1 => by
    have := flight_set m r i
    simp only [List.set_cons_succ, flightOf] at this ⊢
    cases b <;> simp <;> omega
theorem Inv.send {r : RVol} (h : Inv r) (m : Msg) (hm : MsgInv r.pens m) : Inv (r.send m) := by
  refine ⟨h.wi, h.fl, h.s6, h.p9, fun q hq => ?_, h.segs, h.pens, fly_send h.fly m⟩
  simp only [RVol.send] at hq
  unfold sendNet at hq
  split at hq
  · rcases List.mem_append.1 hq with h1 | h1
    · exact h.net q h1
    · rw [List.mem_singleton.1 h1]; exact hm
  · exact h.net q hq
theorem Inv.goneV {r : RVol} (h : Inv r) (i : Nat) : Inv (r.goneV i) := by
  have hf : (flightOf (goneAt r.net i) : Int) ≤ r.fl := by
    unfold goneAt
    split
    · rename_i p _
      have := flight_set p.1 r.net i
      have := h.fly
      omega
    · exact h.fly
  refine ⟨h.wi, h.fl, h.s6, h.p9, fun q hq => ?_, h.segs, h.pens, hf⟩
  simp only [RVol.goneV, goneAt] at hq
  split at hq
  · rename_i p hp
    rcases List.mem_or_eq_of_mem_set hq with h1 | rfl
    · exact h.net q h1
    · exact h.net p (List.mem_of_getElem? hp)
  · exact h.net q hq

theorem xvol_send (r : RVol) (m : Msg) : xvol (r.send m) = (xvol r).send m := by
  unfold xvol RVol.send XVol.send
  simp only [liveOf_send]
  split <;> rfl
theorem xvol_sendO (r : RVol) (o : Option Msg) : xvol (r.sendO o) = (xvol r).sendO o := by
  cases o with
  | none => rfl
  | some m => exact xvol_send r m
theorem XVol.sendAll_snoc (x : XVol) (l : List Msg) (m : Msg) : x.sendAll (l ++ [m]) = (x.sendAll l).send m := by unfold XVol.sendAll; rw [List.foldl_append]; rfl
theorem xvol_sendsUp (r : RVol) (f : Nat → Option Msg) : ∀ n, xvol (r.sendsUp f n) = (xvol r).sendAll ((List.range n).filterMap f)
  | 0 => rfl
  | n + 1 => by
    simp only [RVol.sendsUp]
    rw [xvol_sendO, xvol_sendsUp r f n, List.range_succ, List.filterMap_append]
    cases h : f n with
    | none => simp [h, XVol.sendO]
    | some m => simp only [List.filterMap_cons, h, List.filterMap_nil]; rw [XVol.sendAll_snoc]; rfl
theorem sendUp_eq (r : RVol) (f : Nat → Msg) : ∀ n, r.sendUp f n = r.sendsUp (fun s => some (f s)) n
  | 0 => rfl
  | n + 1 => by simp only [RVol.sendUp, RVol.sendsUp, sendUp_eq r f n]; rfl
theorem RVol.sendsUp_pens (r : RVol) (f : Nat → Option Msg) : ∀ n, (r.sendsUp f n).pens = r.pens
  | 0 => rfl
  | n + 1 => by
    simp only [RVol.sendsUp]
    cases f n with
    | none => exact RVol.sendsUp_pens r f n
    | some m => exact RVol.sendsUp_pens r f n
theorem Inv.sendsUp {r : RVol} (h : Inv r) (f : Nat → Option Msg) : ∀ n, (∀ s, s < n → ∀ m, f s = some m → MsgInv r.pens m) → Inv (r.sendsUp f n)
  | 0, _ => h
  | n + 1, hm => by
    have ih := Inv.sendsUp h f n (fun s hs => hm s (by omega))
    simp only [RVol.sendsUp]
    cases hf : f n with
    | none => exact ih
    | some m => exact ih.send m (by rw [RVol.sendsUp_pens]; exact hm n (by omega) m hf)

theorem xvol_seg (r : RVol) (i : Nat) (g : RSeg) : xvol (r.setSeg i g) = (xvol r).setSeg i (xseg g) := by
  unfold xvol RVol.setSeg XVol.setSeg; simp only [List.map_set]
theorem mapIdx_set {A B : Type} (f : Nat → A → B) (l : List A) (i : Nat) (a : A) : (l.set i a).mapIdx f = (l.mapIdx f).set i (f i a) := by
  apply List.ext_getElem?
  intro j
  rw [List.getElem?_mapIdx, List.getElem?_set, List.getElem?_set, List.getElem?_mapIdx]
  simp only [List.length_mapIdx]
  by_cases e : i = j
  · subst e
    rw [if_pos rfl, if_pos rfl]
    split <;> rfl
  · rw [if_neg e, if_neg e]
theorem xvol_pen (r : RVol) (i : Nat) (p : RPen) : xvol (r.setPen i p) = (xvol r).setWr i (xpen ((i : Int) + 1) p) := by
  unfold xvol RVol.setPen XVol.setWr; simp only [mapIdx_set]
theorem xvol_gone (r : RVol) (n : Int) (i : Nat) (h : placeE r.net n = some i) : xvol (r.goneV i) = (xvol r).taken n := by
  unfold placeE at h
  split at h
  · simp at h
  · obtain ⟨_, _, _, h3⟩ := (liveOf_place r.net n.toNat).1 i h
    unfold xvol RVol.goneV XVol.taken
    simp only [h3]
theorem xvol_look (r : RVol) (n : Int) : (xvol r).look n = (placeE r.net n).bind fun i => r.net[i]?.map (·.1) := by
  unfold XVol.look placeE xvol
  simp only
  split
  · rfl
  · cases hp : placeOf r.net n.toNat with
    | none => exact (liveOf_place r.net n.toNat).2 hp
    | some i =>
      obtain ⟨hi, h1, _, _⟩ := (liveOf_place r.net n.toNat).1 i hp
      rw [h1]; simp [hi]
theorem xvol_wrAt (r : RVol) (n : Int) : (xvol r).wrAt n = (writerAt r.pens n).map (xpen n) := by
  unfold XVol.wrAt writerAt xvol
  simp only
  split
  · rfl
  · rw [List.getElem?_mapIdx, show ((n.toNat - 1 : Nat) : Int) + 1 = n from by omega]
theorem xvol_segAt (r : RVol) (n : Int) : (xvol r).segAt n = (if n < 0 then none else r.segs[n.toNat]?).map xseg := by
  unfold XVol.segAt xvol
  simp only
  split
  · rfl
  · rw [List.getElem?_map]
end Go.Proofs.Ytfpbkghcjaonlaa.Sim
