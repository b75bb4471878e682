/-
  sixfoldref: entry, kept, Scl, epoch, list.
-/
import Derived.Test.YtfpbkghcjaonlaaGreatRefB
namespace Go.Proofs.YtfpbkghcjaonlaaGreat
open Go.RowKit

structure Ent where
  lsn : Int
  epoch : Int
  value : Int
  kept : Bool
  gone : Bool

def entRow (e : Ent) : List Value := [.int .i64 e.lsn, .int .i64 e.epoch, .int .i64 e.value, .bool e.kept, .bool e.gone]

theorem ents_cells {k : Nat → Nat} {w : World} {c : Nat} {v : Value} {l : List Ent} (h : Rows k w c 141 5 v (l.map entRow)) :
    ∃ a cap, v = .slice a l.length cap ∧ ∀ i, (hi : i < l.length) → ∃ b, a = some ⟨b, 0, none⟩ ∧ k b = c ∧ w.cell? ⟨b, i * 5, none⟩ = some (.int .i64 l[i].lsn) ∧ w.cell? ⟨b, i * 5 + 1, none⟩ = some (.int .i64 l[i].epoch) ∧
      w.cell? ⟨b, i * 5 + 2, none⟩ = some (.int .i64 l[i].value) ∧ w.cell? ⟨b, i * 5 + 3, none⟩ = some (.bool l[i].kept) ∧ w.cell? ⟨b, i * 5 + 4, none⟩ = some (.bool l[i].gone) ∧ ∀ j, w.frozen? ⟨b, j, none⟩ = false := by
  obtain ⟨a, cap, rfl, _⟩ := h.form
  refine ⟨a, cap, by simp, fun i hi => ?_⟩
  obtain ⟨b, cap', hv, hk, _, _, hc, hf⟩ := h.at (by simp; omega)
  simp at hv
  have f := fun j hj => hc i j (by simpa using hi) hj
  refine ⟨b, hv.1, hk, ?_, ?_, ?_, ?_, ?_, hf⟩
  · simpa [entRow] using f 0 (by omega)
  · simpa [entRow] using f 1 (by omega)
  · simpa [entRow] using f 2 (by omega)
  · simpa [entRow] using f 3 (by omega)
  · simpa [entRow] using f 4 (by omega)

def entHit (lsn : Int) (e : Ent) : Bool := !e.gone && e.lsn == lsn
def entIdx (l : List Ent) (lsn : Int) : Option Nat := l.findIdx? (entHit lsn)
def entI (l : List Ent) (lsn : Int) : Int := ((entIdx l lsn).map (fun i => (i : Int))).getD (-1)

theorem entI_hit (l : List Ent) (lsn : Int) (j : Nat) (h : j < l.length) (hno : ∀ i, (hi : i < j) → entHit lsn (l[i]'(by omega)) = false) (hy : entHit lsn l[j] = true) : entI l lsn = j := by
  unfold entI entIdx
  have : l.findIdx? (entHit lsn) = some j := by
    rw [List.findIdx?_eq_some_iff_getElem]
    exact ⟨h, hy, fun i hi => by simp [hno i hi]⟩
  rw [this]; rfl
theorem entI_none (l : List Ent) (lsn : Int) (hno : ∀ i, (hi : i < l.length) → entHit lsn l[i] = false) : entI l lsn = -1 := by
  unfold entI entIdx
  have : l.findIdx? (entHit lsn) = none := by
    rw [List.findIdx?_eq_none_iff]
    intro x hx
    obtain ⟨i, hi, rfl⟩ := List.mem_iff_getElem.1 hx
    simpa using hno i hi
  rw [this]; rfl

set_option maxHeartbeats 1000000 in
theorem entry_any {k : Nat → Nat} {w : World} {c b : Nat} {v : Value} {l : List Ent} (lsn : Int) (hb : w.cell? ⟨b, 3, none⟩ = some v) (h : Rows k w c 141 5 v (l.map entRow)) (hl : l.length ≤ 4000000000) :
    Calls Tryz.prog 109 #[.pointer (some ⟨b, 0, none⟩), .int .i64 lsn] w fun e w' => e = .returned (.int .i64 (entI l lsn)) ∧ w' = w := by
  obtain ⟨a, cap, rfl, hc⟩ := ents_cells h
  clear h
  go_enter Tryz.func109, Tryz.ntmps109
  go_wp2
  go_loop [5] (fun i => ∃ j : Nat, j ≤ l.length ∧ i = .int .i64 j ∧ Hid (∀ x, (hx : x < j) → (hx2 : x < l.length) → entHit lsn l[x] = false)) (fun i => l.length - (intOf i).toNat)
  case atStart => exact ⟨0, Nat.zero_le _, rfl, hide (fun x hx => absurd hx (Nat.not_lt_zero _))⟩
  case round =>
    obtain ⟨j, hk, rfl, hno⟩ := hrel
    by_cases hlt : j < l.length
    · obtain ⟨g, rfl, _, h0, _, _, _, h4, _⟩ := hc j hlt
      have hit : entHit lsn l[j] = (!l[j].gone && l[j].lsn == lsn) := rfl
      have HH := hide hit
      clear hit
      have HN : Hid (entHit lsn l[j] = false → ∀ x, (hx : x < j + 1) → (hx2 : x < l.length) → entHit lsn l[x] = false) := hide (fun hf x hx hx2 => by
        rcases Nat.lt_succ_iff_lt_or_eq.1 hx with h | h
        · exact hno.out x h hx2
        · subst h; exact hf)
      have HY : Hid (entHit lsn l[j] = true → entI l lsn = j) := hide (fun hy => entI_hit l lsn j hlt (fun i hi => hno.out i hi (by omega)) hy)
      clear hno
      cases hg : l[j].gone
      · rw [hg] at h4
        by_cases he : l[j].lsn = lsn
        · have he' : (l[j].lsn == lsn) = true := by simpa using he
          have HE := hide (HY.out (by rw [HH.out, hg, he']; rfl))
          clear he hg HH HN HY
          go_wp2
          go_ret
          exact ⟨by rw [HE.out]; rfl, rfl⟩
        · have he' : (l[j].lsn == lsn) = false := by simpa using he
          have HE := hide (HN.out (by rw [HH.out, hg, he']; rfl))
          clear he hg HH HN HY
          go_wp2
          go_round
          case rel => exact ⟨j + 1, by omega, by go_num, HE⟩
          case measure => simp [intOf]; omega
      · rw [hg] at h4
        have HE := hide (HN.out (by rw [HH.out, hg]; rfl))
        clear hg HH HN HY
        go_wp2
        go_round
        case rel => exact ⟨j + 1, by omega, by go_num, HE⟩
        case measure => simp [intOf]; omega
    · have HE := hide (entI_none l lsn (fun i hi => hno.out i (by omega) hi))
      clear hno
      go_wp2
      go_ret
      exact ⟨by rw [HE.out]; rfl, rfl⟩

/-- The record of a number, if it is kept: the zero one else. -/
def keptAt (l : List Ent) (lsn : Int) : Option Ent := (entIdx l lsn).bind fun i => l[i]?.bind fun e => if e.kept then some e else none
theorem entI_cases (l : List Ent) (lsn : Int) : (entI l lsn = -1 ∧ entIdx l lsn = none) ∨ ∃ i, (hi : i < l.length) → entI l lsn = (i : Int) ∧ entIdx l lsn = some i ∧ entHit lsn l[i] = true := by
  unfold entI
  cases h : entIdx l lsn with
  | none => exact .inl ⟨rfl, rfl⟩
  | some i => exact .inr ⟨i, fun hi => ⟨rfl, rfl, by
      have := (List.findIdx?_eq_some_iff_getElem.1 h).2.1; exact this⟩⟩
theorem entIdx_lt {l : List Ent} {lsn : Int} {i : Nat} (h : entIdx l lsn = some i) : i < l.length := (List.findIdx?_eq_some_iff_getElem.1 h).1

/-- What kept hands back. -/
def recVal (o : Option Ent) : Value := match o with | some e => .agg #[.int .i64 e.lsn, .int .i64 e.epoch, .int .i64 e.value] | none => .agg #[.int .i64 0, .int .i64 0, .int .i64 0]

set_option maxHeartbeats 1000000 in
theorem kept_none (w : World) (b : Nat) (lsn : Int)
    (hcall : ∀ W, Below w.heap.size w W → Calls Tryz.prog 109 #[.pointer (some ⟨b, 0, none⟩), .int .i64 lsn] W fun e w' => e = .returned (.int .i64 (-1)) ∧ w' = W) :
    Calls Tryz.prog 84 #[.pointer (some ⟨b, 0, none⟩), .int .i64 lsn] w fun e w' => e = .returned (.tuple #[.agg #[.int .i64 0, .int .i64 0, .int .i64 0], .bool false]) ∧ Below w.heap.size w w' := by
  have HC := hide hcall
  clear hcall
  go_enter Tryz.func84, Tryz.ntmps84
  go_wp2_with fail
  refine (HC.out _ ((Below.refl _ _).alloc (Nat.le_refl _) _)).mono ?_
  rintro e w1 ⟨rfl, rfl⟩
  go_wp2_with fail
  exact bodyPost_ret (v := .tuple #[.agg #[.int .i64 0, .int .i64 0, .int .i64 0], .bool false]) (by simp [results, Tryz.results84, go_sem]) rfl ⟨rfl, (Below.refl _ _).alloc (Nat.le_refl _) _⟩

set_option maxHeartbeats 1000000 in
theorem kept_some (w : World) (b g n cap i : Nat) (lsn : Int) (e0 : Ent) (hin : i < n) (hb : w.cell? ⟨b, 3, none⟩ = some (.slice (some ⟨g, 0, none⟩) n cap)) (hbl : b < w.heap.size) (hgl : g < w.heap.size)
    (h0 : w.cell? ⟨g, i * 5, none⟩ = some (.int .i64 e0.lsn)) (h1 : w.cell? ⟨g, i * 5 + 1, none⟩ = some (.int .i64 e0.epoch)) (h2 : w.cell? ⟨g, i * 5 + 2, none⟩ = some (.int .i64 e0.value)) (h3 : w.cell? ⟨g, i * 5 + 3, none⟩ = some (.bool e0.kept))
    (hcall : ∀ W, Below w.heap.size w W → Calls Tryz.prog 109 #[.pointer (some ⟨b, 0, none⟩), .int .i64 lsn] W fun e w' => e = .returned (.int .i64 i) ∧ w' = W) :
    Calls Tryz.prog 84 #[.pointer (some ⟨b, 0, none⟩), .int .i64 lsn] w fun e w' => e = .returned (.tuple #[recVal (if e0.kept then some e0 else none), .bool e0.kept]) ∧ Below w.heap.size w w' := by
  have HC := hide hcall
  clear hcall
  cases hk : e0.kept
  · rw [hk] at h3
    go_enter Tryz.func84, Tryz.ntmps84
    go_wp2_with fail
    refine (HC.out _ ((Below.refl _ _).alloc (Nat.le_refl _) _)).mono ?_
    rintro e w1 ⟨rfl, rfl⟩
    go_wp2_with fail
    exact bodyPost_ret (v := .tuple #[.agg #[.int .i64 0, .int .i64 0, .int .i64 0], .bool false]) (by simp [results, Tryz.results84, go_sem]) rfl ⟨rfl, (Below.refl _ _).alloc (Nat.le_refl _) _⟩
  · rw [hk] at h3
    go_enter Tryz.func84, Tryz.ntmps84
    go_wp2_with fail
    refine (HC.out _ ((Below.refl _ _).alloc (Nat.le_refl _) _)).mono ?_
    rintro e w1 ⟨rfl, rfl⟩
    go_wp2_with fail
    exact bodyPost_ret (v := .tuple #[.agg #[.int .i64 e0.lsn, .int .i64 e0.epoch, .int .i64 e0.value], .bool true]) (by simp [results, Tryz.results84, go_sem]) rfl ⟨rfl, (Below.refl _ _).alloc (Nat.le_refl _) _⟩

theorem kept_any {k : Nat → Nat} {w : World} {c b : Nat} {v : Value} {l : List Ent} (lsn : Int) (hb : w.cell? ⟨b, 3, none⟩ = some v) (h : Rows k w c 141 5 v (l.map entRow)) (hl : l.length ≤ 4000000000) :
    Calls Tryz.prog 84 #[.pointer (some ⟨b, 0, none⟩), .int .i64 lsn] w fun e w' => e = .returned (.tuple #[recVal (keptAt l lsn), .bool (keptAt l lsn).isSome]) ∧ Below w.heap.size w w' := by
  have hbl := World.block_lt_of_cell? w _ hb
  have hcall : ∀ W, Below w.heap.size w W → Calls Tryz.prog 109 #[.pointer (some ⟨b, 0, none⟩), .int .i64 lsn] W fun e w' => e = .returned (.int .i64 (entI l lsn)) ∧ w' = W := fun W hW =>
    entry_any lsn ((hW.cell hbl).trans hb) (h.evo (Evo.of_below (C := noC) hW) (noC_not _)) hl
  cases hi : entIdx l lsn with
  | none =>
    have e1 : entI l lsn = -1 := by unfold entI; rw [hi]; rfl
    rw [e1] at hcall
    have e2 : keptAt l lsn = none := by unfold keptAt; rw [hi]; rfl
    rw [e2]
    exact kept_none w b lsn hcall
  | some i =>
    have hlt := entIdx_lt hi
    have e1 : entI l lsn = i := by unfold entI; rw [hi]; rfl
    rw [e1] at hcall
    have e2 : keptAt l lsn = if l[i].kept then some l[i] else none := by unfold keptAt; rw [hi]; simp [hlt]
    rw [e2]
    obtain ⟨a, cap, rfl, hc⟩ := ents_cells h
    obtain ⟨g, rfl, _, h0, h1, h2, h3, _⟩ := hc i hlt
    have := kept_some w b g l.length cap i lsn l[i] hlt hb hbl (World.block_lt_of_cell? w _ h0) h0 h1 h2 h3 hcall
    cases hk : l[i].kept <;> simpa [hk] using this
end Go.Proofs.YtfpbkghcjaonlaaGreat
