/-
  sixfoldlaw: cutMark, recordMark, sameCuts, sameRecords, sameInts.
-/
import Derived.Test.YtfpbkghcjaonlaaGreatRefK
namespace Go.Proofs.YtfpbkghcjaonlaaGreat
open Go.RowKit

def cutMk (m : Nat) : List Value := [.int .i64 (-1 - (m : Int)), .int .i64 (-1)]
def recMk (m : Nat) : List Value := [.int .i64 (-1 - (m : Int)), .int .i64 (-1), .int .i64 (-1)]
def intMk (m : Nat) : List Value := [.int .i64 (-1 - (m : Int))]

set_option maxHeartbeats 400000 in
theorem cutMark_any (w : World) (m : Nat) (hm : m ≤ 40000000000) :
    Calls Tryz.prog 19 #[.int .i64 m] w fun e w' => e = .returned (.agg #[.int .i64 (-1 - (m : Int)), .int .i64 (-1)]) ∧ Below w.heap.size w w' := by
  go_enter Tryz.func19, Tryz.ntmps19
  go_wp2
  exact bodyPost_ret (v := .agg #[.int .i64 (-1 - (m : Int)), .int .i64 (-1)]) (by simp [results, Tryz.results19, go_sem]) rfl ⟨rfl, (Below.refl _ _).alloc (Nat.le_refl _) _⟩

set_option maxHeartbeats 400000 in
theorem recordMark_any (w : World) (m : Nat) (hm : m ≤ 40000000000) :
    Calls Tryz.prog 20 #[.int .i64 m] w fun e w' => e = .returned (.agg #[.int .i64 (-1 - (m : Int)), .int .i64 (-1), .int .i64 (-1)]) ∧ Below w.heap.size w w' := by
  go_enter Tryz.func20, Tryz.ntmps20
  go_wp2
  exact bodyPost_ret (v := .agg #[.int .i64 (-1 - (m : Int)), .int .i64 (-1), .int .i64 (-1)]) (by simp [results, Tryz.results20, go_sem]) rfl ⟨rfl, (Below.refl _ _).alloc (Nat.le_refl _) _⟩

theorem recs_cells {k : Nat → Nat} {w : World} {c : Nat} {v : Value} {l : List Ent} (h : Rows k w c 59 3 v (l.map recRow)) :
    ∃ a cap, v = .slice a l.length cap ∧ ∀ i, (hi : i < l.length) → ∃ b, a = some ⟨b, 0, none⟩ ∧ w.cell? ⟨b, i * 3, none⟩ = some (.int .i64 l[i].lsn) ∧ w.cell? ⟨b, i * 3 + 1, none⟩ = some (.int .i64 l[i].epoch) ∧ w.cell? ⟨b, i * 3 + 2, none⟩ = some (.int .i64 l[i].value) := by
  obtain ⟨a, cap, rfl, _⟩ := h.form
  refine ⟨a, cap, by simp, fun i hi => ?_⟩
  obtain ⟨b, cap', hv, _, _, _, hc, _⟩ := h.at (by simp; omega)
  simp at hv
  have f := fun j hj => hc i j (by simpa using hi) hj
  refine ⟨b, hv.1, ?_, ?_, ?_⟩
  · simpa [recRow] using f 0 (by omega)
  · simpa [recRow] using f 1 (by omega)
  · simpa [recRow] using f 2 (by omega)

set_option maxHeartbeats 1000000 in
theorem sameCuts_yes {k k2 : Nat → Nat} {w : World} {c c2 : Nat} {v v2 : Value} {l : List (Int × Int)} (h : Rows k w c 53 2 v (l.map cutRow)) (h2 : Rows k2 w c2 53 2 v2 (l.map cutRow)) (hl : l.length ≤ 4000000000) :
    Calls Tryz.prog 53 #[v, v2] w fun e w' => e = .returned (.bool true) ∧ Below w.heap.size w w' := by
  obtain ⟨a, cap, rfl, hc⟩ := cuts_cells h
  obtain ⟨a2, cap2, rfl, hc2⟩ := cuts_cells h2
  clear h h2
  go_enter Tryz.func53, Tryz.ntmps53
  go_wp2
  go_loopw [5] (fun i wr => (∃ n, wr = w.drewN n) ∧ ∃ j : Nat, j ≤ l.length ∧ i = .int .i64 j) (fun i _ => l.length - (intOf i).toNat)
  case atStart => exact ⟨⟨0, rfl⟩, 0, Nat.zero_le _, rfl⟩
  case round =>
    obtain ⟨⟨n0, rfl⟩, j, hj, rfl⟩ := hrel
    by_cases hlt : j < l.length
    · obtain ⟨b, rfl, p0, p1⟩ := hc j hlt
      obtain ⟨b2, rfl, q0, q1⟩ := hc2 j hlt
      go_wp2
      go_quiet (fail)
      go_wp2
      go_roundw
      case rel => exact ⟨⟨_, rfl⟩, j + 1, by omega, by go_num⟩
      case measure => simp [intOf]; omega
    · go_wp2
      go_ret
      exact ⟨rfl, below_drewN (Below.refl _ _) _⟩

set_option maxHeartbeats 1000000 in
theorem sameRecords_yes {k k2 : Nat → Nat} {w : World} {c c2 : Nat} {v v2 : Value} {l : List Ent} (h : Rows k w c 59 3 v (l.map recRow)) (h2 : Rows k2 w c2 59 3 v2 (l.map recRow)) (hl : l.length ≤ 4000000000) :
    Calls Tryz.prog 54 #[v, v2] w fun e w' => e = .returned (.bool true) ∧ Below w.heap.size w w' := by
  obtain ⟨a, cap, rfl, hc⟩ := recs_cells h
  obtain ⟨a2, cap2, rfl, hc2⟩ := recs_cells h2
  clear h h2
  go_enter Tryz.func54, Tryz.ntmps54
  go_wp2
  go_loopw [5] (fun i wr => (∃ n, wr = w.drewN n) ∧ ∃ j : Nat, j ≤ l.length ∧ i = .int .i64 j) (fun i _ => l.length - (intOf i).toNat)
  case atStart => exact ⟨⟨0, rfl⟩, 0, Nat.zero_le _, rfl⟩
  case round =>
    obtain ⟨⟨n0, rfl⟩, j, hj, rfl⟩ := hrel
    by_cases hlt : j < l.length
    · obtain ⟨b, rfl, p0, p1, p2⟩ := hc j hlt
      obtain ⟨b2, rfl, q0, q1, q2⟩ := hc2 j hlt
      go_wp2
      go_quiet (fail)
      go_wp2
      go_roundw
      case rel => exact ⟨⟨_, rfl⟩, j + 1, by omega, by go_num⟩
      case measure => simp [intOf]; omega
    · go_wp2
      go_ret
      exact ⟨rfl, below_drewN (Below.refl _ _) _⟩

set_option maxHeartbeats 1000000 in
theorem sameInts_yes {k k2 : Nat → Nat} {w : World} {c c2 : Nat} {v v2 : Value} {l : List Int} (h : Rows k w c 3 1 v (l.map intRow)) (h2 : Rows k2 w c2 3 1 v2 (l.map intRow)) (hl : l.length ≤ 4000000000) :
    Calls Tryz.prog 61 #[v, v2] w fun e w' => e = .returned (.bool true) ∧ Below w.heap.size w w' := by
  obtain ⟨a, cap, rfl, hc⟩ := ints_cells h
  obtain ⟨a2, cap2, rfl, hc2⟩ := ints_cells h2
  clear h h2
  go_enter Tryz.func61, Tryz.ntmps61
  go_wp2
  go_loopw [5] (fun i wr => (∃ n, wr = w.drewN n) ∧ ∃ j : Nat, j ≤ l.length ∧ i = .int .i64 j) (fun i _ => l.length - (intOf i).toNat)
  case atStart => exact ⟨⟨0, rfl⟩, 0, Nat.zero_le _, rfl⟩
  case round =>
    obtain ⟨⟨n0, rfl⟩, j, hj, rfl⟩ := hrel
    by_cases hlt : j < l.length
    · obtain ⟨b, rfl, p0⟩ := hc j hlt
      obtain ⟨b2, rfl, q0⟩ := hc2 j hlt
      go_wp2
      go_quiet (fail)
      go_wp2
      go_roundw
      case rel => exact ⟨⟨_, rfl⟩, j + 1, by omega, by go_num⟩
      case measure => simp [intOf]; omega
    · go_wp2
      go_ret
      exact ⟨rfl, below_drewN (Below.refl _ _) _⟩

/-- A list of the caller's: it reads as the caller has written it. -/
def OutOk (k : Nat → Nat) (w : World) (L : Nat → Prop) (e size : Nat) (mk : Nat → List Value) (r : List Value) : Prop :=
  ∃ v m n c, r = [v, .int .i64 (m : Nat)] ∧ m ≤ 4000000000 ∧ n ≤ 4100000000 ∧ L c ∧ Rows k w c e size v (List.replicate n (mk m))

def OutsOk (k : Nat → Nat) (w : World) (L : Nat → Prop) (c e1 e size : Nat) (mk : Nat → List Value) (v : Value) (n : Nat) : Prop :=
  ∃ rows, Rows k w c e1 2 v rows ∧ rows.length = n ∧ ∀ r ∈ rows, OutOk k w L e size mk r

theorem OutOk.evo {k k' : Nat → Nat} {w w' : World} {L : Nat → Prop} {e size : Nat} {mk : Nat → List Value} {r : List Value} {C : Nat → Prop} (h : OutOk k w L e size mk r) (g : Evo k k' C w w') (hc : ∀ c, L c → ¬ C c) : OutOk k' w' L e size mk r := by
  obtain ⟨v, m, n, c, hr, hm, hn, hL, hR⟩ := h
  exact ⟨v, m, n, c, hr, hm, hn, hL, hR.evo g (hc c hL)⟩
theorem OutsOk.evo {k k' : Nat → Nat} {w w' : World} {L : Nat → Prop} {c e1 e size : Nat} {mk : Nat → List Value} {v : Value} {n : Nat} {C : Nat → Prop} (h : OutsOk k w L c e1 e size mk v n) (g : Evo k k' C w w') (hc : ∀ c, L c → ¬ C c) (h1 : ¬ C c) : OutsOk k' w' L c e1 e size mk v n := by
  obtain ⟨rows, a, b, d⟩ := h
  exact ⟨rows, a.evo g h1, b, fun r hr => (d r hr).evo g hc⟩
theorem OutsOk.more {k : Nat → Nat} {w : World} {L L' : Nat → Prop} {c e1 e size : Nat} {mk : Nat → List Value} {v : Value} {n : Nat} (h : OutsOk k w L c e1 e size mk v n) (hL : ∀ c, L c → L' c) : OutsOk k w L' c e1 e size mk v n := by
  obtain ⟨rows, a, b, d⟩ := h
  refine ⟨rows, a, b, fun r hr => ?_⟩
  obtain ⟨v, m, n, c, hr, hm, hn, h1, hR⟩ := d r hr
  exact ⟨v, m, n, c, hr, hm, hn, hL c h1, hR⟩

/-- The law's own world; colours 200 to 203. -/
structure LawIs (k : Nat → Nat) (w : World) (L : Nat → Prop) (b px py nC nR nI : Nat) : Prop where
  ex : ∃ vC vR vI, Blk k w 200 b 48 [.pointer (some ⟨px, 0, none⟩), .pointer (some ⟨py, 0, none⟩), vC, vR, vI] ∧
    OutsOk k w L 201 51 53 2 cutMk vC nC ∧ OutsOk k w L 202 57 59 3 recMk vR nR ∧ OutsOk k w L 203 63 3 1 intMk vI nI

theorem LawIs.evo {k k' : Nat → Nat} {w w' : World} {L : Nat → Prop} {b px py nC nR nI : Nat} {C : Nat → Prop} (h : LawIs k w L b px py nC nR nI) (g : Evo k k' C w w') (hc : ∀ c, L c → ¬ C c) (h1 : ∀ c, 200 ≤ c → c < 204 → ¬ C c) : LawIs k' w' L b px py nC nR nI := by
  obtain ⟨vC, vR, vI, a, b, c, d⟩ := h.ex
  exact ⟨vC, vR, vI, a.evo g (h1 _ (by decide) (by decide)), b.evo g hc (h1 _ (by decide) (by decide)), c.evo g hc (h1 _ (by decide) (by decide)), d.evo g hc (h1 _ (by decide) (by decide))⟩

/-- The lists as the walk asks for them. -/
theorem outs_cells {k : Nat → Nat} {w : World} {L : Nat → Prop} {c e1 e size : Nat} {mk : Nat → List Value} {v : Value} {n : Nat} (h : OutsOk k w L c e1 e size mk v n) :
    ∃ a cap, v = .slice a n cap ∧ ∀ i, i < n → ∃ b x m len c2, a = some ⟨b, 0, none⟩ ∧ w.cell? ⟨b, i * 2, none⟩ = some x ∧ w.cell? ⟨b, i * 2 + 1, none⟩ = some (.int .i64 (m : Nat)) ∧ m ≤ 4000000000 ∧ len ≤ 4100000000 ∧ Rows k w c2 e size x (List.replicate len (mk m)) := by
  obtain ⟨rows, h1, rfl, h2⟩ := h
  obtain ⟨a, cap, rfl, _⟩ := h1.form
  refine ⟨a, cap, rfl, fun i hi => ?_⟩
  obtain ⟨b, cap', hv, _, _, _, hc, _⟩ := h1.at (by omega)
  simp at hv
  obtain ⟨x, m, len, c2, hr, hm, hn, _, hR⟩ := h2 _ (List.getElem_mem hi)
  have f0 := hc i 0 hi (by omega)
  have f1 := hc i 1 hi (by omega)
  rw [hr] at f0 f1
  exact ⟨b, x, m, len, c2, hv.1, f0, f1, hm, hn, hR⟩

theorem marks_cells {k : Nat → Nat} {w : World} {c e size len : Nat} {x : Value} {r : List Value} (h : Rows k w c e size x (List.replicate len r)) :
    ∃ a cap, x = .slice a len cap ∧ ∀ i, i < len → ∃ b, a = some ⟨b, 0, none⟩ ∧ ∀ j, j < size → w.cell? ⟨b, i * size + j, none⟩ = r[j]? := by
  obtain ⟨a, cap, rfl, _⟩ := h.form
  refine ⟨a, cap, by simp, fun i hi => ?_⟩
  obtain ⟨b, cap', hv, _, _, _, hc, _⟩ := h.at (by simp; omega)
  simp at hv
  refine ⟨b, hv.1, fun j hj => ?_⟩
  have := hc i j (by simpa using hi) hj
  simpa using this
end Go.Proofs.YtfpbkghcjaonlaaGreat
