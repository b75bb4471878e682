/-
  sixfoldref: Scl, epoch, list.
-/
import Derived.Test.YtfpbkghcjaonlaaGreatRefC
namespace Go.Proofs.YtfpbkghcjaonlaaGreat
open Go.RowKit

def sclUp (l : List Ent) : Nat → Nat → Nat
  | 0, n => n
  | f + 1, n => if (keptAt l ((n : Int) + 1)).isSome then sclUp l f (n + 1) else n
def sclOf (l : List Ent) : Nat := sclUp l l.length 0

theorem pigeon (n : Nat) : ∀ l : List Int, (∀ i : Nat, 1 ≤ i → i ≤ n → (i : Int) ∈ l) → n ≤ l.length := by
  induction n with
  | zero => intro l _; omega
  | succ n ih =>
    intro l h
    have hm := h (n + 1) (by omega) (by omega)
    have := ih (l.erase ((n + 1 : Nat) : Int)) (fun i h1 h2 => (List.mem_erase_of_ne (by omega)).2 (h i h1 (by omega)))
    rw [List.length_erase_of_mem hm] at this
    have := List.length_pos_of_mem hm
    omega

theorem keptAt_mem {l : List Ent} {n : Int} (h : (keptAt l n).isSome = true) : n ∈ l.map Ent.lsn := by
  unfold keptAt at h
  cases hi : entIdx l n with
  | none => rw [hi] at h; simp at h
  | some i =>
    have h1 := (List.findIdx?_eq_some_iff_getElem.1 hi)
    obtain ⟨hlt, hh, _⟩ := h1
    unfold entHit at hh
    simp at hh
    exact List.mem_map.2 ⟨l[i], List.getElem_mem hlt, hh.2⟩

theorem kept_bound {l : List Ent} {n : Nat} (h : ∀ i : Nat, 1 ≤ i → i ≤ n → (keptAt l (i : Int)).isSome = true) : n ≤ l.length := by
  have := pigeon n (l.map Ent.lsn) (fun i h1 h2 => keptAt_mem (h i h1 h2))
  simpa using this

theorem sclUp_spec (l : List Ent) (m : Nat) (hno : (keptAt l ((m : Int) + 1)).isSome = false) : ∀ f n, n ≤ m → m ≤ n + f → (∀ i : Nat, n < i → i ≤ m → (keptAt l (i : Int)).isSome = true) → sclUp l f n = m := by
  intro f
  induction f with
  | zero => intro n h1 h2 _; simp only [sclUp]; omega
  | succ f ih =>
    intro n h1 h2 h
    simp only [sclUp]
    by_cases hn : n = m
    · subst hn; rw [hno]; simp
    · have := h (n + 1) (by omega) (by omega)
      rw [if_pos (by simpa using this)]
      exact ih (n + 1) (by omega) (by omega) (fun i a b => h i (by omega) b)

theorem sclOf_spec {l : List Ent} {m : Nat} (h : ∀ i : Nat, 1 ≤ i → i ≤ m → (keptAt l (i : Int)).isSome = true) (hno : (keptAt l ((m : Int) + 1)).isSome = false) : sclOf l = m :=
  sclUp_spec l m hno l.length 0 (by omega) (by have := kept_bound h; omega) (fun i a b => h i (by omega) b)

theorem recVal_form (o : Option Ent) : ∃ a b c : Int, recVal o = .agg #[.int .i64 a, .int .i64 b, .int .i64 c] := by
  cases o with
  | none => exact ⟨_, _, _, rfl⟩
  | some e => exact ⟨_, _, _, rfl⟩

set_option maxHeartbeats 1000000 in
theorem scl_any {k : Nat → Nat} {w : World} {c b : Nat} {v : Value} {l : List Ent} (hb : w.cell? ⟨b, 3, none⟩ = some v) (h : Rows k w c 141 5 v (l.map entRow)) (hl : l.length ≤ 4000000000) :
    Calls Tryz.prog 92 #[.pointer (some ⟨b, 0, none⟩)] w fun e w' => e = .returned (.int .i64 (sclOf l)) ∧ Below w.heap.size w w' := by
  have hbl := World.block_lt_of_cell? w _ hb
  have HC : Hid (∀ (n : Int) W, Below w.heap.size w W → Calls Tryz.prog 84 #[.pointer (some ⟨b, 0, none⟩), .int .i64 n] W fun e w' => e = .returned (.tuple #[recVal (keptAt l n), .bool (keptAt l n).isSome]) ∧ Below W.heap.size W w') := hide fun n W hW =>
    kept_any n ((hW.cell hbl).trans hb) (h.evo (Evo.of_below (C := noC) hW) (noC_not _)) hl
  clear hb h
  go_enter Tryz.func92, Tryz.ntmps92
  go_wp2
  go_loopw [3] (fun i wr => Below w.heap.size w wr ∧ (∃ j : Nat, i = .int .i64 ((j : Int) + 1) ∧ j ≤ l.length ∧ Hid (∀ i : Nat, 1 ≤ i → i ≤ j → (keptAt l (i : Int)).isSome = true))) (fun i _ => l.length + 1 - (intOf i).toNat)
  case atStart => exact ⟨Below.refl _ _, ⟨0, rfl, by omega, hide (fun i h1 h2 => by omega)⟩⟩
  case round =>
    obtain ⟨hB, ⟨j, rfl, hj, hall⟩⟩ := hrel
    obtain ⟨x0, x1, x2, hrec⟩ := recVal_form (keptAt l ((j : Int) + 1))
    have HK := hide (HC.out ((j : Int) + 1) _ hB)
    have hsz := hB.size
    cases hkk : (keptAt l ((j : Int) + 1)).isSome
    · have HE := hide (sclOf_spec hall.out hkk)
      clear hall
      go_wp2_with fail
      refine HK.out.mono ?_
      rintro e w1 ⟨rfl, hb1⟩
      rw [hrec, hkk]
      clear hrec hkk
      go_wp2_with fail
      go_ret
      exact ⟨by rw [HE.out]; rfl, ((hB.trans (hb1.mono hsz)).alloc (by have := hb1.size; omega) _)⟩
    · have hall2 : ∀ i : Nat, 1 ≤ i → i ≤ j + 1 → (keptAt l (i : Int)).isSome = true := fun i h1 h2 => by
        rcases Nat.lt_succ_iff_lt_or_eq.1 (Nat.lt_succ_of_le h2) with h | h
        · exact hall.out i h1 (by omega)
        · subst h; simpa using hkk
      have hjb := kept_bound hall2
      have HA := hide hall2
      clear hall hall2
      go_wp2_with fail
      refine HK.out.mono ?_
      rintro e w1 ⟨rfl, hb1⟩
      rw [hrec, hkk]
      clear hrec hkk
      go_wp2_with fail
      go_roundw
      case rel => exact ⟨((hB.trans (hb1.mono hsz)).alloc (by have := hb1.size; omega) _), j + 1, by go_num, hjb, HA⟩
      case measure => simp [intOf]; omega

set_option maxHeartbeats 400000 in
theorem epoch_any {k : Nat → Nat} {w : World} {c b : Nat} {v : Value} {es : List Int} (hb : w.cell? ⟨b, 1, none⟩ = some v) (h : Rows k w c 3 1 v (es.map intRow)) (hne : 0 < es.length) (hl : es.length ≤ 4000000000) :
    Calls Tryz.prog 82 #[.pointer (some ⟨b, 0, none⟩)] w fun e w' => e = .returned (.int .i64 (es.getLastD 0)) ∧ Below w.heap.size w w' := by
  obtain ⟨a, cap, rfl, hc⟩ := ints_cells h
  obtain ⟨g, rfl, hcell⟩ := hc (es.length - 1) (by omega)
  have hlast : es.getLastD 0 = es[es.length - 1] := by
    rw [List.getLastD_eq_getLast?, List.getLast?_eq_getElem?, List.getElem?_eq_getElem (by omega)]; rfl
  have HL := hide hlast
  clear hlast hc h
  obtain ⟨n, hn⟩ : ∃ n, n = es.length - 1 := ⟨_, rfl⟩
  have hx : es[es.length - 1] = es[n]'(by omega) := by simp [hn]
  rw [hx] at hcell HL
  rw [← hn] at hcell
  have hlen : es.length = n + 1 := by omega
  generalize es[n]'(by omega) = z at *
  clear hx hn
  rw [hlen] at hb
  have hnl : n ≤ 4000000000 := by omega
  clear hlen hne hl
  go_enter Tryz.func82, Tryz.ntmps82
  go_wp2
  go_quiet (fail)
  go_wp2
  go_ret
  exact ⟨by rw [HL.out]; rfl, below_drewN (Below.refl _ _) _⟩

/-- A list of lists of cuts. -/
def ListsIs (k : Nat → Nat) (w : World) (c : Nat) (v : Value) (ls : List (List (Int × Int))) : Prop :=
  ∃ rows, Rows k w c 49 1 v rows ∧ All2 (fun l r => ∃ x, r = [x] ∧ CutsIm k w x l) ls rows

theorem ListsIs.evo {k k' : Nat → Nat} {w w' : World} {c : Nat} {v : Value} {ls : List (List (Int × Int))} {C : Nat → Prop} (h : ListsIs k w c v ls) (g : Evo k k' C w w') (hc : ¬ C c) (hi : ¬ C IM) : ListsIs k' w' c v ls := by
  obtain ⟨rows, h1, h2⟩ := h
  exact ⟨rows, h1.evo g hc, h2.imp fun l r ⟨x, hr, hx⟩ => ⟨x, hr, hx.evo g hi⟩⟩

theorem list_core (w : World) (b g n cap : Nat) (za : Option Addr) (zn zc : Nat) (hb : w.cell? ⟨b, 2, none⟩ = some (.slice (some ⟨g, 0, none⟩) (n + 1) cap)) (hcell : w.cell? ⟨g, n, none⟩ = some (.slice za zn zc)) (hnl : n ≤ 4000000000) :
    Calls Tryz.prog 89 #[.pointer (some ⟨b, 0, none⟩)] w fun e w' => e = .returned (.slice za zn zc) ∧ Below w.heap.size w w' := by
  go_enter Tryz.func89, Tryz.ntmps89
  go_wp2
  go_quiet (fail)
  go_wp2
  go_ret
  exact ⟨rfl, below_drewN (Below.refl _ _) _⟩

theorem list_in {k : Nat → Nat} {w W : World} {c b : Nat} {v : Value} {ls : List (List (Int × Int))} (hW : Below w.heap.size w W) (hb : w.cell? ⟨b, 2, none⟩ = some v) (h : ListsIs k w c v ls) (hne : 0 < ls.length) (hl : ls.length ≤ 4000000000) :
    Calls Tryz.prog 89 #[.pointer (some ⟨b, 0, none⟩)] W fun e w' => (∃ z, e = .returned z ∧ CutsIm k w z (ls.getLastD [])) ∧ Below W.heap.size W w' := by
  obtain ⟨rows, h1, h2⟩ := h
  have hlen := h2.1
  obtain ⟨g, cap, rfl, _, _, _, hc, _⟩ := h1.at (by omega)
  have hi : ls.length - 1 < ls.length := by omega
  obtain ⟨x, hr, hx⟩ := h2.2 (ls.length - 1) hi (by omega)
  have hcell := hc (ls.length - 1) 0 (by omega) (by omega)
  rw [hr] at hcell
  obtain ⟨za, zn, zc, rfl⟩ := Rows.shape hx
  have hlast : ls.getLastD [] = ls[ls.length - 1] := by
    rw [List.getLastD_eq_getLast?, List.getLast?_eq_getElem?, List.getElem?_eq_getElem hi]; rfl
  rw [hlast]
  have e1 : rows.length = (ls.length - 1) + 1 := by omega
  rw [e1] at hb
  have hcell2 : w.cell? ⟨g, ls.length - 1, none⟩ = some (.slice za zn zc) := by simpa using hcell
  refine (list_core W b g (ls.length - 1) cap za zn zc ((hW.cell (World.block_lt_of_cell? w _ hb)).trans hb) ((hW.cell (World.block_lt_of_cell? w _ hcell2)).trans hcell2) (by omega)).mono ?_
  rintro e w' ⟨rfl, hb'⟩
  exact ⟨⟨_, rfl, hx⟩, hb'⟩

theorem list_any {k : Nat → Nat} {w : World} {c b : Nat} {v : Value} {ls : List (List (Int × Int))} (hb : w.cell? ⟨b, 2, none⟩ = some v) (h : ListsIs k w c v ls) (hne : 0 < ls.length) (hl : ls.length ≤ 4000000000) :
    Calls Tryz.prog 89 #[.pointer (some ⟨b, 0, none⟩)] w fun e w' => (∃ z, e = .returned z ∧ CutsIm k w z (ls.getLastD [])) ∧ Below w.heap.size w w' :=
  list_in (Below.refl _ _) hb h hne hl
end Go.Proofs.YtfpbkghcjaonlaaGreat
