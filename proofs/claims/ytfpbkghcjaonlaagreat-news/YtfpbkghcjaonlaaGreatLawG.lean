/-
  sixfoldlaw: segment.
-/
import Derived.Test.YtfpbkghcjaonlaaGreatLawE
import Derived.Test.YtfpbkghcjaonlaaGreatLawF
import Derived.Test.YtfpbkghcjaonlaaGreatXF
namespace Go.Proofs.YtfpbkghcjaonlaaGreat
open Go.RowKit

/-- What Segment answers, on either side. -/
structure SegD where
  err : Int
  up : Bool
  epoch : Int
  scl : Int
  cuts : List (Int × Int)
  kept : List Ent
  buf : List Ent

def XAns (B0 : Nat) (w' : World) (d : SegD) (v : Value) : Prop :=
  ∃ vc vk vb B1 B2, v = .tuple #[.agg #[.bool d.up, .int .i64 d.epoch, .int .i64 d.scl, vc, vk, vb], .int .i64 d.err] ∧ B0 ≤ B1 ∧ B1 ≤ B2 ∧ (∀ g, vc.ownBlock = some g → g < B1) ∧ (∀ g, vk.ownBlock = some g → g < B2) ∧
    Made w' B0 53 2 vc (d.cuts.map cutRow) ∧ Made w' B1 59 3 vk (d.kept.map recRow) ∧ Made w' B2 59 3 vb (d.buf.map recRow)

def YAns (w' : World) (d : SegD) (v : Value) : Prop :=
  ∃ vc vk vb k1 k2 k3 c1 c2 c3, v = .tuple #[.agg #[.bool d.up, .int .i64 d.epoch, .int .i64 d.scl, vc, vk, vb], .int .i64 d.err] ∧
    Rows k1 w' c1 53 2 vc (d.cuts.map cutRow) ∧ Rows k2 w' c2 59 3 vk (d.kept.map recRow) ∧ Rows k3 w' c3 59 3 vb (d.buf.map recRow)

theorem Rows.below {k : Nat → Nat} {w w' : World} {c e size : Nat} {v : Value} {rows : List (List Value)} (h : Rows k w c e size v rows) (hb : Below w.heap.size w w') : Rows k w' c e size v rows := h.evo (Evo.of_below (C := noC) hb) (noC_not _)

/-- No list that is still to be written down. -/
def Clean (k : Nat → Nat) (w : World) : Prop := ∀ g, g < w.heap.size → k g < 204 ∨ k g = 205

def reco (n : Nat) (k : Nat → Nat) (g : Nat) : Nat := if g < n then k g else if 204 ≤ k g then 205 else k g

theorem Rows.recol {k : Nat → Nat} {w : World} {c e size n : Nat} {v : Value} {rows : List (List Value)} (h : Rows k w c e size v rows) (hc : c < 204) : Rows (reco n k) w c e size v rows := by
  refine ⟨h.len, h.own, fun g hg => ?_⟩
  have h1 := h.col g hg
  unfold reco
  split
  · exact h1
  · rw [if_neg (by omega)]; exact h1
theorem Rows.recol5 {k : Nat → Nat} {w : World} {c e size n : Nat} {v : Value} {rows : List (List Value)} (h : Rows k w c e size v rows) (hc : 204 ≤ c) (hold : ∀ g, g < n → k g < 204 ∨ k g = 205) : Rows (reco n k) w 205 e size v rows := by
  refine ⟨h.len, h.own, fun g hg => ?_⟩
  have h1 := h.col g hg
  unfold reco
  split
  · rename_i hlt
    rcases hold g hlt with h2 | h2
    · omega
    · exact h2
  · rw [if_pos (by omega)]

theorem OutsOk.recol {k : Nat → Nat} {w : World} {L : Nat → Prop} {c e1 e size n m : Nat} {mk : Nat → List Value} {v : Value} (h : OutsOk k w L c e1 e size mk v m) (hc : c < 204) (hL : ∀ c, L c → 204 ≤ c) (hold : ∀ g, g < n → k g < 204 ∨ k g = 205) : OutsOk (reco n k) w (fun c => c = 205) c e1 e size mk v m := by
  obtain ⟨rows, a, b, d⟩ := h
  refine ⟨rows, a.recol hc, b, fun r hr => ?_⟩
  obtain ⟨v0, m0, n0, c0, h1, h2, h3, h4, h5⟩ := d r hr
  exact ⟨v0, m0, n0, 205, h1, h2, h3, rfl, h5.recol5 (hL _ h4) hold⟩

theorem LawIs.recol {k : Nat → Nat} {w : World} {L : Nat → Prop} {b px py nC nR nI n : Nat} (h : LawIs k w L b px py nC nR nI) (hL : ∀ c, L c → 204 ≤ c) (hold : ∀ g, g < n → k g < 204 ∨ k g = 205) : LawIs (reco n k) w (fun c => c = 205) b px py nC nR nI := by
  obtain ⟨vC, vR, vI, hB, oC, oR, oI⟩ := h.ex
  refine ⟨vC, vR, vI, ⟨hB.1, ?_⟩, oC.recol (by decide) hL hold, oR.recol (by decide) hL hold, oI.recol (by decide) hL hold⟩
  have := hB.2
  unfold reco
  split
  · exact this
  · rw [if_neg (by omega)]; exact this

theorem Evo.recol {k1 k2 : Nat → Nat} {C : Nat → Prop} {a b : World} (h : Evo k1 k2 C a b) : Evo k1 (reco a.heap.size k2) C a b := h.recolour _ (fun _ hi => if_pos hi)
theorem Clean.recol {k1 k2 : Nat → Nat} {C : Nat → Prop} {a b : World} (h : Clean k1 a) (g : Evo k1 k2 C a b) : Clean (reco a.heap.size k2) b := by
  intro i hi
  unfold reco
  split
  · rename_i hlt; rw [g.col i hlt]; exact h i hlt
  · split
    · exact .inr rfl
    · exact .inl (by omega)

/-- The three lists of an answer get colours of their own. -/
def colour3 (n : Nat) (k : Nat → Nat) (vc vk vb : Value) (g : Nat) : Nat := if g < n then k g else if vc.ownBlock = some g then 204 else if vk.ownBlock = some g then 206 else if vb.ownBlock = some g then 207 else 0

theorem Made.colour {k' : Nat → Nat} {w : World} {B e size c : Nat} {v : Value} {rows : List (List Value)} (h : Made w B e size v rows) (hc : ∀ g, v.ownBlock = some g → k' g = c) : Rows k' w c e size v rows := by
  refine ⟨h.1, ⟨h.2.1, ?_⟩, hc⟩
  rcases h.2.2 with hn | ⟨b, cap, cur, hv, hb, r⟩
  · exact .inl hn
  · exact .inr ⟨b, cap, cur, hv, Nat.zero_le _, r⟩

theorem colour3_rows {n B1 B2 : Nat} {k : Nat → Nat} {w : World} {vc vk vb : Value} {rc rk rb : List (List Value)} {e1 e2 e3 z1 z2 z3 : Nat} (h1 : Made w n e1 z1 vc rc) (h2 : Made w B1 e2 z2 vk rk) (h3 : Made w B2 e3 z3 vb rb) (hn1 : n ≤ B1) (h12 : B1 ≤ B2)
    (hc : ∀ g, vc.ownBlock = some g → g < B1) (hk : ∀ g, vk.ownBlock = some g → g < B2) :
    Rows (colour3 n k vc vk vb) w 204 e1 z1 vc rc ∧ Rows (colour3 n k vc vk vb) w 206 e2 z2 vk rk ∧ Rows (colour3 n k vc vk vb) w 207 e3 z3 vb rb := by
  refine ⟨h1.colour fun g hg => ?_, h2.colour fun g hg => ?_, h3.colour fun g hg => ?_⟩
  · have := (h1.block g hg).1
    unfold colour3; rw [if_neg (by omega), if_pos hg]
  · have := (h2.block g hg).1
    unfold colour3; rw [if_neg (by omega), if_neg (fun e => by have := hc g e; omega), if_pos hg]
  · have := (h3.block g hg).1
    unfold colour3; rw [if_neg (by omega), if_neg (fun e => by have := hc g e; omega), if_neg (fun e => by have := hk g e; omega), if_pos hg]

theorem below_colour3 {n : Nat} {k : Nat → Nat} {w w' : World} (hn : n = w.heap.size) (h : Below w.heap.size w w') (vc vk vb : Value) (C : Nat → Prop) : Evo k (colour3 n k vc vk vb) C w w' := by
  subst hn
  exact (Evo.of_below (k := k) h).recolour _ (fun _ hi => if_pos hi)
end Go.Proofs.YtfpbkghcjaonlaaGreat
