/-
  Other colours for what is no store of the document's volume.
-/
import Derived.Test.YtfpbkghcjaonlaaGreatRefL
import Derived.Test.YtfpbkghcjaonlaaGreatLawG
namespace Go.Proofs.YtfpbkghcjaonlaaGreat
open Go.RowKit

section
variable {k : Nat → Nat} {w : World} {n : Nat}
theorem Blk.recol {c b e : Nat} {cs : List Value} (h : Blk k w c b e cs) (hc : c < 204) : Blk (reco n k) w c b e cs := by
  refine ⟨h.1, ?_⟩
  have := h.2
  unfold reco
  split
  · exact this
  · rw [if_neg (by omega)]; exact this
theorem CutsIm.recol {v : Value} {l : List (Int × Int)} (h : CutsIm k w v l) : CutsIm (reco n k) w v l := Rows.recol h (by decide)
theorem IntsIm.recol {v : Value} {l : List Int} (h : IntsIm k w v l) : IntsIm (reco n k) w v l := Rows.recol h (by decide)
theorem MsgIs.recol {m : Msg} {r : List Value} (h : MsgIs k w m r) : MsgIs (reco n k) w m r := by
  obtain ⟨vc, vm, hr, h1, h2⟩ := h
  exact ⟨vc, vm, hr, h1.recol, h2.recol⟩
theorem PostIs.recol {m : Msg × Bool} {r : List Value} (h : PostIs k w m r) : PostIs (reco n k) w m r := by
  obtain ⟨r0, h0, hr⟩ := h
  exact ⟨r0, h0.recol, hr⟩
theorem NetIs.recol {v : Value} {net : List (Msg × Bool)} {rows : List (List Value)} (h : NetIs k w v net rows) : NetIs (reco n k) w v net rows := ⟨h.own.recol (by decide), h.all.imp fun _ _ x => x.recol⟩
theorem YNet.recol {q : Nat} {wi fl : Int} {vSegs vPens : Value} {net : List (Msg × Bool)} (h : YNet k w q wi fl vSegs vPens net) : YNet (reco n k) w q wi fl vSegs vPens net := by
  obtain ⟨vNet, rows, hY, hN⟩ := h.ex
  exact ⟨vNet, rows, hY.recol (by decide), hN.recol⟩
theorem ListsIs.recol {c : Nat} {v : Value} {ls : List (List (Int × Int))} (h : ListsIs k w c v ls) (hc : c < 204) : ListsIs (reco n k) w c v ls := by
  obtain ⟨rows, h1, h2⟩ := h
  exact ⟨rows, h1.recol hc, h2.imp fun l r ⟨x, hr, hx⟩ => ⟨x, hr, hx.recol⟩⟩
theorem MsgsIs.recol {c : Nat} {v : Value} {ms : List Msg} (h : MsgsIs k w c v ms) (hc : c < 204) : MsgsIs (reco n k) w c v ms := by
  obtain ⟨rows, h1, h2⟩ := h
  exact ⟨rows, h1.recol hc, h2.imp fun l r x => x.recol⟩
theorem StoreIs.recol {cs b : Nat} {s : RSeg} (h : StoreIs k w cs b s) (hc : cs < 100) : StoreIs (reco n k) w cs b s := by
  obtain ⟨vE, vL, vN, a, b, c, d⟩ := h.ex
  exact ⟨vE, vL, vN, a.recol (by omega), b.recol (by omega), c.recol (by omega), d.recol (by omega)⟩
theorem PenIs.recol {cp b : Nat} {p : RPen} (h : PenIs k w cp b p) (hc : cp < 100) : PenIs (reco n k) w cp b p := by
  obtain ⟨vF, vS, vV, a, b, c, d⟩ := h.ex
  exact ⟨vF, vS, vV, a.recol (by omega), b.recol (by omega), c.recol (by omega), d.recol (by omega)⟩
theorem YVol.recol {q : Nat} {r : RVol} (h : YVol k w q r) : YVol (reco n k) w q r := by
  obtain ⟨vS, vP, sb, pb, a, b, c⟩ := h.ex
  refine ⟨vS, vP, sb, pb, a.recol, ⟨b.own.recol (by decide), b.l1, b.l2, fun i h1 h2 => ?_⟩, ⟨c.own.recol (by decide), c.l1, c.l2, fun i h1 h2 => ?_⟩⟩
  · have := b.l1
    exact (b.all i h1 h2).recol (by unfold cS; omega)
  · have := c.l2
    exact (c.all i h1 h2).recol (by unfold cP; omega)
end
end Go.Proofs.YtfpbkghcjaonlaaGreat
