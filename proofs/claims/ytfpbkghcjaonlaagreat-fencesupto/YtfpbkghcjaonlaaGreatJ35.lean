import Derived.Test.YtfpbkghcjaonlaaGreatJ34
import Derived.Test.YtfpbkghcjaonlaaGreatRows
import Derived.WalkKit
import Derived.ProofKit
import Derived.OpenShut
import Derived.ChangeOld
import Derived.Below
import Derived.JoinedCond
import Derived.Deep.Slices
import Derived.Lib.SmallJoins
/-
  Both sides, call by call.
-/
namespace Go.Proofs.YtfpbkghcjaonlaaGreat.Sim
open Go.RowKit

theorem good_step {m : Nat} {r' : RVol} {x' : XVol} {N M : Nat} (hI : Inv r') (hx : x' = xvol r') (hs : Sz N M r') (hN : N ≤ 6 * (m + 1)) (hM : M ≤ m + 1) : GoodT (m + 1) (x', r') := ⟨hx, hI, hs.mono hN hM⟩

theorem both_duet (px py : Nat) (p : Nat) : Duet (Both px py) px py GoodT flT p where
  fam := both_fam px py
  mono := fun m m' t h hm => ⟨h.1, h.2.mono hm⟩
  flle := fun m t h => by
    have := h.2.inv.fly
    have := h.2.inv.fl
    unfold flT
    rw [liveOf_len]
    omega
  sides := fun m t h hm k w hB => both_sides h hm hB
  deliver := fun m t n hG hm hn => by
    obtain ⟨x, r⟩ := t
    obtain ⟨hxr, h⟩ := hG
    dsimp only at hxr h
    subst hxr
    have hm7 : m ≤ 70000000 := Nat.le_of_lt hm
    obtain ⟨hs, hI⟩ := sim_deliver h.inv n
    have e1 := congrArg Prod.fst hs
    have e2 := congrArg Prod.snd hs
    simp only at e1 e2
    refine ⟨(r.deliver n).2, (((xvol r).deliver n).1, r), (((xvol r).deliver n).1, (r.deliver n).1), both_x fun k w hv => ?_, both_y fun k w hv => refDeliver_any n hn.2 hv (h.yok (by omega)) (h.nl (by omega)) h.to_ (h.lists (by omega)), good_step hI e1.symm (sz_deliver h.inv h.sz n) (by omega) (by omega)⟩
    rw [e2]
    exact xdeliver_any h hv n
  drop := fun m t n hG hm hn => by
    obtain ⟨x, r⟩ := t
    obtain ⟨hxr, h⟩ := hG
    dsimp only at hxr h
    subst hxr
    have hm7 : m ≤ 70000000 := Nat.le_of_lt hm
    obtain ⟨hs, hI⟩ := sim_drop h.inv n
    have e1 := congrArg Prod.fst hs
    have e2 := congrArg Prod.snd hs
    simp only at e1 e2
    refine ⟨r.err12 n, (((xvol r).drop n).1, r), (((xvol r).drop n).1, r.drop n), both_x fun k w hv => ?_, both_y fun k w hv => refDrop_any n hn.2 hv (h.yok (by omega)), good_step hI e1.symm (sz_drop h.sz n) (by omega) (by omega)⟩
    rw [e2]
    exact xn_xs (P := fun _ => True) trivial (xdrop_any hv h.inv.xok n)
  copy := fun m t n hG hm hn => by
    obtain ⟨x, r⟩ := t
    obtain ⟨hxr, h⟩ := hG
    dsimp only at hxr h
    subst hxr
    have hm7 : m ≤ 70000000 := Nat.le_of_lt hm
    obtain ⟨hs, hI⟩ := sim_copy h.inv n
    have e1 := congrArg Prod.fst hs
    have e2 := congrArg Prod.snd hs
    simp only at e1 e2
    refine ⟨r.err12 n, (((xvol r).copy n).1, r), (((xvol r).copy n).1, r.copy n), both_x fun k w hv => ?_, both_y fun k w hv => refCopy_any n hn.2 hv (h.yok (by omega)), good_step hI e1.symm (sz_copy h.sz n) (by omega) (by omega)⟩
    rw [e2]
    exact xn_xs (P := fun _ => True) trivial (xcopy_any hv h.inv.xok n)
  open_ := fun m t hG hm => by
    obtain ⟨x, r⟩ := t
    obtain ⟨hxr, h⟩ := hG
    dsimp only at hxr h
    subst hxr
    have hm7 : m ≤ 70000000 := Nat.le_of_lt hm
    obtain ⟨hs, hI⟩ := sim_open h.inv
    have e1 := congrArg Prod.fst hs
    have e2 := congrArg Prod.snd hs
    simp only at e1 e2
    refine ⟨r.open_.2.1, r.open_.2.2, ((xvol r).open_.1, r), ((xvol r).open_.1, r.open_.1), both_x fun k w hv => ?_, both_y fun k w hv => refOpen_any hv (h.nl (by omega)), good_step hI e1.symm (sz_open h.sz) (by omega) (by omega)⟩
    rw [e2]
    exact xopen_any hv h.inv.xok
  resend := fun m t n hG hm hn => by
    obtain ⟨x, r⟩ := t
    obtain ⟨hxr, h⟩ := hG
    dsimp only at hxr h
    subst hxr
    have hm7 : m ≤ 70000000 := Nat.le_of_lt hm
    obtain ⟨hs, hI⟩ := sim_resend h.inv n
    have e1 := congrArg Prod.fst hs
    have e2 := congrArg Prod.snd hs
    simp only at e1 e2
    refine ⟨(r.resend n).2, (((xvol r).resend n).1, r), (((xvol r).resend n).1, (r.resend n).1), both_x fun k w hv => ?_, both_y fun k w hv => refResend_any n hv (h.yok (by omega)) (h.nl (by omega)) h.fine h.scl, good_step hI e1.symm (sz_resend h.sz n) (by omega) (by omega)⟩
    rw [e2]
    exact xn_xs (P := fun _ => True) trivial (xresend_any hv h.inv.xok n)
  append := fun _ m t n v hG hm hn hv' => by
    obtain ⟨x, r⟩ := t
    obtain ⟨hxr, h⟩ := hG
    dsimp only at hxr h
    subst hxr
    have hm7 : m ≤ 70000000 := Nat.le_of_lt hm
    obtain ⟨hs, hI⟩ := sim_append h.inv n v
    have e1 := congrArg Prod.fst hs
    have e2 := congrArg Prod.snd hs
    simp only at e1 e2
    have hwi := h.inv.wi
    refine ⟨(r.append n v).2.1, (r.append n v).2.2, (((xvol r).append n v).1, r), (((xvol r).append n v).1, (r.append n v).1), both_x fun k w hv => ?_, both_y fun k w hv => refAppend_any n v hv (h.yok (by omega)) (h.nl (by omega)) h.fine (by omega) hwi.2, good_step hI e1.symm (sz_append h.sz n v) (by omega) (by omega)⟩
    rw [e2]
    exact xappend_any h hv n v
  sync := fun _ m t n hG hm hn => by
    obtain ⟨x, r⟩ := t
    obtain ⟨hxr, h⟩ := hG
    dsimp only at hxr h
    subst hxr
    have hm7 : m ≤ 70000000 := Nat.le_of_lt hm
    obtain ⟨hs, hI⟩ := sim_sync h.inv n
    have e1 := congrArg Prod.fst hs
    have e2 := congrArg Prod.snd hs
    simp only at e1 e2
    refine ⟨(r.sync n).2, (((xvol r).sync n).1, r), (((xvol r).sync n).1, (r.sync n).1), both_x fun k w hv => ?_, both_y fun k w hv => refSync_any n hv (h.yok (by omega)), good_step hI e1.symm (sz_sync h.sz n) (by omega) (by omega)⟩
    rw [e2]
    exact xsync_any hv h.inv.xok n
  read := fun _ m t n v hG hm hn hv' => by
    obtain ⟨x, r⟩ := t
    obtain ⟨hxr, h⟩ := hG
    dsimp only at hxr h
    subst hxr
    have hm7 : m ≤ 70000000 := Nat.le_of_lt hm
    obtain ⟨hs, hI⟩ := sim_read h.inv n v
    have e1 := congrArg Prod.fst hs
    have e2 := congrArg Prod.snd hs
    simp only at e1 e2
    refine ⟨(r.read n v).2.1, (r.read n v).2.2, (((xvol r).read n v).1, r), (((xvol r).read n v).1, (r.read n v).1), both_x fun k w hv => ?_, both_y fun k w hv => refRead_any n v hv (h.yok (by omega)) h.fine, good_step hI e1.symm (sz_read h.sz n v) (by omega) (by omega)⟩
    rw [e2]
    exact xread_any hv n v
  gossip := fun _ m t n v hG hm hn hv' => by
    obtain ⟨x, r⟩ := t
    obtain ⟨hxr, h⟩ := hG
    dsimp only at hxr h
    subst hxr
    have hm7 : m ≤ 70000000 := Nat.le_of_lt hm
    obtain ⟨hs, hI⟩ := sim_gossip h.inv n v
    have e1 := congrArg Prod.fst hs
    have e2 := congrArg Prod.snd hs
    simp only at e1 e2
    refine ⟨(r.gossip n v).2, (((xvol r).gossip n v).1, r), (((xvol r).gossip n v).1, (r.gossip n v).1), both_x fun k w hv => ?_, both_y fun k w hv => refGossip_any n v hv (h.yok (by omega)), good_step hI e1.symm (sz_gossip h.sz n v) (by omega) (by omega)⟩
    rw [e2]
    exact xgossip_any hv h.inv.xok n v
  crash := fun _ m t n hG hm hn => by
    obtain ⟨x, r⟩ := t
    obtain ⟨hxr, h⟩ := hG
    dsimp only at hxr h
    subst hxr
    have hm7 : m ≤ 70000000 := Nat.le_of_lt hm
    obtain ⟨hs, hI⟩ := sim_crash h.inv n
    have e1 := congrArg Prod.fst hs
    have e2 := congrArg Prod.snd hs
    simp only at e1 e2
    refine ⟨(r.crash n).2, (((xvol r).crash n).1, r), (((xvol r).crash n).1, (r.crash n).1), both_x fun k w hv => ?_, both_y fun k w hv => refCrash_any n hv (h.yok (by omega)), good_step hI e1.symm (sz_crash h.sz n) (by omega) (by omega)⟩
    rw [e2]
    exact xcrash_any hv n
  restart := fun _ m t n hG hm hn => by
    obtain ⟨x, r⟩ := t
    obtain ⟨hxr, h⟩ := hG
    dsimp only at hxr h
    subst hxr
    have hm7 : m ≤ 70000000 := Nat.le_of_lt hm
    obtain ⟨hs, hI⟩ := sim_restart h.inv n
    have e1 := congrArg Prod.fst hs
    have e2 := congrArg Prod.snd hs
    simp only at e1 e2
    refine ⟨(r.restart n).2, (((xvol r).restart n).1, r), (((xvol r).restart n).1, (r.restart n).1), both_x fun k w hv => ?_, both_y fun k w hv => refRestart_any n hv, good_step hI e1.symm (sz_restart h.sz n) (by omega) (by omega)⟩
    rw [e2]
    exact xrestart_any hv n

theorem good0 (a b : Int) (h1 : ¬ a < 1) (h2 : ¬ 8 < a) (h3 : ¬ b < 1) (h4 : ¬ 200 < b) : GoodT 0 (xvol (r0 a b), r0 a b) := by
  have hs : ∀ g ∈ (r0 a b).segs, g = seg0 := fun g hg => List.eq_of_mem_replicate hg
  refine ⟨rfl, ⟨⟨by show 1 ≤ a; omega, by show a ≤ 8; omega⟩, ⟨by show 1 ≤ b; omega, by show b ≤ 200; omega⟩, by simp [r0], by simp [r0], fun q hq => by simp [r0] at hq, fun g hg => ?_, fun i p hp => by simp [r0] at hp, by show ((0 : Nat) : Int) ≤ b; omega⟩, ⟨by simp [r0], fun g hg => ?_, fun p hp => by simp [r0] at hp⟩⟩
  · rw [hs g hg]
    exact ⟨⟨fun e he => by simp [seg0] at he, fun n => by simp [seg0]⟩, .inl rfl, by decide, fun e he => by simp [seg0] at he⟩
  · rw [hs g hg]
    exact ⟨by decide, by decide, by decide, by decide, fun l hl => by simp [seg0] at hl; subst hl; simp, by decide⟩

theorem xseg_new : xseg seg0 = xseg0 := by
  refine seg_ext rfl rfl rfl ?_
  show (List.range 40).map (fun (n : Nat) => plOf seg0.entries ((n : Int) + 1)) = List.replicate 40 (0, 0, 0)
  have h : ∀ n : Nat, plOf seg0.entries ((n : Int) + 1) = (0, 0, 0) := fun n => rfl
  simp only [h, List.map_const', List.length_range]

theorem both_new (a b : Int) (px py : Nat) (k : Nat → Nat) (w : World) (h : NewQ a b px py k w) : Both px py (xvol (r0 a b), r0 a b) k w := by
  have hsegs : (xvol (r0 a b)).segs = List.replicate 6 (xseg seg0) := List.map_replicate
  have hel : ∀ (i : Nat) (hi : i < (xvol (r0 a b)).segs.length), (xvol (r0 a b)).segs[i] = xseg0 := fun i hi => by
    rw [← xseg_new]
    exact List.eq_of_mem_replicate (n := 6) (by rw [← hsegs]; exact List.getElem_mem hi)
  have hl6 : (xvol (r0 a b)).segs.length = 6 := by rw [hsegs]; exact List.length_replicate
  refine ⟨⟨.slice none 0 0, .slice none 0 0, newRows 6, [], ?_, ⟨[], Rows.nil _ _ _ _ _, rfl, fun i hi => by simp [xvol, r0, liveOf] at hi⟩, ⟨newRows_len 6 (by omega), hl6, fun i h1 h2 => ?_⟩, ⟨Rows.nil _ _ _ _ _, rfl, by show ([] : List XWr).length ≤ 9; simp, fun i h1 => by simp at h1⟩⟩, h.y⟩
  · exact h.x
  · have e1 : (newRows 6)[i] = segNewRow := by simp only [newRows6]; exact List.getElem_replicate _
    have e2 := hel i h2
    refine ⟨.slice none 0 0, e1.trans ?_, ?_, ?_⟩
    · show segNewRow = xsegRow (xvol (r0 a b)).segs[i] _
      rw [e2, segNewRow_eq]
    · show CutsIm k w _ (xvol (r0 a b)).segs[i].cuts
      rw [e2]; exact Rows.nil _ _ _ _ _
    · show (xvol (r0 a b)).segs[i].places.length = 40
      rw [e2]; simp [xseg0]

/-- The law, whatever is played. -/
theorem plays_any (p : Nat) (hp : p = 0 ∨ p = 1 ∨ p = 3) (w : World) (a b : Int) (sa : Option Addr) (n cap : Nat) (hn : n ≤ 1048576) (hs : ScriptIs w sa n) :
    Calls Tryz.prog 8 #[.agg #[.int .i64 a, .int .i64 b], .slice sa n cap, .int .i64 p] w fun e w' => e = .returned (.bool true) ∧ Below w.heap.size w w' := by
  by_cases hbad : a < 1 ∨ 8 < a ∨ b < 1 ∨ 200 < b
  · exact plays_bad w a b hbad sa n cap p
  · exact plays_good (fun px py => Both px py) GoodT flT p hp (xvol (r0 a b), r0 a b) w a b (by omega) (by omega) (by omega) (by omega) (both_new a b) (fun px py => both_duet px py p) (good0 a b (by omega) (by omega) (by omega) (by omega)) sa n cap hn hs
end Go.Proofs.YtfpbkghcjaonlaaGreat.Sim

/-
  A script that came in.
-/
namespace Go.Proofs.YtfpbkghcjaonlaaGreat
open Go.ChangeShapes Go.WideShapes Go.ChangeAt Go.RowKit Go.Joins

theorem Tryz.own2 : ownKnob Tryz.prog.godebug = none := by kernel_rfl
theorem Tryz.laidOut2 : laidOutB Tryz.prog = true := by kernel_rfl
theorem Tryz.cellsConfig2 : Tryz.prog.cellsOf 23 = 2 := by kernel_rfl
theorem Tryz.cellsAct : Tryz.prog.cellsOf 33 = 3 := by kernel_rfl

theorem bulk_one {H : Type} (d : DataW H) : 1 ≤ Rows.uptoBulk d := by
  cases d with
  | lit l => cases l <;> simp [Rows.uptoBulk]
  | nil => simp [Rows.uptoBulk]
  | ptr d => simp [Rows.uptoBulk]
  | slice elems spare => simp [Rows.uptoBulk]
  | agg parts => simp [Rows.uptoBulk]
  | iface t d => simp [Rows.uptoBulk]
  | map entries => simp [Rows.uptoBulk]
  | held h => simp [Rows.uptoBulk]
theorem bulk_len {H : Type} (l : List (DataW H)) : l.length ≤ Rows.uptoBulkAll l := by
  induction l with
  | nil => simp [Rows.uptoBulkAll]
  | cons x r ih => have := bulk_one x; simp only [Rows.uptoBulkAll, List.length_cons]; omega

theorem wf_i64R {n : Int} (h : (Lit.int .i64 n).wf = true) : i64R n := by
  have : -9223372036854775808 ≤ n ∧ n ≤ 9223372036854775807 := by simpa [Lit.wf, IntKind.min, IntKind.max, IntKind.signed, IntKind.bits] using h
  exact this

theorem addr_spot {w : World} {a : Addr} {u : Value} (h : w.cell? (a.add 0) = some u) : a = ⟨a.block, a.off, none⟩ := by
  obtain ⟨b, o, sp⟩ := a
  cases sp with
  | none => rfl
  | some x =>
    exfalso
    have h0 : Addr.add ⟨b, o, some x⟩ 0 = ⟨b, o, some x⟩ := by unfold Addr.add; rfl
    rw [h0] at h
    unfold World.cell? at h
    split at h
    · simp at h
    · simp at h
theorem list3 {l : List Value} (h : l.length = 3) : ∃ a b c, l = [a, b, c] := by
  match l, h with
  | [a, b, c], _ => exact ⟨a, b, c, rfl⟩

set_option maxRecDepth 100000 in
/-- The script, as the law asks for it. -/
theorem open_script {H : Type} {enc : TypeId × Value → H} {w : World} {base : Nat} {spare : Nat → Bool} {held : Bool} {fuel : Nat} {cs : List Value} {x : DataW H × List MemPlace} (h : DataW.trod enc Tryz.prog w base spare held fuel 26 cs = some x) :
    ∃ (sa : Option Addr) (n cap : Nat), cs = [.slice sa n cap] ∧ n + 1 ≤ Rows.uptoBulk x.1 ∧ ScriptIs w sa n := by
  rcases Deep.open_slice Tryz.underlying26 h with ⟨rfl, rfl⟩ | ⟨a, len, cap, m, n, D, Pl, rfl, hb, hl, hm, hmm, rfl, hx⟩
  · exact ⟨none, 0, 0, rfl, by simp [Rows.uptoBulk], fun i hi => by omega⟩
  · refine ⟨some a, len, cap, rfl, ?_, fun i hi => ?_⟩
    · have := bulk_len ((List.range len).map D)
      simp only [List.length_map, List.length_range] at this
      simp only [Rows.uptoBulk]
      omega
    · have him : i < m := by rw [hmm]; split <;> omega
      obtain ⟨cs', h1, h2⟩ := hx i him
      rw [Tryz.cellsAct] at h1
      obtain ⟨_, hlen, hcell⟩ := World.cells?_some h1
      obtain ⟨v0, v1, v2, rfl⟩ := list3 hlen
      have e0 := hcell 0 (by omega)
      have e1 := hcell 1 (by omega)
      have e2 := hcell 2 (by omega)
      rw [Deep.add_add] at e0 e1 e2
      have hsp : a = ⟨a.block, a.off, none⟩ := by
        obtain ⟨cs0, z1, _⟩ := hx 0 (by omega)
        rw [Tryz.cellsAct] at z1
        obtain ⟨_, zlen, zcell⟩ := World.cells?_some z1
        have z0 := zcell 0 (by omega)
        rw [Deep.add_add, List.getElem?_eq_getElem (by omega)] at z0
        exact addr_spot z0
      obtain ⟨ab, ao, asp⟩ := a
      simp only [Addr.mk.injEq, true_and] at hsp
      subst hsp
      rw [Addr.add_lit] at e0 e1 e2
      obtain ⟨y0, y1, y2, n', _, _, g0, g1, g2⟩ := Deep.trod_struct3 Tryz.underlying33 h2
      have hc1 : Tryz.prog.cellsOf 3 = 1 := by kernel_rfl
      simp only [hc1, List.drop_zero, List.take_succ_cons, List.take_zero, List.drop_succ_cons] at g0 g1 g2
      obtain ⟨K, k1, _, _⟩ := DataW.trod_int Tryz.underlying3 g0
      obtain ⟨A, a1, _, aw⟩ := DataW.trod_int Tryz.underlying3 g1
      obtain ⟨B, b1, _, bw⟩ := DataW.trod_int Tryz.underlying3 g2
      simp only [List.cons.injEq, and_true] at k1 a1 b1
      subst k1 a1 b1
      have f0 : w.cell? ⟨ab, ao + i * 3, none⟩ = some (.int .i64 K) := by simpa using e0
      refine ⟨ab, ao, K, A, B, rfl, World.block_lt_of_cell? w _ f0, f0, ?_, ?_, wf_i64R aw, wf_i64R bw⟩
      · simpa [Nat.add_assoc] using e1
      · simpa [Nat.add_assoc] using e2
end Go.Proofs.YtfpbkghcjaonlaaGreat
