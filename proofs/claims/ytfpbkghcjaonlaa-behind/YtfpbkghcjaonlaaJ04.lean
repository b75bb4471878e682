import Derived.Test.YtfpbkghcjaonlaaJ03
import Derived.BigQuiet
/-
  sixfoldref: Append.
-/
namespace Go.Proofs.Ytfpbkghcjaonlaa
open Go.RowKit

def RPen.Fine (p : RPen) : Prop := p.over = true → p.a0 = 4

/-- A writer on which a call may be made. -/
theorem RVol.may_ok {r : RVol} {n : Int} (h : (r.may n).2 = 0) (hf : ∀ p ∈ r.pens, p.Fine) : ∃ (i : Nat) (hi : i < r.pens.length), n = (i : Int) + 1 ∧ r.may n = (r.pens[i].stands, 0) ∧ r.pens[i].over = false := by
  unfold RVol.may at h ⊢
  cases ho : writerAt r.pens n with
  | none => rw [ho] at h; simp at h
  | some p =>
    rw [ho] at h
    simp only at h ⊢
    unfold writerAt at ho
    by_cases h1 : n < 1
    · rw [if_pos h1] at ho; simp at ho
    · rw [if_neg h1] at ho
      obtain ⟨hi, he⟩ := List.getElem?_eq_some_iff.1 ho
      refine ⟨n.toNat - 1, hi, by omega, ?_, ?_⟩
      · rw [he, h]
      · cases hov : r.pens[n.toNat - 1].over
        · rfl
        · exfalso
          have h4 := hf _ (List.getElem_mem hi) hov
          rw [he] at h4 hov
          have : p.stands.phase = 4 := by unfold RPen.stands; rw [if_pos hov]; exact h4
          rw [if_pos this] at h
          simp at h

theorem durUp_le (st : List Msg) (b : Nat) : ∀ n, durUp st b n ≤ b + n
  | 0 => Nat.zero_le _
  | n + 1 => by have := durUp_le st b n; unfold durUp; split <;> omega
theorem baseOf_le {f : List Msg} (hf : ∀ m ∈ f, MsgOk m) : baseOf f ≤ 4000000000 := baseAll_le _ _ hf _
theorem RPen.stands_le {p : RPen} (h : PenOk p) (ho : p.over = false) : 0 ≤ p.stands.base ∧ p.stands.base ≤ 4000000000 ∧ 0 ≤ p.stands.next ∧ p.stands.next ≤ 8000000000 ∧ 0 ≤ p.stands.dur ∧ p.stands.dur ≤ 9000000000 := by
  have h1 := baseOf_le h.f
  have h2 := h.vl
  have h3 := durUp_le p.status (baseOf p.fenced) (p.values.length + 1)
  unfold RPen.stands
  rw [if_neg (by simp [ho])]
  split
  · simp
  · split
    · simp only; omega
    · simp only; omega

def writeMsg (n lsn value : Int) (s : Nat) : Msg := ⟨6, n, s, n, lsn, value, 0, [], []⟩
def RVol.pushed (r : RVol) (i : Nat) (v : Int) : RVol := match r.pens[i]? with | some p => { r with pens := r.pens.set i { p with values := p.values ++ [v] } } | none => r
def RVol.append (r : RVol) (n v : Int) : RVol × Int × Int :=
  if (r.may n).2 ≠ 0 then (r, 0, (r.may n).2)
  else if (r.may n).1.phase ≠ 3 then (r, 0, 5)
  else if (r.may n).1.next = 40 then (r, 0, 7)
  else if (r.may n).1.next = (r.may n).1.dur + r.wi then (r, 0, 6)
  else ((r.pushed (n.toNat - 1) v).sendUp (writeMsg n ((r.may n).1.next + 1) v) 6, (r.may n).1.next + 1, 0)

end Go.Proofs.Ytfpbkghcjaonlaa

/-
  sixfoldref: Read.
-/
namespace Go.Proofs.Ytfpbkghcjaonlaa
open Go.RowKit

def RVol.reads (r : RVol) (p : RPen) (lsn : Int) (s : Nat) : Bool := decide (lsn ≤ notedN p.status s) && (match r.segs[s]? with | some g => g.up | none => false)
def RVol.pickSeg (r : RVol) (p : RPen) (lsn : Int) : Option Nat := (List.range 6).find? fun s => r.reads p lsn s
theorem RVol.pickSeg_some {r : RVol} {p : RPen} {lsn : Int} {j : Nat} (hj : j < 6) (h : r.reads p lsn j = true) (hno : ∀ s, s < j → r.reads p lsn s = false) : r.pickSeg p lsn = some j := by
  unfold RVol.pickSeg
  rw [List.find?_range_eq_some]
  exact ⟨h, by simpa using hj, fun s hs => by simp [hno s hs]⟩
theorem RVol.pickSeg_none {r : RVol} {p : RPen} {lsn : Int} (hno : ∀ s, s < 6 → r.reads p lsn s = false) : r.pickSeg p lsn = none := by
  unfold RVol.pickSeg
  rw [List.find?_range_eq_none]
  intro s hs; simp [hno s hs]

def recL (o : Option Ent) : Int := (o.map (·.lsn)).getD 0
def recE (o : Option Ent) : Int := (o.map (·.epoch)).getD 0
def recV (o : Option Ent) : Int := (o.map (·.value)).getD 0
theorem recVal_eq (o : Option Ent) : recVal o = .agg #[.int .i64 (recL o), .int .i64 (recE o), .int .i64 (recV o)] := by cases o <;> rfl

def RVol.ends (r : RVol) (i : Nat) : RVol := match r.pens[i]? with | some p => { r with pens := r.pens.set i p.ended } | none => r
def RVol.readOf (r : RVol) (i : Nat) (p : RPen) (lsn : Int) : RVol × Int × Int := match (r.pickSeg p lsn).bind fun s => r.segs[s]? with
  | none => (r, 0, 9)
  | some g => if (i : Int) + 1 < g.epoch then (r.ends i, 0, 4) else (r, recV (keptAt g.entries lsn), 0)
def RVol.read (r : RVol) (n lsn : Int) : RVol × Int × Int :=
  if (r.may n).2 ≠ 0 then (r, 0, (r.may n).2)
  else if (r.may n).1.phase ≠ 3 then (r, 0, 5)
  else if lsn < 1 ∨ (r.may n).1.dur < lsn then (r, 0, 8)
  else match r.pens[n.toNat - 1]? with
  | none => (r, 0, 9)
  | some p => r.readOf (n.toNat - 1) p lsn

end Go.Proofs.Ytfpbkghcjaonlaa

/-
  sixfoldref: Resend.
-/
namespace Go.Proofs.Ytfpbkghcjaonlaa
open Go.RowKit

def cutMsg (n : Int) (l : List (Int × Int)) (s : Nat) : Msg := ⟨3, n, s, n, 0, 0, 0, l, []⟩
def resMsg (p : RPen) (x : WSt) (n : Int) (s : Nat) : Option Msg :=
  if x.phase = 1 then (if heardIn p.fenced s then none else some (fenceMsg n s))
  else if heardIn p.status s = false then some (cutMsg n (decCuts p.fenced n) s)
  else if x.base < notedN p.status s + 1 ∧ notedN p.status s + 1 ≤ x.next then some (writeMsg n (notedN p.status s + 1) (p.values.getD (notedN p.status s - x.base).toNat 0) s) else none
def RVol.sendO (r : RVol) (o : Option Msg) : RVol := match o with | some m => r.send m | none => r
def RVol.sendsUp (r : RVol) (f : Nat → Option Msg) : Nat → RVol
  | 0 => r
  | n + 1 => (r.sendsUp f n).sendO (f n)
theorem RVol.sendsUp_len (r : RVol) (f : Nat → Option Msg) : ∀ n, (r.sendsUp f n).net.length ≤ r.net.length + n
  | 0 => Nat.le_refl _
  | n + 1 => by
    have h1 := RVol.sendsUp_len r f n
    show ((r.sendsUp f n).sendO (f n)).net.length ≤ _
    cases f n with
    | none => show (r.sendsUp f n).net.length ≤ _; omega
    | some m =>
      have h2 := sendNet_len (r.sendsUp f n).fl (r.sendsUp f n).net m
      show (sendNet _ _ _).length ≤ _
      omega

def RVol.resend (r : RVol) (n : Int) : RVol × Int :=
  if (r.may n).2 ≠ 0 then (r, (r.may n).2)
  else match r.pens[n.toNat - 1]? with
  | none => (r, 0)
  | some p => (r.sendsUp (resMsg p (r.may n).1 n) 6, 0)

theorem notedN_range (ms : List Msg) (s : Int) (h : ∀ m ∈ ms, m.scl ≤ 4000000000) : 0 ≤ notedN ms s ∧ notedN ms s ≤ 4000000000 := by
  unfold notedN
  suffices ∀ (l : List Msg) (x : Int), 0 ≤ x → x ≤ 4000000000 → (∀ m ∈ l, m.scl ≤ 4000000000) → 0 ≤ l.foldl (noteStep s) x ∧ l.foldl (noteStep s) x ≤ 4000000000 from this ms 0 (by omega) (by omega) h
  intro l
  induction l with
  | nil => intro x h1 h2 _; exact ⟨h1, h2⟩
  | cons m l ih =>
    intro x h1 h2 hm
    have hms := hm m (by simp)
    have : 0 ≤ noteStep s x m ∧ noteStep s x m ≤ 4000000000 := by
      unfold noteStep; split
      · split <;> omega
      · omega
    exact ih _ this.1 this.2 (fun m' h' => hm m' (by simp [h']))

/-- What a slice that a call has built is, coloured. -/
theorem Made.coloured {k : Nat → Nat} {w w' : World} {e size : Nat} {v : Value} {rows : List (List Value)} (c : Nat) (h : Made w' w.heap.size e size v rows) : Rows (fun b => if b < w.heap.size then k b else c) w' c e size v rows := Rows.fresh c h.1 rfl h.2

theorem stands_many_of {p : RPen} (ho : p.over = false) (h1 : p.stands.phase ≠ 1) : 4 ≤ p.fenced.length ∧ p.stands.next = p.stands.base + (p.values.length : Int) := by
  revert h1
  unfold RPen.stands
  rw [if_neg (by simp [ho])]
  split
  · intro h; simp at h
  · intro _
    refine ⟨by omega, ?_⟩
    split <;> rfl

end Go.Proofs.Ytfpbkghcjaonlaa

/-
  sixfoldref: writerHears, but for what it sends.
-/
namespace Go.Proofs.Ytfpbkghcjaonlaa
open Go.RowKit

def RVol.setPen (r : RVol) (i : Nat) (p : RPen) : RVol := { r with pens := r.pens.set i p }
def RVol.heard (r : RVol) (i : Nat) (p : RPen) (m : Msg) : RVol :=
  if heardIn p.fenced m.frm then r
  else if p.fenced.length + 1 = 4 then (r.setPen i { p with fenced := p.fenced ++ [m] }).sendUp (cutMsg m.to_ (decCuts (p.fenced ++ [m]) m.to_)) 6
  else r.setPen i { p with fenced := p.fenced ++ [m] }
def RVol.wHears (r : RVol) (m : Msg) : RVol := match r.pens[m.to_.toNat - 1]? with
  | none => r
  | some p =>
    if m.kind = 5 then r.setPen (m.to_.toNat - 1) p.ended
    else if m.kind = 4 ∧ (p.stands.phase = 2 ∨ p.stands.phase = 3) then r.setPen (m.to_.toNat - 1) { p with status := p.status ++ [m] }
    else if m.kind = 2 ∧ p.stands.phase = 1 then r.heard (m.to_.toNat - 1) p m
    else r

end Go.Proofs.Ytfpbkghcjaonlaa

/-
  sixfoldref: writerHears, MStatus and MFenced.
-/
namespace Go.Proofs.Ytfpbkghcjaonlaa
open Go.RowKit

theorem Try.infoMessage : (Try.prog.info? 99).map (fun i => (i.zero, i.size, i.bytes)) = some (some (.agg #[.int .i64 0, .int .i64 0, .int .i64 0, .int .i64 0, .int .i64 0, .int .i64 0, .int .i64 0, .slice none 0 0, .slice none 0 0]), 9, 104) := by kernel_rfl

/-- A message more, heard. -/
theorem MsgsIs.snoc {k k1 : Nat → Nat} {w w1 : World} {c : Nat} {v1 : Value} {ms : List Msg} {m : Msg} {rows : List (List Value)} {vc vm : Value} {C : Nat → Prop} (ha : All2 (MsgIs k w) ms rows) (hc : CutsIm k w vc m.cuts) (hm : IntsIm k w vm m.marks) (ev : Evo k k1 C w w1) (hi : ¬ C IM)
    (hR : Rows k1 w1 c 99 9 v1 (rows ++ [msgCells m vc vm])) : MsgsIs k1 w1 c v1 (ms ++ [m]) :=
  ⟨_, hR, All2.snoc (ha.imp fun _ _ x => x.evo ev hi) ⟨vc, vm, rfl, hc.evo ev hi, hm.evo ev hi⟩⟩

end Go.Proofs.Ytfpbkghcjaonlaa

/-
  sixfoldref: writerHears, MFenced.
-/
namespace Go.Proofs.Ytfpbkghcjaonlaa
open Go.RowKit

end Go.Proofs.Ytfpbkghcjaonlaa

/-
  sixfoldref: writerHears, whole.
-/
namespace Go.Proofs.Ytfpbkghcjaonlaa
open Go.RowKit

end Go.Proofs.Ytfpbkghcjaonlaa

/-
  sixfoldref: segmentHears: MNeed, MFill, a refusal.
-/
namespace Go.Proofs.Ytfpbkghcjaonlaa
open Go.RowKit

def RVol.setSeg (r : RVol) (s : Nat) (g : RSeg) : RVol := { r with segs := r.segs.set s g }
def refusedMsg (m : Msg) (e : Int) : Msg := ⟨5, m.to_, m.frm, e, 0, 0, 0, [], []⟩
def fillMsg (m : Msg) (x : Ent) : Msg := ⟨8, m.to_, m.frm, x.epoch, x.lsn, x.value, 0, [], []⟩
def fencedMsg (m : Msg) (g : RSeg) : Msg := ⟨2, m.to_, m.frm, m.epoch, 0, 0, 0, g.cuts, marksOf g.entries⟩
def RSeg.epochUp (g : RSeg) (e : Int) : RSeg := { g with epochs := g.epochs ++ [e] }
def RSeg.cutBy (g : RSeg) (l : List (Int × Int)) : RSeg := { g with lists := g.lists ++ [l], entries := g.entries.map (siftBy l) }
def RSeg.coming (g : RSeg) (m : Msg) : RSeg := { g with entries := comeTo g.entries (m.lsn, m.epoch, m.value) }
def RSeg.afterCut (g : RSeg) (m : Msg) : RSeg := if topOf g.cuts = m.epoch then g.epochUp m.epoch else (g.epochUp m.epoch).cutBy m.cuts
def RVol.sHears (r : RVol) (m : Msg) : RVol := match r.segs[m.to_.toNat]? with
  | none => r
  | some g =>
    if m.kind = 7 then (match keptAt g.entries m.lsn with | some x => r.send (fillMsg m x) | none => r)
    else if m.kind = 8 then (if good g.cuts m.lsn m.epoch then r.setSeg m.to_.toNat (g.coming m) else r)
    else if m.epoch < g.epoch then r.send (refusedMsg m g.epoch)
    else if m.kind = 1 then (r.setSeg m.to_.toNat (g.epochUp m.epoch)).send (fencedMsg m g)
    else if m.kind = 3 then (r.setSeg m.to_.toNat (g.afterCut m)).send (statusMsg m.to_.toNat (g.afterCut m))
    else if m.epoch = g.epoch ∧ topOf g.cuts = g.epoch then
      (match keptAt g.entries m.lsn with | some _ => r.send (statusMsg m.to_.toNat g) | none => r.setSeg m.to_.toNat (g.coming m))
    else r

theorem cuts_le {g : RSeg} (h : StoreOk g) : g.cuts.length ≤ 1000 := by
  unfold RSeg.cuts
  rw [List.getLastD_eq_getLast?]
  cases hx : g.lists.getLast? with
  | none => simp
  | some l => exact h.lk l (List.mem_of_getLast? hx)

end Go.Proofs.Ytfpbkghcjaonlaa

/-
  sixfoldref: segmentHears: MFence.
-/
namespace Go.Proofs.Ytfpbkghcjaonlaa
open Go.RowKit

theorem Made.shape {w : World} {B e size : Nat} {v : Value} {rows : List (List Value)} (h : Made w B e size v rows) : ∃ a n cap, v = .slice a n cap := let ⟨a, c, h⟩ := h.form; ⟨a, _, c, h⟩

end Go.Proofs.Ytfpbkghcjaonlaa

/-
  sixfoldref: segmentHears: MCut.
-/
namespace Go.Proofs.Ytfpbkghcjaonlaa
open Go.RowKit

theorem Try.infoCutsSl : (Try.prog.info? 63).map (fun i => (i.zero, i.size, i.bytes)) = some (some (.slice none 0 0), 1, 24) := by kernel_rfl

end Go.Proofs.Ytfpbkghcjaonlaa

/-
  sixfoldref: segmentHears: MWrite, and what is not heeded.
-/
namespace Go.Proofs.Ytfpbkghcjaonlaa
open Go.RowKit

end Go.Proofs.Ytfpbkghcjaonlaa

/-
  sixfoldref: segmentHears whole; Deliver.
-/
namespace Go.Proofs.Ytfpbkghcjaonlaa
open Go.RowKit

/-- The message goes where it may go. -/
def MsgTo (pens : Nat) (m : Msg) : Prop := if m.kind = 2 ∨ m.kind = 4 ∨ m.kind = 5 then 1 ≤ m.to_ ∧ m.to_ ≤ (pens : Int) else 0 ≤ m.to_ ∧ m.to_ < 6
def RVol.goneV (r : RVol) (i : Nat) : RVol := { r with net := goneAt r.net i }
def RVol.arrives (r : RVol) (m : Msg) : RVol :=
  if m.kind = 2 ∨ m.kind = 4 ∨ m.kind = 5 then r.wHears m
  else match r.segs[m.to_.toNat]? with | some g => if g.up then r.sHears m else r | none => r
def RVol.deliver (r : RVol) (x : Int) : RVol × Int := match placeE r.net x with
  | none => (r, 12)
  | some i => match r.net[i]? with
    | none => (r, 12)
    | some p => ((r.goneV i).arrives p.1, 0)

theorem goneAt_len (net : List (Msg × Bool)) (i : Nat) : (goneAt net i).length = net.length := by unfold goneAt; split <;> simp
theorem goneAt_mem {net : List (Msg × Bool)} {i : Nat} {p : Msg × Bool} (h : p ∈ goneAt net i) : ∃ p' ∈ net, p'.1 = p.1 := by
  unfold goneAt at h
  split at h
  · rename_i p0 hp0
    rcases List.mem_or_eq_of_mem_set h with h | rfl
    · exact ⟨p, h, rfl⟩
    · exact ⟨p0, List.mem_of_getElem? hp0, rfl⟩
  · exact ⟨p, h, rfl⟩
theorem YOk.gone {r : RVol} (h : YOk r) (i : Nat) : YOk (r.goneV i) :=
  ⟨by unfold RVol.goneV; rw [goneAt_len]; exact h.nl, fun p hp => by obtain ⟨p', h1, h2⟩ := goneAt_mem hp; rw [← h2]; exact h.nk p' h1, h.sk, h.pk⟩

end Go.Proofs.Ytfpbkghcjaonlaa

/-
  The program as a machine without memory.
-/
namespace Go.Proofs.Ytfpbkghcjaonlaa
open Go.RowKit

structure XWr where
  number : Int
  phase : Int
  base : Int
  next : Int
  dur : Int
  notes : List (Int × List (Int × Int) × List Int)
  cuts : List (Int × Int)
  values : List Int
  heard : List Bool
  noted : List Int

structure XVol where
  wi : Int
  room : Int
  msgs : List Msg
  segs : List XSeg
  wrs : List XWr

def xwr0 (n : Int) : XWr := ⟨n, 1, 0, 0, 0, [], [], [], List.replicate 6 false, List.replicate 6 0⟩
def XWr.hasNote (x : XWr) (s : Int) : Bool := x.notes.any (fun n => n.1 == s)
def XWr.write (x : XWr) (s lsn : Int) : Option Msg :=
  if lsn - x.base - 1 < 0 then none
  else if (x.values.length : Int) ≤ lsn - x.base - 1 then none
  else some ⟨6, x.number, s, x.number, lsn, x.values.getD (lsn - x.base - 1).toNat 0, 0, [], []⟩
def XWr.dueTo (x : XWr) (s : Nat) : Option Msg :=
  if x.phase = 1 then (if x.hasNote s then none else some ⟨1, x.number, s, x.number, 0, 0, 0, [], []⟩)
  else if x.phase = 2 ∨ x.phase = 3 then
    (if x.heard.getD s false then x.write s (x.noted.getD s 0 + 1) else some ⟨3, x.number, s, x.number, 0, 0, 0, x.cuts, []⟩)
  else none
def XWr.due (x : XWr) : List Msg := (List.range 6).filterMap x.dueTo
def XWr.writes (x : XWr) (lsn : Int) : List Msg := (List.range 6).filterMap fun (s : Nat) => x.write s lsn

/-- How far the records of these epochs go. -/
def reachFrom (l : List (Int × Int)) : Nat → List Int → Nat
  | i, [] => i
  | i, e :: es => if good l ((i : Int) + 1) e then reachFrom l (i + 1) es else i
def newestStep (l : List (Int × Int)) (n : Int × List (Int × Int) × List Int) : List (Int × Int) := if topOf l < topOf n.2.1 then n.2.1 else l
def newestOf (ns : List (Int × List (Int × Int) × List Int)) : List (Int × Int) := ns.foldl newestStep []
def baseStep (l : List (Int × Int)) (b : Nat) (n : Int × List (Int × Int) × List Int) : Nat := if b < reachFrom l 0 n.2.2 then reachFrom l 0 n.2.2 else b
def XWr.decides (x : XWr) : XWr :=
  let l := newestOf x.notes
  let b := x.notes.foldl (baseStep l) 0
  { x with cuts := l ++ [(x.number, (b : Int))], base := b, next := b, phase := 2, notes := [] }
def XWr.hearFenced (x : XWr) (m : Msg) : XWr × List Msg :=
  if x.phase ≠ 1 ∨ x.hasNote m.frm = true then (x, [])
  else
    let y := { x with notes := x.notes ++ [(m.frm, m.cuts, m.marks)] }
    if y.notes.length < 4 then (y, []) else (y.decides, y.decides.due)
def XWr.readyN (x : XWr) : Nat := ((List.range 6).filter fun s => x.heard.getD s false && decide (x.base ≤ x.noted.getD s 0)).length
def XWr.reaching (x : XWr) (n : Int) : Nat := (x.noted.filter fun m => decide (n ≤ m)).length
def agreedStep (x : XWr) (b n : Int) : Int := if b < n ∧ 4 ≤ x.reaching n then n else b
def XWr.agreed (x : XWr) : Int := x.noted.foldl (agreedStep x) 0
def XWr.noteS (x : XWr) (m : Msg) : XWr := { x with heard := x.heard.set m.frm.toNat true, noted := if x.noted.getD m.frm.toNat 0 < m.scl then x.noted.set m.frm.toNat m.scl else x.noted }
def XWr.opens (x : XWr) : XWr := if x.phase = 2 ∧ 4 ≤ x.readyN then { x with phase := 3 } else x
def XWr.durs (x : XWr) : XWr := if x.phase = 3 then { x with dur := x.agreed } else x
def XWr.hearStatus (x : XWr) (m : Msg) : XWr := if x.phase = 2 ∨ x.phase = 3 then (x.noteS m).opens.durs else x
def XWr.stop (x : XWr) : XWr := { x with phase := 4, notes := [], cuts := [], values := [] }
def XWr.arrive (x : XWr) (m : Msg) : XWr × List Msg :=
  if m.frm < 0 ∨ 6 ≤ m.frm then (x, [])
  else if m.kind = 2 then x.hearFenced m
  else if m.kind = 4 then (x.hearStatus m, [])
  else if m.kind = 5 then (x.stop, [])
  else (x, [])
def XWr.append (x : XWr) (v wi : Int) : XWr × Int × Int :=
  if x.phase = 4 then (x, 0, 4) else if x.phase ≠ 3 then (x, 0, 5) else if 40 ≤ x.next then (x, 0, 7)
  else if x.dur + wi ≤ x.next then (x, 0, 6) else ({ x with values := x.values ++ [v], next := x.next + 1 }, x.next + 1, 0)

def xmarks (l : List (Int × Int × Int)) : List Int := (l.takeWhile fun p => p.1 == 2).map (·.2.1)
def XSeg.status (s : XSeg) (n wr : Int) : Msg := ⟨4, n, wr, wr, 0, 0, xscl s, [], []⟩
def XSeg.refusal (s : XSeg) (m : Msg) : Msg := ⟨5, m.to_, m.frm, s.epoch, 0, 0, 0, [], []⟩
def XSeg.fence (s : XSeg) (m : Msg) : XSeg × Msg :=
  if m.epoch < s.epoch then (s, s.refusal m)
  else ({ s with epoch := m.epoch }, ⟨2, m.to_, m.frm, m.epoch, 0, 0, 0, s.cuts, xmarks s.places⟩)
def forgetAt (l : List (Int × Int)) (i : Nat) (p : Int × Int × Int) : Int × Int × Int := if good l ((i : Int) + 1) p.2.1 then p else (0, 0, 0)
def XSeg.forget (s : XSeg) : XSeg := { s with places := s.places.mapIdx (forgetAt s.cuts) }
def XSeg.cut (s : XSeg) (m : Msg) : XSeg × Msg :=
  if m.epoch < s.epoch then (s, s.refusal m)
  else
    let t := if topOf s.cuts ≠ m.epoch then XSeg.forget { s with epoch := m.epoch, cuts := m.cuts } else { s with epoch := m.epoch }
    (t, t.status m.to_ m.frm)
def XSeg.at_ (s : XSeg) (lsn : Int) : Int × Int × Int := if lsn < 1 ∨ 40 < lsn then (0, 0, 0) else s.places.getD (lsn - 1).toNat (0, 0, 0)
def XSeg.take (s : XSeg) (m : Msg) : XSeg :=
  if m.lsn < 1 ∨ 40 < m.lsn then s
  else if (s.places.getD (m.lsn - 1).toNat (0, 0, 0)).1 = 0 then { s with places := s.places.set (m.lsn - 1).toNat (1, m.epoch, m.value) }
  else s
def XSeg.write (s : XSeg) (m : Msg) : XSeg × Option Msg :=
  if m.epoch < s.epoch then (s, some (s.refusal m))
  else if m.epoch ≠ s.epoch ∨ m.epoch ≠ topOf s.cuts then (s, none)
  else if (s.at_ m.lsn).1 = 2 then (s, some (s.status m.to_ m.frm))
  else (s.take m, none)
def XSeg.give (s : XSeg) (m : Msg) : Option Msg :=
  if (s.at_ m.lsn).1 = 2 then some ⟨8, m.to_, m.frm, (s.at_ m.lsn).2.1, m.lsn, (s.at_ m.lsn).2.2, 0, [], []⟩ else none
def XSeg.fill (s : XSeg) (m : Msg) : XSeg := if good s.cuts m.lsn m.epoch then s.take m else s
def XSeg.arrive (s : XSeg) (m : Msg) : XSeg × Option Msg :=
  if s.up = false then (s, none)
  else if m.kind = 1 then ((s.fence m).1, some (s.fence m).2)
  else if m.kind = 3 then ((s.cut m).1, some (s.cut m).2)
  else if m.kind = 6 then s.write m
  else if m.kind = 7 then (s, s.give m)
  else if m.kind = 8 then (s.fill m, none)
  else (s, none)
def crashAt (p : Int × Int × Int) : Int × Int × Int := if p.1 = 1 then (0, 0, 0) else p
def XSeg.crash (s : XSeg) : XSeg := { s with up := false, places := s.places.map crashAt }
def XSeg.restart (s : XSeg) : XSeg := { s with up := true }
def XSeg.value (s : XSeg) (lsn : Int) : Int := if (s.at_ lsn).1 = 2 then (s.at_ lsn).2.2 else 0
def XSeg.need (s : XSeg) (a b : Int) : Msg := ⟨7, a, b, 0, (xscl s : Int) + 1, 0, 0, [], []⟩
def syncAt (p : Int × Int × Int) : Int × Int × Int := if p.1 = 1 then (2, p.2) else p
def XSeg.synced (s : XSeg) : XSeg := { s with places := s.places.map syncAt }
def XSeg.sync (s : XSeg) (n : Int) : XSeg × Option Msg :=
  let t := s.synced
  if t.epoch = 0 ∨ t.epoch ≠ topOf t.cuts then (t, none) else (t, some (t.status n t.epoch))

def XVol.send (x : XVol) (m : Msg) : XVol := if x.room ≤ (x.msgs.length : Int) then x else { x with msgs := x.msgs ++ [m] }
def XVol.sendAll (x : XVol) (l : List Msg) : XVol := l.foldl XVol.send x
def XVol.sendO (x : XVol) (o : Option Msg) : XVol := match o with | some m => x.send m | none => x
def XVol.look (x : XVol) (k : Int) : Option Msg := if k < 0 then none else x.msgs[k.toNat]?
def XVol.taken (x : XVol) (k : Int) : XVol := { x with msgs := x.msgs.eraseIdx k.toNat }
def XVol.setSeg (x : XVol) (i : Nat) (s : XSeg) : XVol := { x with segs := x.segs.set i s }
def XVol.setWr (x : XVol) (i : Nat) (p : XWr) : XVol := { x with wrs := x.wrs.set i p }
def isSegB (s : Int) : Bool := decide (0 ≤ s) && decide (s < 6)
def XVol.isWr (x : XVol) (n : Int) : Bool := decide (1 ≤ n) && decide (n ≤ (x.wrs.length : Int))
def XVol.atSeg (x : XVol) (m : Msg) : XVol := if m.to_ < 0 then x else match x.segs[m.to_.toNat]? with
  | none => x
  | some s => (x.setSeg m.to_.toNat (s.arrive m).1).sendO (s.arrive m).2
def XVol.atWr (x : XVol) (m : Msg) : XVol := if m.to_ < 1 then x else match x.wrs[m.to_.toNat - 1]? with
  | none => x
  | some p => (x.setWr (m.to_.toNat - 1) (p.arrive m).1).sendAll (p.arrive m).2
def XVol.deliver (x : XVol) (k : Int) : XVol × Int := match x.look k with
  | none => (x, 12)
  | some m => (if m.kind = 2 ∨ m.kind = 4 ∨ m.kind = 5 then (x.taken k).atWr m else (x.taken k).atSeg m, 0)
def XVol.drop (x : XVol) (k : Int) : XVol × Int := match x.look k with | none => (x, 12) | some _ => (x.taken k, 0)
def XVol.copy (x : XVol) (k : Int) : XVol × Int := match x.look k with | none => (x, 12) | some m => (x.send m, 0)
def XVol.open_ (x : XVol) : XVol × Int × Int :=
  if 9 ≤ x.wrs.length then (x, 0, 2)
  else (XVol.sendAll { x with wrs := x.wrs ++ [xwr0 ((x.wrs.length : Int) + 1)] } (xwr0 ((x.wrs.length : Int) + 1)).due, (x.wrs.length : Int) + 1, 0)
def XVol.wrAt (x : XVol) (n : Int) : Option XWr := if n < 1 then none else x.wrs[n.toNat - 1]?
def XVol.resend (x : XVol) (n : Int) : XVol × Int := match x.wrAt n with
  | none => (x, 3)
  | some p => if p.phase = 4 then (x, 4) else (x.sendAll p.due, 0)
def XVol.append (x : XVol) (n v : Int) : XVol × Int × Int := match x.wrAt n with
  | none => (x, 0, 3)
  | some p => if (p.append v x.wi).2.2 ≠ 0 then (x, 0, (p.append v x.wi).2.2)
    else ((x.setWr (n.toNat - 1) (p.append v x.wi).1).sendAll ((p.append v x.wi).1.writes (p.append v x.wi).2.1), (p.append v x.wi).2.1, 0)
def XVol.sync (x : XVol) (s : Int) : XVol × Int := if s < 0 then (x, 11) else match x.segs[s.toNat]? with
  | none => (x, 11)
  | some g => if g.up then ((x.setSeg s.toNat (g.sync s).1).sendO (g.sync s).2, 0) else (x, 9)
def XVol.segAt (x : XVol) (s : Int) : Option XSeg := if s < 0 then none else x.segs[s.toNat]?
def XVol.gossip (x : XVol) (a b : Int) : XVol × Int := if b < 0 ∨ 6 ≤ b ∨ a = b then (x, 11) else match x.segAt a with
  | none => (x, 11)
  | some g => if g.up then (x.send (g.need a b), 0) else (x, 9)
def XVol.crash (x : XVol) (s : Int) : XVol × Int := match x.segAt s with
  | none => (x, 11)
  | some g => if g.up then (x.setSeg s.toNat g.crash, 0) else (x, 9)
def XVol.restart (x : XVol) (s : Int) : XVol × Int := match x.segAt s with
  | none => (x, 11)
  | some g => if g.up then (x, 10) else (x.setSeg s.toNat g.restart, 0)
def XWr.readable (p : XWr) (lsn : Int) : Int := if p.phase = 4 then 4 else if p.phase ≠ 3 then 5 else if lsn < 1 ∨ p.dur < lsn then 8 else 0
/-- The first segment that goes so far, by what is noted, and is up. -/
def XVol.asked (x : XVol) (p : XWr) (lsn : Int) : Option Nat := (List.range 6).find? fun s => decide (lsn ≤ p.noted.getD s 0) && ((x.segs[s]?).elim false (·.up))
def XVol.read (x : XVol) (n lsn : Int) : XVol × Int × Int := match x.wrAt n with
  | none => (x, 0, 3)
  | some p => if p.readable lsn ≠ 0 then (x, 0, p.readable lsn) else match x.asked p lsn with
    | none => (x, 0, 9)
    | some s => match x.segs[s]? with
      | none => (x, 0, 9)
      | some g => if n < g.epoch then (x.setWr (n.toNat - 1) p.stop, 0, 4) else (x, g.value lsn, 0)
end Go.Proofs.Ytfpbkghcjaonlaa

/-
  The program: package cuts.
-/
namespace Go.Proofs.Ytfpbkghcjaonlaa
open Go.RowKit

set_option maxHeartbeats 1000000 in
theorem xtop_any {k : Nat → Nat} {w : World} {c : Nat} {v : Value} {l : List (Int × Int)} (h : Rows k w c 92 2 v (l.map cutRow)) (hl : l.length ≤ 4000000000) :
    Calls Try.prog 78 #[v] w fun e w' => e = .returned (.int .i64 (topOf l)) ∧ w' = w := by
  obtain ⟨a, cap, rfl, hc⟩ := cuts_cells h
  clear h
  by_cases h0 : l.length = 0
  · have hd : ((l.length : Int) == 0) = true := by simp [h0]
    have HE : Hid (topOf l = 0) := hide (by rw [List.eq_nil_of_length_eq_zero h0]; rfl)
    clear h0
    go_enter Try.func78, Try.ntmps78
    go_wp2
    go_ret
    exact ⟨by rw [HE.out]; rfl, rfl⟩
  · obtain ⟨n, hn⟩ : ∃ n, l.length = n + 1 := ⟨l.length - 1, by omega⟩
    have hnl : n < l.length := by omega
    obtain ⟨g, rfl, q0, q1⟩ := hc n hnl
    have HE : Hid (topOf l = l[n].1) := hide (by
      have := topOf_take l n hnl
      rw [show n + 1 = l.length from hn.symm, List.take_length] at this
      exact this)
    have hd : (((n + 1 : Nat) : Int) == 0) = false := by simp; omega
    have hd2 : ((n : Int) + 1 == 0) = false := by simp; omega
    have hw : (n : Int) + 1 - 1 = (n : Int) := by omega
    have hn9 : (n : Int) ≤ 4000000000 := by omega
    generalize l[n] = ln at *
    rw [hn] at *
    clear hn hc h0 hnl
    go_enter Try.func78, Try.ntmps78
    go_wp2
    go_ret
    exact ⟨by rw [HE.out]; rfl, rfl⟩

theorem good_bad {l : List (Int × Int)} {lsn ep : Int} {j : Nat} (h : j < l.length) (hb : (decide (ep < l[j].1) && decide (l[j].2 < lsn)) = true) : good l lsn ep = false := by
  unfold good
  rw [Bool.and_eq_false_iff]
  right
  rw [List.all_eq_false]
  exact ⟨l[j], List.getElem_mem h, by rw [hb]; simp⟩
def okAll (l : List (Int × Int)) (lsn ep : Int) : Bool := l.all (fun c => !(decide (ep < c.1) && decide (c.2 < lsn)))
def inAny (l : List (Int × Int)) (ep : Int) : Bool := l.any (fun c => c.1 == ep)
theorem okAll_take (l : List (Int × Int)) (lsn ep : Int) (j : Nat) (h : j < l.length) : okAll (l.take (j + 1)) lsn ep = (okAll (l.take j) lsn ep && !(decide (ep < l[j].1) && decide (l[j].2 < lsn))) := by
  unfold okAll; rw [List.take_succ_eq_append_getElem h, List.all_append]; simp
theorem inAny_take (l : List (Int × Int)) (ep : Int) (j : Nat) (h : j < l.length) : inAny (l.take (j + 1)) ep = (inAny (l.take j) ep || (l[j].1 == ep)) := by
  unfold inAny; rw [List.take_succ_eq_append_getElem h, List.any_append]; simp

set_option maxHeartbeats 4000000 in
theorem xgood_any {k : Nat → Nat} {w : World} {c : Nat} {v : Value} {l : List (Int × Int)} (lsn ep : Int) (h : Rows k w c 92 2 v (l.map cutRow)) (hl : l.length ≤ 4000000000) :
    Calls Try.prog 104 #[v, .int .i64 lsn, .int .i64 ep] w fun e w' => e = .returned (.bool (good l lsn ep)) ∧ Below w.heap.size w w' := by
  obtain ⟨a, cap, rfl, hc⟩ := cuts_cells h
  clear h
  obtain ⟨gd, hgd⟩ : ∃ gd, gd = good l lsn ep := ⟨_, rfl⟩
  rw [← hgd]
  have HG := hide hgd
  clear hgd
  go_enter Try.func104, Try.ntmps104
  go_wp2
  go_loopw [7, 12] (fun f i wr => Below w.heap.size w wr ∧ ∃ j : Nat, i = .int .i64 j ∧ j ≤ l.length ∧ f = .bool (inAny (l.take j) ep) ∧ Hid (okAll (l.take j) lsn ep = true)) (fun _ i _ => l.length - (intOf i).toNat)
  case atStart => exact ⟨Below.refl _ _, 0, rfl, Nat.zero_le _, rfl, hide rfl⟩
  case round =>
    obtain ⟨hB, j, rfl, hj, rfl, hok⟩ := hrel
    have hsz := hB.size
    by_cases hlt : j < l.length
    · obtain ⟨g, rfl, q0, q1⟩ := hc j hlt
      have hgl : g < w.heap.size := World.block_lt_of_cell? w _ q0
      have p0 := (hB.cell (p := ⟨g, j * 2, none⟩) hgl).trans q0
      have p1 := (hB.cell (p := ⟨g, j * 2 + 1, none⟩) hgl).trans q1
      have HI := hide (inAny_take l ep j hlt)
      have HO := hide (okAll_take l lsn ep j hlt)
      have HBad := hide (fun hb => good_bad (lsn := lsn) (ep := ep) hlt hb)
      generalize inAny (l.take j) ep = fi at *
      clear q0 q1 hc
      cases h1 : (l[j].1 == ep)
      · rw [h1] at HI
        cases h2 : decide (ep < l[j].1)
        · rw [h2] at HO
          go_wp2_with fail
          go_roundw
          case rel => exact ⟨hB.alloc hsz _, j + 1, by go_num, by omega, by rw [HI.out]; simp, hide (by rw [HO.out, hok.out]; rfl)⟩
          case measure => simp [intOf]; omega
        · rw [h2] at HO HBad
          cases h3 : decide (l[j].2 < lsn)
          · rw [h3] at HO
            go_wp2_with fail
            go_roundw
            case rel => exact ⟨hB.alloc hsz _, j + 1, by go_num, by omega, by rw [HI.out]; simp, hide (by rw [HO.out, hok.out]; rfl)⟩
            case measure => simp [intOf]; omega
          · rw [h3] at HBad
            go_wp2_with fail
            go_ret
            exact ⟨by rw [HG.out, HBad.out rfl]; rfl, hB.alloc hsz _⟩
      · rw [h1] at HI
        cases h2 : decide (ep < l[j].1)
        · rw [h2] at HO
          go_wp2_with fail
          go_roundw
          case rel => exact ⟨hB.alloc hsz _, j + 1, by go_num, by omega, by rw [HI.out]; simp, hide (by rw [HO.out, hok.out]; rfl)⟩
          case measure => simp [intOf]; omega
        · exfalso
          simp at h1 h2
          omega
    · have hje : j = l.length := by omega
      have HE : Hid (gd = inAny (l.take j) ep) := hide (by
        have h2 := hok.out
        rw [hje, List.take_length] at h2
        rw [HG.out, hje, List.take_length]
        unfold good
        show (inAny l ep && okAll l lsn ep) = _
        rw [h2, Bool.and_true])
      generalize inAny (l.take j) ep = fi at *
      clear hje hc
      go_wp2_with fail
      go_ret
      exact ⟨by rw [HE.out]; rfl, hB⟩

theorem ints_take (l : List Int) (j : Nat) (h : j < l.length) : (l.take (j + 1)).map intRow = (l.take j).map intRow ++ [intRow l[j]] := by
  rw [List.take_succ_eq_append_getElem h, List.map_append]; rfl

set_option maxHeartbeats 1000000 in
theorem copyMarks_any {k : Nat → Nat} {w : World} {c : Nat} {v : Value} {l : List Int} (h : Rows k w c 3 1 v (l.map intRow)) (hl : l.length ≤ 4000000000) :
    Calls Try.prog 89 #[v] w fun e w' => (∃ z, e = .returned z ∧ Made w' w.heap.size 3 1 z (l.map intRow)) ∧ Below w.heap.size w w' := by
  obtain ⟨a, cap, rfl, hc⟩ := ints_cells h
  clear h
  go_enter Try.func89, Try.ntmps89
  go_wp2
  go_loopw [3, 8] (fun o i wr => Below w.heap.size w wr ∧ ∃ j : Nat, i = .int .i64 j ∧ j ≤ l.length ∧ Made wr w.heap.size 3 1 o ((l.take j).map intRow)) (fun _ i _ => l.length - (intOf i).toNat)
  case atStart => exact ⟨Below.refl _ _, 0, rfl, Nat.zero_le _, Made.nil _ _ _ _⟩
  case round =>
    obtain ⟨hB, j, rfl, hj, hM⟩ := hrel
    have hsz := hB.size
    by_cases hlt : j < l.length
    · obtain ⟨g, rfl, q0⟩ := hc j hlt
      have hgl : g < w.heap.size := World.block_lt_of_cell? w _ q0
      have p0 := (hB.cell (p := ⟨g, j, none⟩) hgl).trans q0
      have HR := hide (ints_take l j hlt)
      generalize hcn : l[j] = cn at *
      clear hcn q0
      have hM2 := hM.kept ((Below.refl _ _).alloc (Nat.le_refl _) (Obj.cells #[.int .i64 cn] 3))
      go_wp2_with (at_builtin; go_must (refine wpList_append_made (.tmp 12) (.tmp 14) 38 3 _ 1 8 _ ((l.take j).map intRow) j (intRow cn) w.heap.size ⟨wr.heap.size, 0, none⟩ 1 (by simp; omega) rfl rfl Try.underlying38 Try.infoInt rfl (by decide) rfl rfl hM2 rfl (cell_one_new' _ _ _) (by simp [intRow, Value.oneCell']) (by simp only [maxLen]; omega) (by omega) (by simp; omega) ?_; intro ao cap2 w2 hM3 hB3))
      go_roundw
      case rel => exact ⟨(hB.alloc (by omega) _).trans hB3, j + 1, by go_num, by omega, by rw [HR.out]; simpa using hM3⟩
      case measure => simp [intOf]; omega
    · have hje : j = l.length := by omega
      rw [hje, List.take_length] at hM
      clear hje
      go_wp2
      go_ret
      exact ⟨⟨_, rfl, hM⟩, hB⟩

theorem reachFrom_drop (l : List (Int × Int)) (ms : List Int) (j : Nat) (h : j < ms.length) : reachFrom l j (ms.drop j) = if good l ((j : Int) + 1) ms[j] then reachFrom l (j + 1) (ms.drop (j + 1)) else j := by
  rw [List.drop_eq_getElem_cons h]; rfl

set_option maxHeartbeats 2000000 in
theorem xreach_any {k k2 : Nat → Nat} {w : World} {c c2 : Nat} {v u : Value} {l : List (Int × Int)} {ms : List Int} (h : Rows k w c 92 2 v (l.map cutRow)) (hl : l.length ≤ 4000000000) (hm : Rows k2 w c2 3 1 u (ms.map intRow)) (hml : ms.length ≤ 4000000000) :
    Calls Try.prog 106 #[v, u] w fun e w' => e = .returned (.int .i64 (reachFrom l 0 ms)) ∧ Below w.heap.size w w' := by
  have HG : Hid (∀ W, Below w.heap.size w W → ∀ lsn ep, Calls Try.prog 104 #[v, .int .i64 lsn, .int .i64 ep] W fun e w' => e = .returned (.bool (good l lsn ep)) ∧ Below W.heap.size W w') := hide fun W hW lsn ep =>
    xgood_any lsn ep (Rows.evo h (Evo.of_below (C := noC) hW) (noC_not _)) hl
  obtain ⟨v0, v1, v2, hv⟩ := Rows.shape h
  subst hv
  obtain ⟨a, cap, rfl, hc⟩ := ints_cells hm
  obtain ⟨rf, hrf⟩ : ∃ rf, rf = reachFrom l 0 ms := ⟨_, rfl⟩
  rw [← hrf]
  have H0 : Hid (reachFrom l 0 (ms.drop 0) = rf) := hide hrf.symm
  clear h hm hrf
  go_enter Try.func106, Try.ntmps106
  go_wp2
  go_loopw [9] (fun i wr => Below w.heap.size w wr ∧ ∃ j : Nat, i = .int .i64 j ∧ j ≤ ms.length ∧ Hid (reachFrom l j (ms.drop j) = rf)) (fun i _ => ms.length - (intOf i).toNat)
  case atStart => exact ⟨Below.refl _ _, 0, rfl, Nat.zero_le _, H0⟩
  case round =>
    obtain ⟨hB, j, rfl, hj, hrf⟩ := hrel
    have hsz := hB.size
    by_cases hlt : j < ms.length
    · obtain ⟨g, rfl, q0⟩ := hc j hlt
      have hgl : g < w.heap.size := World.block_lt_of_cell? w _ q0
      have p0 := (hB.cell (p := ⟨g, j, none⟩) hgl).trans q0
      have HS := hide (reachFrom_drop l ms j hlt)
      generalize hcn : ms[j] = cn at *
      have hw : IntKind.i64.wrap ((j : Int) + 1) = (j : Int) + 1 := by rw [IntKind.wrap_i64] <;> omega
      have HGj := hide (HG.out wr hB ((j : Int) + 1) cn)
      cases hg : good l ((j : Int) + 1) cn
      · rw [hg] at HGj HS
        clear hcn q0
        go_wp2_with fail
        refine HGj.out.mono ?_
        rintro e1 w1 ⟨rfl, hb1⟩
        go_wp2_with fail
        go_ret
        exact ⟨by rw [← hrf.out, HS.out]; rfl, hB.trans (hb1.mono hsz)⟩
      · rw [hg] at HGj HS
        clear hcn q0
        go_wp2_with fail
        refine HGj.out.mono ?_
        rintro e1 w1 ⟨rfl, hb1⟩
        go_wp2_with fail
        go_roundw
        case rel => exact ⟨hB.trans (hb1.mono hsz), j + 1, by go_num, by omega, hide (by rw [← hrf.out, HS.out]; rfl)⟩
        case measure => simp [intOf]; omega
    · have hje : j = ms.length := by omega
      have HE : Hid (rf = ms.length) := hide (by rw [← hrf.out, hje, List.drop_length]; rfl)
      have hd : decide ((j : Int) < (ms.length : Int)) = false := by simp; omega
      clear hje
      go_wp2_with fail
      go_ret
      exact ⟨by rw [HE.out]; rfl, hB⟩
end Go.Proofs.Ytfpbkghcjaonlaa

/-
  The program: fresh.
-/
namespace Go.Proofs.Ytfpbkghcjaonlaa
open Go.RowKit

theorem made_shape {w : World} {B e size : Nat} {v : Value} {rows : List (List Value)} (h : Made w B e size v rows) : ∃ a n cap, v = .slice a n cap := let ⟨a, c, h⟩ := h.form; ⟨a, _, c, h⟩

/-- A message whose lists are new. -/
def XFresh (B0 : Nat) (w' : World) (m : Msg) (v : Value) : Prop :=
  ∃ vc vm B1, v = .agg #[.int .i64 m.kind, .int .i64 m.frm, .int .i64 m.to_, .int .i64 m.epoch, .int .i64 m.lsn, .int .i64 m.value, .int .i64 m.scl, vc, vm] ∧ B0 ≤ B1 ∧ (∀ g, vc.ownBlock = some g → g < B1) ∧
    Made w' B0 92 2 vc (m.cuts.map cutRow) ∧ Made w' B1 3 1 vm (m.marks.map intRow)

theorem Made.frame {w w' : World} {B e size : Nat} {v : Value} {rows : List (List Value)} (h : Made w B e size v rows) (hk : ∀ g, B ≤ g → g < w.heap.size → v.ownBlock = some g → w'.heap[g]? = w.heap[g]?) : Made w' B e size v rows := by
  refine ⟨h.1, h.2.1, ?_⟩
  rcases h.2.2 with hn | ⟨g, cap, cur, rfl, hb, hg, r⟩
  · exact .inl hn
  · exact .inr ⟨g, cap, cur, rfl, hb, (hk g hb (Array.getElem?_eq_some_iff.1 hg).1 rfl).trans hg, r⟩

theorem heap_set9 {w : World} {b : Nat} (v0 v1 v2 v3 v4 v5 v6 v7 v8 : Value) {g : Nat} (h : g ≠ b) :
    (((((((((w.setCell ⟨b, 0, none⟩ v0).setCell ⟨b, 1, none⟩ v1).setCell ⟨b, 2, none⟩ v2).setCell ⟨b, 3, none⟩ v3).setCell ⟨b, 4, none⟩ v4).setCell ⟨b, 5, none⟩ v5).setCell ⟨b, 6, none⟩ v6).setCell ⟨b, 7, none⟩ v7).setCell ⟨b, 8, none⟩ v8).heap[g]? = w.heap[g]? := by
  repeat rw [heap_setCell_other _ _ _ _ (by simpa using h)]

set_option maxRecDepth 3000 in
set_option maxHeartbeats 4000000 in
theorem fresh_any {k k2 : Nat → Nat} {w : World} {c c2 : Nat} (m : Msg) {vc vm : Value} (hc : Rows k w c 92 2 vc (m.cuts.map cutRow)) (hm : Rows k2 w c2 3 1 vm (m.marks.map intRow)) (hcl : m.cuts.length ≤ 4000000000) (hml : m.marks.length ≤ 4000000000) :
    Calls Try.prog 80 #[.agg #[.int .i64 m.kind, .int .i64 m.frm, .int .i64 m.to_, .int .i64 m.epoch, .int .i64 m.lsn, .int .i64 m.value, .int .i64 m.scl, vc, vm]] w fun e w' => (∃ v, e = .returned v ∧ XFresh w.heap.size w' m v) ∧ Below w.heap.size w w' := by
  have HCp : Hid (∀ W, Below w.heap.size w W → Calls Try.prog 83 #[vc] W fun e w' => (∃ z, e = .returned z ∧ Made w' W.heap.size 92 2 z (m.cuts.map cutRow)) ∧ Below W.heap.size W w') := hide fun W hW =>
    copy_any (hc.evo (Evo.of_below (C := noC) hW) (noC_not _)) hcl
  have HMk : Hid (∀ W, Below w.heap.size w W → Calls Try.prog 89 #[vm] W fun e w' => (∃ z, e = .returned z ∧ Made w' W.heap.size 3 1 z (m.marks.map intRow)) ∧ Below W.heap.size W w') := hide fun W hW =>
    copyMarks_any (hm.evo (Evo.of_below (C := noC) hW) (noC_not _)) hml
  obtain ⟨z0, z1, z2, hz⟩ := Rows.shape hc
  subst hz
  obtain ⟨y0, y1, y2, hz⟩ := Rows.shape hm
  subst hz
  clear hc hm
  obtain ⟨m0, m1, m2, m3, m4, m5, m6, mc, mm⟩ := m
  dsimp only at *
  have hb0 := ((Below.refl w.heap.size w).alloc (Nat.le_refl _) (Obj.cells #[.int .i64 m0, .int .i64 m1, .int .i64 m2, .int .i64 m3, .int .i64 m4, .int .i64 m5, .int .i64 m6, .slice z0 z1 z2, .slice y0 y1 y2] 99)).alloc (by simp) (Obj.cells #[.int .i64 0, .int .i64 0, .int .i64 0, .int .i64 0, .int .i64 0, .int .i64 0, .int .i64 0, .slice none 0 0, .slice none 0 0] 99)
  go_enter Try.func80, Try.ntmps80
  go_wp2_with fail
  refine (HCp.out _ hb0).mono ?_
  rintro e1 w1 ⟨⟨z, rfl, hz⟩, hb1⟩
  have hs1 := hb1.size
  simp only [World.size_alloc] at hs1 hz hb1
  have hB1 : Below w.heap.size w w1 := hb0.trans (hb1.mono (by omega))
  have b1 : Blk (fun _ => 0) w1 0 w.heap.size 99 [.int .i64 m0, .int .i64 m1, .int .i64 m2, .int .i64 m3, .int .i64 m4, .int .i64 m5, .int .i64 m6, .slice z0 z1 z2, .slice y0 y1 y2] := ⟨(hb1.block w.heap.size (by omega)).trans ((Below.heap_alloc _ _ _ (by simp)).trans (heap_alloc_new w _)), rfl⟩
  have b2 : Blk (fun _ => 0) w1 0 (w.heap.size + 1) 99 [.int .i64 0, .int .i64 0, .int .i64 0, .int .i64 0, .int .i64 0, .int .i64 0, .int .i64 0, .slice none 0 0, .slice none 0 0] := ⟨(hb1.block (w.heap.size + 1) (by omega)).trans (by rw [heap_alloc2_new]), rfl⟩
  obtain ⟨x0, x1, x2, hx⟩ := made_shape hz
  subst hx
  have a7 : w1.cell? ⟨w.heap.size, 7, none⟩ = some (.slice z0 z1 z2) := b1.cell 7
  have a8 : w1.cell? ⟨w.heap.size, 8, none⟩ = some (.slice y0 y1 y2) := b1.cell 8
  have af := b1.free 7
  have al := b1.lt
  have hB2 : Below w.heap.size w (w1.setCell ⟨w.heap.size, 7, none⟩ (.slice x0 x1 x2)) := hB1.setCell (Nat.le_refl _) _
  have c1 := b1.set 7 (.slice x0 x1 x2)
  have c2 := b2.other ⟨w.heap.size, 7, none⟩ (.slice x0 x1 x2) (by simp)
  have hz2 := hz.setCell ⟨w.heap.size, 7, none⟩ (.slice x0 x1 x2) (fun he => by have := (Made.block hz _ he).1; simp at this; omega)
  go_wp2_with fail
  refine (HMk.out _ hB2).mono ?_
  rintro e2 w2 ⟨⟨y, rfl, hy⟩, hb2⟩
  have hs2 := hb2.size
  simp only [World.size_setCell] at hs2 hy hb2
  have hB3 : Below w.heap.size w w2 := hB2.trans (hb2.mono (by omega))
  have d1 : Blk (fun _ => 0) w2 0 w.heap.size 99 [.int .i64 m0, .int .i64 m1, .int .i64 m2, .int .i64 m3, .int .i64 m4, .int .i64 m5, .int .i64 m6, .slice x0 x1 x2, .slice y0 y1 y2] := ⟨(hb2.block w.heap.size (by omega)).trans c1.1, rfl⟩
  have d2 : Blk (fun _ => 0) w2 0 (w.heap.size + 1) 99 [.int .i64 0, .int .i64 0, .int .i64 0, .int .i64 0, .int .i64 0, .int .i64 0, .int .i64 0, .slice none 0 0, .slice none 0 0] := ⟨(hb2.block (w.heap.size + 1) (by omega)).trans c2.1, rfl⟩
  have hz3 : Made w2 (w.heap.size + 1 + 1) 92 2 (.slice x0 x1 x2) (mc.map cutRow) := hz2.frame (fun g _ hg _ => hb2.block g (by simpa using hg))
  have hzb : ∀ g, (Value.slice x0 x1 x2).ownBlock = some g → w.heap.size + 1 + 1 ≤ g ∧ g < w1.heap.size := fun g hg => Made.block hz g hg
  have hyb : ∀ g, y.ownBlock = some g → w1.heap.size ≤ g ∧ g < w2.heap.size := fun g hg => Made.block hy g hg
  obtain ⟨v0, v1, v2, hv⟩ := made_shape hy
  subst hv
  have pc0 : w2.cell? ⟨w.heap.size, 0, none⟩ = some (.int .i64 m0) := d1.cell 0
  have pc1 : w2.cell? ⟨w.heap.size, 1, none⟩ = some (.int .i64 m1) := d1.cell 1
  have pc2 : w2.cell? ⟨w.heap.size, 2, none⟩ = some (.int .i64 m2) := d1.cell 2
  have pc3 : w2.cell? ⟨w.heap.size, 3, none⟩ = some (.int .i64 m3) := d1.cell 3
  have pc4 : w2.cell? ⟨w.heap.size, 4, none⟩ = some (.int .i64 m4) := d1.cell 4
  have pc5 : w2.cell? ⟨w.heap.size, 5, none⟩ = some (.int .i64 m5) := d1.cell 5
  have pc6 : w2.cell? ⟨w.heap.size, 6, none⟩ = some (.int .i64 m6) := d1.cell 6
  have pc7 : w2.cell? ⟨w.heap.size, 7, none⟩ = some (.slice x0 x1 x2) := d1.cell 7
  have pc8 : w2.cell? ⟨w.heap.size, 8, none⟩ = some (.slice y0 y1 y2) := d1.cell 8
  have pl := d1.lt
  have pf8 := d1.free 8
  have qc0 : w2.cell? ⟨w.heap.size + 1, 0, none⟩ = some (.int .i64 0) := d2.cell 0
  have qc1 : w2.cell? ⟨w.heap.size + 1, 1, none⟩ = some (.int .i64 0) := d2.cell 1
  have qc2 : w2.cell? ⟨w.heap.size + 1, 2, none⟩ = some (.int .i64 0) := d2.cell 2
  have qc3 : w2.cell? ⟨w.heap.size + 1, 3, none⟩ = some (.int .i64 0) := d2.cell 3
  have qc4 : w2.cell? ⟨w.heap.size + 1, 4, none⟩ = some (.int .i64 0) := d2.cell 4
  have qc5 : w2.cell? ⟨w.heap.size + 1, 5, none⟩ = some (.int .i64 0) := d2.cell 5
  have qc6 : w2.cell? ⟨w.heap.size + 1, 6, none⟩ = some (.int .i64 0) := d2.cell 6
  have qc7 : w2.cell? ⟨w.heap.size + 1, 7, none⟩ = some (.slice none 0 0) := d2.cell 7
  have qc8 : w2.cell? ⟨w.heap.size + 1, 8, none⟩ = some (.slice none 0 0) := d2.cell 8
  have qf0 := d2.free 0
  have qf1 := d2.free 1
  have qf2 := d2.free 2
  have qf3 := d2.free 3
  have qf4 := d2.free 4
  have qf5 := d2.free 5
  have qf6 := d2.free 6
  have qf7 := d2.free 7
  have qf8 := d2.free 8
  have ql := d2.lt
  clear d1 d2 c1 c2 b1 b2 hb1 hb2 hz hz2 a7 a8 af
  go_wp2_with fail
  have hy1 : Made (w2.setCell ⟨w.heap.size, 8, none⟩ (.slice v0 v1 v2)) w1.heap.size 3 1 (.slice v0 v1 v2) (mm.map intRow) := hy.setCell _ _ (fun he => by have := (hyb _ he).1; simp at this; omega)
  have hz4 : Made (w2.setCell ⟨w.heap.size, 8, none⟩ (.slice v0 v1 v2)) (w.heap.size + 1 + 1) 92 2 (.slice x0 x1 x2) (mc.map cutRow) := hz3.setCell _ _ (fun he => by have := (hzb _ he).1; simp at this; omega)
  refine bodyPost_ret (v := .agg #[.int .i64 m0, .int .i64 m1, .int .i64 m2, .int .i64 m3, .int .i64 m4, .int .i64 m5, .int .i64 m6, .slice x0 x1 x2, .slice v0 v1 v2]) (by simp [results, Try.results80, go_sem, qc0, qc1, qc2, qc3, qc4, qc5, qc6, qc7, qc8]) rfl ⟨⟨_, rfl, .slice x0 x1 x2, .slice v0 v1 v2, w1.heap.size, rfl, by omega, fun g hg => (hzb g hg).2, ?_, ?_⟩, ?_⟩
  · refine Made.weaken ?_ (show w.heap.size ≤ w.heap.size + 1 + 1 by omega)
    exact hz4.frame (fun g h1 _ _ => heap_set9 _ _ _ _ _ _ _ _ _ (by omega))
  · exact hy1.frame (fun g h1 _ _ => heap_set9 _ _ _ _ _ _ _ _ _ (by omega))
  · have b9 := below9 (hB3.setCell (p := ⟨w.heap.size, 8, none⟩) (Nat.le_refl _) (.slice v0 v1 v2)) (show w.heap.size ≤ w.heap.size + 1 by omega) (.int .i64 m0) (.int .i64 m1) (.int .i64 m2) (.int .i64 m3) (.int .i64 m4) (.int .i64 m5) (.int .i64 m6) (.slice x0 x1 x2) (.slice v0 v1 v2)
    exact b9

end Go.Proofs.Ytfpbkghcjaonlaa

/-
  sixfoldlaw: segment, the walk.
-/
namespace Go.Proofs.Ytfpbkghcjaonlaa
open Go.RowKit

def cLaw : Nat → Prop := fun c => 200 ≤ c ∧ c < 209
def is205 : Nat → Prop := fun c => c = 205

end Go.Proofs.Ytfpbkghcjaonlaa

/-
  sixfoldlaw: message, writer, flight.
-/
namespace Go.Proofs.Ytfpbkghcjaonlaa
open Go.RowKit

def XMsg (B0 : Nat) (w' : World) (err : Int) (m : Msg) (v : Value) : Prop :=
  ∃ vc vm B1, v = .tuple #[.agg #[.int .i64 m.kind, .int .i64 m.frm, .int .i64 m.to_, .int .i64 m.epoch, .int .i64 m.lsn, .int .i64 m.value, .int .i64 m.scl, vc, vm], .int .i64 err] ∧ B0 ≤ B1 ∧ (∀ g, vc.ownBlock = some g → g < B1) ∧
    Made w' B0 92 2 vc (m.cuts.map cutRow) ∧ Made w' B1 3 1 vm (m.marks.map intRow)
def YMsg (w' : World) (err : Int) (m : Msg) (v : Value) : Prop :=
  ∃ vc vm k1 k2 c1 c2, v = .tuple #[.agg #[.int .i64 m.kind, .int .i64 m.frm, .int .i64 m.to_, .int .i64 m.epoch, .int .i64 m.lsn, .int .i64 m.value, .int .i64 m.scl, vc, vm], .int .i64 err] ∧
    Rows k1 w' c1 92 2 vc (m.cuts.map cutRow) ∧ Rows k2 w' c2 3 1 vm (m.marks.map intRow)

/-- The cells of a message's block. -/
theorem cells9 {w : World} {b e : Nat} {c0 c1 c2 c3 c4 c5 c6 c7 c8 : Value} (h : w.heap[b]? = some (.cells #[c0, c1, c2, c3, c4, c5, c6, c7, c8] e (0, 0))) :
    w.cell? ⟨b, 0, none⟩ = some c0 ∧ w.cell? ⟨b, 1, none⟩ = some c1 ∧ w.cell? ⟨b, 2, none⟩ = some c2 ∧ w.cell? ⟨b, 3, none⟩ = some c3 ∧ w.cell? ⟨b, 4, none⟩ = some c4 ∧ w.cell? ⟨b, 5, none⟩ = some c5 ∧
    w.cell? ⟨b, 6, none⟩ = some c6 ∧ w.cell? ⟨b, 7, none⟩ = some c7 ∧ w.cell? ⟨b, 8, none⟩ = some c8 := by
  refine ⟨?_, ?_, ?_, ?_, ?_, ?_, ?_, ?_, ?_⟩
  all_goals (rw [cell_of_row _ _ _ _ _ _ h]; rfl)

def colour2 (n : Nat) (k : Nat → Nat) (vc vm : Value) (g : Nat) : Nat := if g < n then k g else if vc.ownBlock = some g then 204 else if vm.ownBlock = some g then 208 else 0
theorem colour2_rows {n B1 : Nat} {k : Nat → Nat} {w : World} {vc vm : Value} {rc rk : List (List Value)} {e1 e2 z1 z2 : Nat} (h1 : Made w n e1 z1 vc rc) (h2 : Made w B1 e2 z2 vm rk) (hn1 : n ≤ B1) (hc : ∀ g, vc.ownBlock = some g → g < B1) :
    Rows (colour2 n k vc vm) w 204 e1 z1 vc rc ∧ Rows (colour2 n k vc vm) w 208 e2 z2 vm rk := by
  refine ⟨h1.colour fun g hg => ?_, h2.colour fun g hg => ?_⟩
  · have := (h1.block g hg).1
    unfold colour2; rw [if_neg (by omega), if_pos hg]
  · have := (h2.block g hg).1
    unfold colour2; rw [if_neg (by omega), if_neg (fun e => by have := hc g e; omega), if_pos hg]
theorem below_colour2 {n : Nat} {k : Nat → Nat} {w w' : World} (hn : n = w.heap.size) (h : Below w.heap.size w w') (vc vm : Value) (C : Nat → Prop) : Evo k (colour2 n k vc vm) C w w' := by
  subst hn
  exact (Evo.of_below (k := k) h).recolour _ (fun _ hi => if_pos hi)

end Go.Proofs.Ytfpbkghcjaonlaa

/-
  sixfoldlaw: last.
-/
namespace Go.Proofs.Ytfpbkghcjaonlaa
open Go.RowKit

end Go.Proofs.Ytfpbkghcjaonlaa
