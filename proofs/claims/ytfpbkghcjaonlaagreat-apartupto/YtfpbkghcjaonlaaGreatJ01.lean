import Derived.Test.YtfpbkghcjaonlaaGreatProg
import Derived.WalkKit
import Derived.WalkSpells
import Derived.WalkLawsBesides
import Derived.ArgAppend
import Derived.Deep.QuietTactic
import Derived.BigQuiet
import Derived.Deep.RegionHeld3
import Derived.Deep.RegionLaw
/-
  Colours, frames, rows: what all walks stand on. Nothing of the program's own.
-/
namespace Go.Proofs.YtfpbkghcjaonlaaGreat
open Go.RowKit

theorem hide {p : Prop} (h : p) : Hid p := h

/-- From w (blocks coloured by k) to w' (by k'): only blocks of colours in C have turned; new blocks have come. -/
structure Evo (k k' : Nat → Nat) (C : Nat → Prop) (w w' : World) : Prop where
  os : w'.os = w.os
  tape : w'.tape = w.tape
  output : w'.output = w.output
  size : w.heap.size ≤ w'.heap.size
  col : ∀ b, b < w.heap.size → k' b = k b
  keep : ∀ b, b < w.heap.size → ¬ C (k b) → w'.heap[b]? = w.heap[b]?

theorem Evo.refl (k : Nat → Nat) (C : Nat → Prop) (w : World) : Evo k k C w w := ⟨rfl, rfl, rfl, Nat.le_refl _, fun _ _ => rfl, fun _ _ _ => rfl⟩

theorem Evo.trans {k1 k2 k3 : Nat → Nat} {C : Nat → Prop} {a b c : World} (h : Evo k1 k2 C a b) (g : Evo k2 k3 C b c) : Evo k1 k3 C a c :=
  ⟨g.os.trans h.os, g.tape.trans h.tape, g.output.trans h.output, Nat.le_trans h.size g.size,
   fun i hi => (g.col i (Nat.lt_of_lt_of_le hi h.size)).trans (h.col i hi),
   fun i hi hc => (g.keep i (Nat.lt_of_lt_of_le hi h.size) (by rw [h.col i hi]; exact hc)).trans (h.keep i hi hc)⟩

theorem Evo.mono {k1 k2 : Nat → Nat} {C D : Nat → Prop} {a b : World} (h : Evo k1 k2 C a b) (hs : ∀ c, C c → D c) : Evo k1 k2 D a b :=
  ⟨h.os, h.tape, h.output, h.size, h.col, fun i hi hc => h.keep i hi (fun x => hc (hs _ x))⟩

/-- What only makes memory. -/
theorem Evo.of_below {k : Nat → Nat} {C : Nat → Prop} {a b : World} (h : Below a.heap.size a b) : Evo k k C a b :=
  ⟨h.os, h.tape, h.output, h.size, fun _ _ => rfl, fun i hi _ => h.block i hi⟩

theorem Evo.drew {k1 k2 : Nat → Nat} {C : Nat → Prop} {a b : World} (h : Evo k1 k2 C a b) : Evo k1 k2 C a b.drew := ⟨h.os, h.tape, h.output, h.size, h.col, h.keep⟩

theorem Evo.drewN {k1 k2 : Nat → Nat} {C : Nat → Prop} {a b : World} (h : Evo k1 k2 C a b) (n : Nat) : Evo k1 k2 C a (b.drewN n) := ⟨h.os, h.tape, h.output, h.size, h.col, h.keep⟩

theorem Evo.alloc {k1 k2 : Nat → Nat} {C : Nat → Prop} {a b : World} (h : Evo k1 k2 C a b) (o : Obj) : Evo k1 k2 C a (b.alloc o) :=
  h.trans ⟨rfl, rfl, rfl, by simp, fun _ _ => rfl, fun i hi _ => Below.heap_alloc b o i hi⟩

theorem Evo.setCell {k1 k2 : Nat → Nat} {C : Nat → Prop} {a b : World} (h : Evo k1 k2 C a b) (p : Addr) (v : Value) (hp : p.block < b.heap.size → C (k2 p.block)) : Evo k1 k2 C a (b.setCell p v) :=
  h.trans ⟨rfl, rfl, rfl, by simp [World.setCell], fun _ _ => rfl, fun i hi hc => heap_setCell_other b p i v (fun e => hc (by rw [e]; exact hp (e ▸ hi)))⟩

/-- Other colours for blocks that have come since. -/
theorem Evo.recolour {k1 k2 : Nat → Nat} {C : Nat → Prop} {a b : World} (h : Evo k1 k2 C a b) (k3 : Nat → Nat) (hk : ∀ i, i < a.heap.size → k3 i = k2 i) : Evo k1 k3 C a b :=
  ⟨h.os, h.tape, h.output, h.size, fun i hi => (hk i hi).trans (h.col i hi), h.keep⟩

/-- One block. -/
def Blk (k : Nat → Nat) (w : World) (c b e : Nat) (cs : List Value) : Prop := w.heap[b]? = some (.cells cs.toArray e (0, 0)) ∧ k b = c

theorem Blk.lt {k : Nat → Nat} {w : World} {c b e : Nat} {cs : List Value} (h : Blk k w c b e cs) : b < w.heap.size := (Array.getElem?_eq_some_iff.1 h.1).1
theorem Blk.cell {k : Nat → Nat} {w : World} {c b e : Nat} {cs : List Value} (h : Blk k w c b e cs) (j : Nat) : w.cell? ⟨b, j, none⟩ = cs[j]? := by
  rw [cell_of_row w b j _ e (0, 0) h.1]; simp
theorem Blk.free {k : Nat → Nat} {w : World} {c b e : Nat} {cs : List Value} (h : Blk k w c b e cs) (j : Nat) : w.frozen? ⟨b, j, none⟩ = false := frozen_of_row w b j _ e h.1
theorem Blk.evo {k k' : Nat → Nat} {w w' : World} {c b e : Nat} {cs : List Value} {C : Nat → Prop} (h : Blk k w c b e cs) (g : Evo k k' C w w') (hc : ¬ C c) : Blk k' w' c b e cs :=
  ⟨(g.keep b h.lt (by rw [h.2]; exact hc)).trans h.1, (g.col b h.lt).trans h.2⟩
theorem Blk.set {k : Nat → Nat} {w : World} {c b e : Nat} {cs : List Value} (h : Blk k w c b e cs) (j : Nat) (v : Value) : Blk k (w.setCell ⟨b, j, none⟩ v) c b e (cs.set j v) := by
  refine ⟨?_, h.2⟩
  rw [heap_setCell_same w b j _ e v h.1]
  simp
theorem Blk.other {k : Nat → Nat} {w : World} {c b e : Nat} {cs : List Value} (h : Blk k w c b e cs) (p : Addr) (v : Value) (hp : b ≠ p.block) : Blk k (w.setCell p v) c b e cs :=
  ⟨(heap_setCell_other w p b v hp).trans h.1, h.2⟩
theorem Blk.ne {k : Nat → Nat} {w : World} {c c' b b' e e' : Nat} {cs cs' : List Value} (h : Blk k w c b e cs) (g : Blk k w c' b' e' cs') (hc : c ≠ c') : b ≠ b' := by
  rintro rfl; exact hc (h.2.symm.trans g.2)

/-- A slice value v whose array has the colour c, and whose elements are the rows. -/
structure Rows (k : Nat → Nat) (w : World) (c e size : Nat) (v : Value) (rows : List (List Value)) : Prop where
  len : ∀ r ∈ rows, r.length = size
  own : w.ownsRow 0 e size v rows.length rows.flatten
  col : ∀ b, v.ownBlock = some b → k b = c

theorem flatten_len {rows : List (List Value)} {size : Nat} (h : ∀ r ∈ rows, r.length = size) : rows.flatten.length = rows.length * size := by
  induction rows with
  | nil => simp
  | cons r rs ih =>
    simp only [List.flatten_cons, List.length_append, List.length_cons]
    rw [ih (fun x hx => h x (List.mem_cons_of_mem _ hx)), h r (List.mem_cons_self)]
    rw [Nat.add_mul]; omega

theorem flatten_get {rows : List (List Value)} {size : Nat} (h : ∀ r ∈ rows, r.length = size) (i j : Nat) (hi : i < rows.length) (hj : j < size) :
    rows.flatten[i * size + j]? = (rows[i]'hi)[j]? := by
  induction rows generalizing i with
  | nil => simp at hi
  | cons r rs ih =>
    have hr := h r List.mem_cons_self
    cases i with
    | zero => simp [List.getElem?_append, hr, hj]
    | succ i =>
      simp only [List.flatten_cons, List.getElem_cons_succ]
      rw [List.getElem?_append_right (by rw [hr, Nat.add_mul]; omega)]
      rw [show (i + 1) * size + j - r.length = i * size + j from by rw [hr, Nat.add_mul]; omega]
      exact ih (fun x hx => h x (List.mem_cons_of_mem _ hx)) i (by simpa using hi)

theorem flatten_set {rows : List (List Value)} {size : Nat} (h : ∀ r ∈ rows, r.length = size) (i j : Nat) (hi : i < rows.length) (hj : j < size) (x : Value) :
    rows.flatten.set (i * size + j) x = (rows.set i ((rows[i]'hi).set j x)).flatten := by
  induction rows generalizing i with
  | nil => simp at hi
  | cons r rs ih =>
    have hr := h r List.mem_cons_self
    cases i with
    | zero => simp [hr, hj]
    | succ i =>
      simp only [List.flatten_cons, List.getElem_cons_succ, List.set_cons_succ]
      rw [List.set_append_right _ _ (by rw [hr, Nat.add_mul]; omega)]
      rw [show (i + 1) * size + j - r.length = i * size + j from by rw [hr, Nat.add_mul]; omega]
      rw [ih (fun x hx => h x (List.mem_cons_of_mem _ hx)) i (by simpa using hi)]

theorem Rows.nil (k : Nat → Nat) (w : World) (c e size : Nat) : Rows k w c e size (.slice none 0 0) [] :=
  ⟨by simp, World.ownsRow_nil w 0 e size, by simp [Value.ownBlock]⟩

section
variable {k k' : Nat → Nat} {w w' : World} {c e size : Nat} {v : Value} {rows : List (List Value)}

/-- The slice value's outer form. -/
theorem Rows.form (h : Rows k w c e size v rows) : ∃ a cap, v = .slice a rows.length cap ∧ rows.length ≤ cap := by
  rcases h.own.2 with ⟨rfl, h0⟩ | ⟨g, cap, cur, rfl, _, _, hc, _⟩
  · exact ⟨none, 0, by rw [h0], by omega⟩
  · exact ⟨_, cap, rfl, hc⟩

theorem Rows.shape (h : Rows k w c e size v rows) : ∃ a n cap, v = .slice a n cap := let ⟨a, cap, h, _⟩ := h.form; ⟨a, _, cap, h⟩

/-- Where there is an element there is an array. -/
theorem Rows.at (h : Rows k w c e size v rows) (h0 : 0 < rows.length) : ∃ b cap, v = .slice (some ⟨b, 0, none⟩) rows.length cap ∧ k b = c ∧ b < w.heap.size ∧ rows.length ≤ cap ∧
    (∀ i j, (hi : i < rows.length) → j < size → w.cell? ⟨b, i * size + j, none⟩ = (rows[i]'hi)[j]?) ∧ (∀ j, w.frozen? ⟨b, j, none⟩ = false) := by
  have ho := h.own
  rcases ho.2 with ⟨rfl, hz⟩ | ⟨g, cap, cur, rfl, _, hg, hc, _⟩
  · omega
  · refine ⟨g, cap, rfl, h.col g rfl, (Array.getElem?_eq_some_iff.1 hg).1, hc, fun i j hi hj => ?_, fun j => ho.frozenAt j⟩
    rw [← flatten_get h.len i j hi hj]
    refine ho.cellAt (i * size + j) ?_
    have : (i + 1) * size ≤ rows.length * size := Nat.mul_le_mul_right _ hi
    rw [Nat.add_mul] at this
    omega

theorem Rows.evo {C : Nat → Prop} (h : Rows k w c e size v rows) (g : Evo k k' C w w') (hc : ¬ C c) : Rows k' w' c e size v rows := by
  obtain ⟨h1, h2, h3⟩ := h
  refine ⟨h1, ⟨h2.1, ?_⟩, ?_⟩
  · rcases h2.2 with hn | ⟨b, cap, cur, rfl, hb, hg, r⟩
    · exact .inl hn
    · have hlt := (Array.getElem?_eq_some_iff.1 hg).1
      exact .inr ⟨b, cap, cur, rfl, hb, (g.keep b hlt (by rw [h3 b rfl]; exact hc)).trans hg, r⟩
  · intro b hb
    rcases h2.2 with ⟨rfl, _⟩ | ⟨b', cap, cur, rfl, _, hg, _⟩
    · simp [Value.ownBlock] at hb
    · simp [Value.ownBlock] at hb; subst hb
      exact (g.col _ (Array.getElem?_eq_some_iff.1 hg).1).trans (h3 _ rfl)

theorem Rows.other (h : Rows k w c e size v rows) (p : Addr) (x : Value) (hp : k p.block ≠ c) : Rows k (w.setCell p x) c e size v rows := by
  obtain ⟨h1, h2, h3⟩ := h
  refine ⟨h1, ⟨h2.1, ?_⟩, h3⟩
  rcases h2.2 with hn | ⟨b, cap, cur, rfl, hb, hg, r⟩
  · exact .inl hn
  · exact .inr ⟨b, cap, cur, rfl, hb, (heap_setCell_other w p b x (fun e => hp (by rw [← e]; exact h3 b rfl))).trans hg, r⟩

theorem Rows.set {b n cap : Nat} (h : Rows k w c e size (.slice (some ⟨b, 0, none⟩) n cap) rows) (i j : Nat) (hi : i < rows.length) (hj : j < size) (x : Value) :
    Rows k (w.setCell ⟨b, i * size + j, none⟩ x) c e size (.slice (some ⟨b, 0, none⟩) n cap) (rows.set i ((rows[i]'hi).set j x)) := by
  obtain ⟨h1, h2, h3⟩ := h
  have hn : n = rows.length := by
    rcases h2.2 with ⟨hh, _⟩ | ⟨g, cap', cur, hh, _⟩
    · simp at hh
    · simp at hh; exact hh.2.1
  subst hn
  refine ⟨?_, ?_, h3⟩
  · intro r hr
    rcases List.mem_or_eq_of_mem_set hr with hr | rfl
    · exact h1 r hr
    · simp [h1 _ (List.getElem_mem hi)]
  · have := h2.stored (i * size + j) x
    rw [flatten_set h1 i j hi hj x] at this
    simpa using this.1

theorem Rows.alloc (h : Rows k w c e size v rows) (o : Obj) : Rows k (w.alloc o) c e size v rows := ⟨h.len, h.own.alloc o, h.col⟩
theorem Rows.drew (h : Rows k w c e size v rows) : Rows k w.drew c e size v rows := ⟨h.len, h.own, h.col⟩
end

theorem Rows.of_heap {k : Nat → Nat} {w w' : World} {c e size : Nat} {v : Value} {rows : List (List Value)} (hh : w'.heap = w.heap) (h : Rows k w c e size v rows) : Rows k w' c e size v rows := by
  refine ⟨h.len, ⟨h.own.1, ?_⟩, h.col⟩
  rw [hh]; exact h.own.2

/-- What a new array's owner is, of whatever colour. -/
theorem Rows.fresh {k : Nat → Nat} {w w' : World} {e size : Nat} {v' : Value} {n : Nat} {rows : List (List Value)} (c : Nat) (hl : ∀ r ∈ rows, r.length = size) (hn : n = rows.length)
    (h : w'.ownsRow w.heap.size e size v' n rows.flatten) : Rows (fun b => if b < w.heap.size then k b else c) w' c e size v' rows := by
  subst hn
  refine ⟨hl, ⟨h.1, ?_⟩, fun b hb => ?_⟩
  · rcases h.2 with hn | ⟨b, cap, cur, hv, hb, r⟩
    · exact .inl hn
    · exact .inr ⟨b, cap, cur, hv, Nat.zero_le _, r⟩
  · have := (h.lt b hb).1
    show (if b < w.heap.size then k b else c) = c
    rw [if_neg (by omega)]

/-- append, the slice's array coloured c. -/
theorem run_append_rows {P : Program} {k : Nat → Nat} {w : World} {c : Nat} (t ty e : TypeId) (i : TypeInfo) (z : Value) (size bytes : Nat) (ht : P.underlying t = some (.slice e)) (hi : P.info? e = some i) (hz : i.zero = some z)
    (hsize : i.size = size) (hby : i.bytes = bytes) (hzs : z.cells.size = size) (hsz : 0 < size) {v : Value} {rows : List (List Value)} (h : Rows k w c e size v rows)
    (a : Addr) (m cp : Nat) (news : List (List Value)) (hm : news.length = m) (hl : ∀ r ∈ news, r.length = size) (hnews : ∀ j u, news.flatten[j]? = some u → w.cell? (a.add j) = some u) (h1 : ∀ u ∈ news.flatten, u.oneCell' = true)
    (h63 : rows.length + m ≤ maxLen) (hbytes : (rows.length + m) * bytes ≤ 140737488355328) :
    ∃ v' w' k', (Builtin.append_ #[t, t] ty #[v, .slice (some a) m cp]).run P w = .ok v' w' ∧ Rows k' w' c e size v' (rows ++ news) ∧ Evo k k' (fun x => x = c) w w' := by
  subst hm
  have hfl : news.flatten.length = news.length * size := flatten_len hl
  have hrl : rows.flatten.length = rows.length * size := flatten_len h.len
  have hla : ∀ r ∈ rows ++ news, r.length = size := fun r hr => by
    rcases List.mem_append.1 hr with hr | hr
    · exact h.len r hr
    · exact hl r hr
  have ho := h.own
  have hev : ∀ w', w.grownBy w' none → Evo k (fun b => if b < w.heap.size then k b else c) (fun x => x = c) w w' := fun w' g =>
    ⟨g.os, g.tape, g.output, g.size, fun b hb => if_pos hb, fun b hb _ => g.block b hb (by simp)⟩
  rcases ho.2 with ⟨rfl, hz0⟩ | ⟨g, cap, cur, rfl, hg0, hg, hc, hcm, hcs, htk⟩
  · obtain ⟨v', w', hrun, r1, r2, _⟩ := run_append_own (P := P) w w.heap.size t ty e i z size bytes ht hi hz hsize hby hzs hsz (.slice none 0 0) 0 [] (World.ownsRow_nil w _ e size) a news.length cp news.flatten hfl hnews h1 (by omega) (by rw [hz0] at hbytes; simpa using hbytes) (Nat.le_refl _)
    have hr0 : rows = [] := List.length_eq_zero_iff.1 hz0
    subst hr0
    exact ⟨v', w', _, hrun, Rows.fresh (n := 0 + news.length) c hla (by simp) (by simpa using r1), hev w' r2⟩
  · by_cases hroom : rows.length + news.length ≤ cap
    · subst hsize
      have hle : (rows.length + news.length) * i.size ≤ cap * i.size := Nat.mul_le_mul_right _ hroom
      rw [Nat.add_mul] at hle
      have hrun := run_append_room (P := P) w t ty e i ht hi g rows.length cap cur hg a news.length cp news.flatten hfl hnews h1 hroom (by rw [hfl, hcs]; omega)
      refine ⟨_, _, k, hrun, ⟨hla, ⟨?_, .inr ⟨g, cap, (cur.toList.take (rows.length * i.size) ++ news.flatten ++ cur.toList.drop (rows.length * i.size + news.flatten.length)).toArray, by simp, hg0, ?_, by simpa using hroom, hcm, ?_, ?_⟩⟩, h.col⟩, ?_⟩
      · rw [flatten_len hla]
      · simp only [World.setRow]
        rw [Array.getElem?_modify]
        simp [hg]
      · have hmin : min rows.length cap = rows.length := by omega
        simp [hfl, hcs]
        first | omega | (rw [hmin]; omega)
      · rw [List.toList_toArray, htk, List.flatten_append]
        rw [List.take_append_of_le_length (by simp [hrl, hfl, Nat.add_mul])]
        rw [List.take_of_length_le (by simp [hrl, hfl, Nat.add_mul])]
      · refine ⟨rfl, rfl, rfl, by simp, fun _ _ => rfl, fun b hb hcol => ?_⟩
        have hbg : b ≠ g := fun e => hcol (by rw [e]; exact h.col g rfl)
        simp only [World.setRow]
        rw [Array.getElem?_modify, if_neg (fun e => hbg e.symm)]
    · obtain ⟨v', w', hrun, r1, r2⟩ := run_append_arg_grows (P := P) w t ty e i z size bytes ht hi hz hsize hby hzs hsz ⟨g, 0, none⟩ rows.length cap rows.flatten hrl (ho.cells rfl) a news.length cp news.flatten hfl hnews (by omega) h63 hbytes
      refine ⟨v', w', _, hrun, Rows.fresh (n := rows.length + news.length) c hla (by simp) (by rw [List.flatten_append]; exact r1), hev w' r2⟩

/-- The same, as one step of a region that draws. -/
theorem step_append_rows {P : Program} {ops : Array Oper} {o : Oper} {a : Act} {w : World} {K : Act → World → Prop} {Q : Exit → Act → World → Prop} {E : Prop}
    (k : Nat → Nat) (c : Nat) (s x : Operand) (t e : TypeId) (z : Value) (size bytes : Nat) (v : Value) (rows news : List (List Value)) (n : Nat) (ad : Addr) (m cp : Nat) (hrn : rows.length = n)
    (hg : o.guard = none) (hop : o.op = Op.call { callee := Callee.builtin Builtin.append, args := #[s, x], argTypes := #[t, t] })
    (ht : P.underlying t = some (.slice e)) (hinf : (P.info? e).map (fun i => (i.zero, i.size, i.bytes)) = some (some z, size, bytes)) (hzs : z.cells.size = size) (hsz : 0 < size)
    (hs : a.eval s = v) (hx : a.eval x = .slice (some ad) m cp) (h : Rows k w c e size v rows)
    (hm : news.length = m) (hl : ∀ r ∈ news, r.length = size) (hnews : ∀ j u, news.flatten[j]? = some u → w.cell? (ad.add j) = some u) (h1 : ∀ u ∈ news.flatten, u.oneCell' = true)
    (h63 : n + m ≤ maxLen) (hbytes : (n + m) * bytes ≤ 140737488355328)
    (hK : ∀ ao cap' w' k', Rows k' w' c e size (.slice ao (n + m) cap') (rows ++ news) → Evo k k' (fun x => x = c) w w' → K (a.put o.dst (.slice ao (n + m) cap')) w') :
    if Region.wanted o (yielded ops a.tmps) = true then Oper.wp P o a w K Q else E := by
  subst hrn
  have hw : Region.wanted o (yielded ops a.tmps) = true := by simp [Region.wanted, hg]
  rw [if_pos hw]
  obtain ⟨i, hi, hz0, hz1, hz2⟩ := info_parts hinf
  obtain ⟨v', w', k', hrun, r1, r2⟩ := run_append_rows (P := P) t o.type e i z size bytes ht hi hz0 hz1 hz2 hzs hsz h ad m cp news hm hl hnews h1 h63 hbytes
  subst hs
  unfold Oper.wp
  simp [execOp, hop, resolve, invoke, builtin, hx, hrun, Result.andThen]
  obtain ⟨ao, cap', hv, _⟩ := r1.form
  rw [List.length_append, hm] at hv
  subst hv
  exact hK ao cap' w' k' r1 r2

/-- append onto a coloured slice, outside a region that draws. -/
theorem wpList_append_rows {P : Program} {w : World} {ops : Array Oper} {rest : List Oper} {o : Oper} {a : Act} {Q : Exit → Act → World → Prop}
    (k : Nat → Nat) (c : Nat) (s x : Operand) (t e : TypeId) (z : Value) (size bytes : Nat) (v : Value) (rows news : List (List Value)) (n : Nat) (ad : Addr) (m cp : Nat) (hrn : rows.length = n)
    (hg : o.guard = none) (hop : o.op = Op.call { callee := Callee.builtin Builtin.append, args := #[s, x], argTypes := #[t, t] })
    (ht : P.underlying t = some (.slice e)) (hinf : (P.info? e).map (fun i => (i.zero, i.size, i.bytes)) = some (some z, size, bytes)) (hzs : z.cells.size = size) (hsz : 0 < size)
    (hs : a.eval s = v) (hx : a.eval x = .slice (some ad) m cp) (h : Rows k w c e size v rows)
    (hm : news.length = m) (hl : ∀ r ∈ news, r.length = size) (hnews : ∀ j u, news.flatten[j]? = some u → w.cell? (ad.add j) = some u) (h1 : ∀ u ∈ news.flatten, u.oneCell' = true)
    (h63 : n + m ≤ maxLen) (hbytes : (n + m) * bytes ≤ 140737488355328)
    (hK : ∀ ao cap' w' k', Rows k' w' c e size (.slice ao (n + m) cap') (rows ++ news) → Evo k k' (fun x => x = c) w w' → wpList P ops Q rest (a.put o.dst (.slice ao (n + m) cap')) w') :
    wpList P ops Q (o :: rest) a w := by
  subst hrn
  refine wpList_plain hg fun K hK' => ?_
  obtain ⟨i, hi, hz0, hz1, hz2⟩ := info_parts hinf
  obtain ⟨v', w', k', hrun, r1, r2⟩ := run_append_rows (P := P) t o.type e i z size bytes ht hi hz0 hz1 hz2 hzs hsz h ad m cp news hm hl hnews h1 h63 hbytes
  subst hs
  unfold Oper.wp
  simp [execOp, hop, resolve, invoke, builtin, hx, hrun, Result.andThen]
  obtain ⟨ao, cap', hv, _⟩ := r1.form
  rw [List.length_append, hm] at hv
  subst hv
  exact hK' _ _ (hK ao cap' w' k' r1 r2)

/-- A slice that the call itself builds, from block B on: its rows. -/
def Made (w : World) (B e size : Nat) (v : Value) (rows : List (List Value)) : Prop := (∀ r ∈ rows, r.length = size) ∧ w.ownsRow B e size v rows.length rows.flatten
theorem Made.nil (w : World) (B e size : Nat) : Made w B e size (.slice none 0 0) [] := ⟨by simp, World.ownsRow_nil w B e size⟩
theorem Made.form {w : World} {B e size : Nat} {v : Value} {rows : List (List Value)} (h : Made w B e size v rows) : ∃ a cap, v = .slice a rows.length cap := by
  rcases h.2.2 with ⟨rfl, h0⟩ | ⟨g, cap, cur, rfl, _⟩
  · exact ⟨none, 0, by rw [h0]⟩
  · exact ⟨_, cap, rfl⟩
theorem Made.rows {k : Nat → Nat} {w w' : World} {e size : Nat} {v : Value} {rows : List (List Value)} (h : Made w' w.heap.size e size v rows) (c : Nat) : Rows (fun b => if b < w.heap.size then k b else c) w' c e size v rows :=
  Rows.fresh c h.1 rfl h.2
theorem Made.kept {w w' : World} {B e size : Nat} {v : Value} {rows : List (List Value)} (h : Made w B e size v rows) (hb : Below w.heap.size w w') : Made w' B e size v rows := by
  refine ⟨h.1, h.2.1, ?_⟩
  rcases h.2.2 with hn | ⟨g, cap, cur, hv, hg, hh, r⟩
  · exact .inl hn
  · exact .inr ⟨g, cap, cur, hv, hg, (hb.block g (Array.getElem?_eq_some_iff.1 hh).1).trans hh, r⟩
theorem Made.setCell {w : World} {B e size : Nat} {v : Value} {rows : List (List Value)} (h : Made w B e size v rows) (p : Addr) (u : Value) (hp : v.ownBlock ≠ some p.block) : Made (w.setCell p u) B e size v rows := by
  refine ⟨h.1, h.2.1, ?_⟩
  rcases h.2.2 with hn | ⟨g, cap, cur, hv, hg, hh, r⟩
  · exact .inl hn
  · exact .inr ⟨g, cap, cur, hv, hg, (heap_setCell_other w p g u (fun e => hp (by rw [hv, ← e]; rfl))).trans hh, r⟩

theorem wpList_append_made {P : Program} {w : World} {ops : Array Oper} {rest : List Oper} {o : Oper} {a : Act} {Q : Exit → Act → World → Prop}
    (s x : Operand) (t e : TypeId) (z : Value) (size bytes : Nat) (v : Value) (rows : List (List Value)) (n : Nat) (new : List Value) (B : Nat) (ad : Addr) (cp : Nat) (hrn : rows.length = n)
    (hg : o.guard = none) (hop : o.op = Op.call { callee := Callee.builtin Builtin.append, args := #[s, x], argTypes := #[t, t] })
    (ht : P.underlying t = some (.slice e)) (hinf : (P.info? e).map (fun i => (i.zero, i.size, i.bytes)) = some (some z, size, bytes)) (hzs : z.cells.size = size) (hsz : 0 < size)
    (hs : a.eval s = v) (hx : a.eval x = .slice (some ad) 1 cp) (h : Made w B e size v rows)
    (hl : new.length = size) (hnews : ∀ j u, new[j]? = some u → w.cell? (ad.add j) = some u) (h1 : ∀ u ∈ new, u.oneCell' = true)
    (h63 : n + 1 ≤ maxLen) (hbytes : (n + 1) * bytes ≤ 140737488355328) (hB : B ≤ w.heap.size)
    (hK : ∀ ao cap' w', Made w' B e size (.slice ao (n + 1) cap') (rows ++ [new]) → Below B w w' → wpList P ops Q rest (a.put o.dst (.slice ao (n + 1) cap')) w') :
    wpList P ops Q (o :: rest) a w := by
  subst hrn
  refine wpList_plain hg fun K hK' => ?_
  obtain ⟨i, hi, hz0, hz1, hz2⟩ := info_parts hinf
  obtain ⟨v', w', hrun, r1, r2, _⟩ := run_append_own (P := P) w B t o.type e i z size bytes ht hi hz0 hz1 hz2 hzs hsz v rows.length rows.flatten h.2 ad 1 cp new (by simpa using hl) hnews h1 h63 hbytes hB
  subst hs
  unfold Oper.wp
  simp [execOp, hop, resolve, invoke, builtin, hx, hrun, Result.andThen]
  have hM : Made w' B e size v' (rows ++ [new]) := by
    refine ⟨fun r hr => ?_, by simpa using r1⟩
    rcases List.mem_append.1 hr with hr | hr
    · exact h.1 r hr
    · simp at hr; rw [hr]; exact hl
  obtain ⟨ao, cap', hv⟩ := hM.form
  rw [List.length_append] at hv
  simp only [List.length_cons, List.length_nil, Nat.zero_add] at hv
  subst hv
  have hlt := h.2.lt
  refine hK' _ _ (hK ao cap' w' hM ⟨r2.os, r2.tape, r2.output, r2.size, fun j hj => r2.block j (by omega) (fun e => ?_)⟩)
  have := (hlt j e.symm).1
  omega

/-- The cells of a block that has just come. -/
theorem cell_one_new' (w : World) (cs : List Value) (e : TypeId) : ∀ j u, cs[j]? = some u → (w.alloc (Obj.cells cs.toArray e)).cell? ((⟨w.heap.size, 0, none⟩ : Addr).add j) = some u := by
  intro j u hj
  rw [Addr.add_lit, Nat.zero_add, cell_of_row _ w.heap.size j _ _ _ (heap_alloc_new w _)]
  simpa using hj
theorem cell_two_new' (w : World) (A : Obj) (cs : List Value) (e : TypeId) : ∀ j u, cs[j]? = some u → ((w.alloc A).alloc (Obj.cells cs.toArray e)).cell? ((⟨w.heap.size + 1, 0, none⟩ : Addr).add j) = some u := by
  intro j u hj
  rw [Addr.add_lit, Nat.zero_add, cell_of_row _ (w.heap.size + 1) j _ _ _ (heap_alloc2_new w A _)]
  simpa using hj

def noC : Nat → Prop := fun _ => False
theorem noC_not (c : Nat) : ¬ noC c := fun h => h

/-- Behind 'x.f = append(x.f, ..)': the field's block and its slice. -/
theorem push_fin {k k1 : Nat → Nat} {w W w1 : World} {cB cN b eB e size : Nat} {cs : List Value} {v1 : Value} {rows : List (List Value)} (e0 : Evo k k noC w W) (hB : Blk k W cB b eB cs) (hne : cB ≠ cN)
    (hR : Rows k1 w1 cN e size v1 rows) (hE : Evo k k1 (fun x => x = cN) W w1) (j : Nat) :
    Evo k k1 (fun c => c = cB ∨ c = cN) w (w1.setCell ⟨b, j, none⟩ v1) ∧ Blk k1 (w1.setCell ⟨b, j, none⟩ v1) cB b eB (cs.set j v1) ∧ Rows k1 (w1.setCell ⟨b, j, none⟩ v1) cN e size v1 rows := by
  have hB2 := hB.evo hE hne
  have eA : Evo k k1 (fun c => c = cB ∨ c = cN) w w1 := (e0.mono (fun _ h => h.elim)).trans (hE.mono (fun _ h => .inr h))
  exact ⟨eA.setCell _ _ (fun _ => .inl hB2.2), hB2.set j v1, hR.other _ _ (by show k1 b ≠ cN; rw [hB2.2]; exact hne)⟩
end Go.Proofs.YtfpbkghcjaonlaaGreat

/-
  sixfoldref: Flight, place, send.
-/
namespace Go.Proofs.YtfpbkghcjaonlaaGreat
open Go.RowKit

/-- A cut. -/
def cutRow (c : Int × Int) : List Value := [.int .i64 c.1, .int .i64 c.2]
def intRow (n : Int) : List Value := [.int .i64 n]

/-- The colour of what is never written again; of what is not ours: 0. -/
def IM : Nat := 1

structure Msg where
  kind : Int
  frm : Int
  to_ : Int
  epoch : Int
  lsn : Int
  value : Int
  scl : Int
  cuts : List (Int × Int)
  marks : List Int

/-- A list of cuts, of ints, that nobody writes any more. -/
def CutsIm (k : Nat → Nat) (w : World) (v : Value) (l : List (Int × Int)) : Prop := Rows k w IM 53 2 v (l.map cutRow)
def IntsIm (k : Nat → Nat) (w : World) (v : Value) (l : List Int) : Prop := Rows k w IM 3 1 v (l.map intRow)

/-- The nine cells of a message. -/
def MsgIs (k : Nat → Nat) (w : World) (m : Msg) (r : List Value) : Prop :=
  ∃ vc vm, r = [.int .i64 m.kind, .int .i64 m.frm, .int .i64 m.to_, .int .i64 m.epoch, .int .i64 m.lsn, .int .i64 m.value, .int .i64 m.scl, vc, vm] ∧ CutsIm k w vc m.cuts ∧ IntsIm k w vm m.marks

def PostIs (k : Nat → Nat) (w : World) (p : Msg × Bool) (r : List Value) : Prop := ∃ r0, MsgIs k w p.1 r0 ∧ r = r0 ++ [.bool p.2]

def All2 {A B : Type} (R : A → B → Prop) (xs : List A) (ys : List B) : Prop := xs.length = ys.length ∧ ∀ i (h : i < xs.length) (h2 : i < ys.length), R xs[i] ys[i]

/-- Colours of the document's volume. -/
def cY : Nat := 10
def cNet : Nat := 11

structure NetIs (k : Nat → Nat) (w : World) (v : Value) (net : List (Msg × Bool)) (rows : List (List Value)) : Prop where
  own : Rows k w cNet 111 10 v rows
  all : All2 (PostIs k w) net rows

def flightOf (net : List (Msg × Bool)) : Nat := (net.filter (fun p => !p.2)).length

theorem flightOf_le (net : List (Msg × Bool)) : flightOf net ≤ net.length := List.length_filter_le _ _
theorem flightOf_snoc (net : List (Msg × Bool)) (n : Nat) (h : n < net.length) : flightOf (net.take (n + 1)) = flightOf (net.take n) + if net[n].2 then 0 else 1 := by
  unfold flightOf
  rw [List.take_succ_eq_append_getElem h, List.filter_append, List.length_append]
  cases hg : net[n].2 <;> simp [hg]

theorem net_gone {k : Nat → Nat} {w : World} {v : Value} {net : List (Msg × Bool)} {rows : List (List Value)} (h : NetIs k w v net rows) :
    ∃ a cap, v = .slice a net.length cap ∧ ∀ i, (hi : i < net.length) → ∃ b, a = some ⟨b, 0, none⟩ ∧ w.cell? ⟨b, i * 10 + 9, none⟩ = some (.bool net[i].2) := by
  have hlen := h.all.1
  obtain ⟨a, cap, rfl, _⟩ := h.own.form
  refine ⟨a, cap, by rw [hlen], fun i hi => ?_⟩
  obtain ⟨b, cap', hv, _, _, _, hc, _⟩ := h.own.at (by omega)
  simp at hv
  refine ⟨b, hv.1, ?_⟩
  rw [hc i 9 (by omega) (by omega)]
  obtain ⟨r0, ⟨vc, vm, hr, _⟩, hr2⟩ := h.all.2 i hi (by omega)
  rw [hr2, hr]
  rfl

set_option maxHeartbeats 400000 in
theorem flight_core (w : World) (q : Nat) (a : Option Addr) (net : List (Msg × Bool)) (cap : Nat) (hlen : net.length ≤ 4000000000)
    (hnet : w.cell? ⟨q, 2, none⟩ = some (.slice a net.length cap))
    (hg : ∀ i, (hi : i < net.length) → ∃ b, a = some ⟨b, 0, none⟩ ∧ w.cell? ⟨b, i * 10 + 9, none⟩ = some (.bool net[i].2)) :
    Calls Tryz.prog 23 #[.pointer (some ⟨q, 0, none⟩)] w fun e w' => e = .returned (.int .i64 (flightOf net)) ∧ w' = w := by
  go_enter Tryz.func23, Tryz.ntmps23
  go_wp2
  go_loop [3, 4] (fun n i => ∃ k : Nat, k ≤ net.length ∧ i = .int .i64 k ∧ n = .int .i64 (flightOf (net.take k))) (fun _ i => net.length - (intOf i).toNat)
  case atStart => exact ⟨0, Nat.zero_le _, rfl, rfl⟩
  case round =>
    obtain ⟨j, hk, rfl, rfl⟩ := hrel
    have hle : flightOf (net.take j) ≤ j := Nat.le_trans (flightOf_le _) (by simp; omega)
    by_cases hlt : j < net.length
    · obtain ⟨b, rfl, hgone⟩ := hg j hlt
      have hs := flightOf_snoc net j hlt
      cases hb : net[j].2
      · rw [hb] at hgone hs
        have HS : Hid (flightOf (net.take (j + 1)) = flightOf (net.take j) + 1) := hs
        clear hs hb
        go_wp2
        go_round
        case rel => exact ⟨j + 1, by omega, by go_num, by rw [HS.out]; go_num⟩
        case measure => simp [intOf]; omega
      · rw [hb] at hgone hs
        have HS : Hid (flightOf (net.take (j + 1)) = flightOf (net.take j)) := hs
        clear hs hb
        go_wp2
        go_round
        case rel => exact ⟨j + 1, by omega, by go_num, by rw [HS.out]⟩
        case measure => simp [intOf]; omega
    · go_wp2
      go_ret
      exact ⟨by rw [List.take_of_length_le (by omega)]; rfl, rfl⟩

theorem Tryz.infoPost : (Tryz.prog.info? 111).map (fun i => (i.zero, i.size, i.bytes)) = some (some (.agg #[.int .i64 0, .int .i64 0, .int .i64 0, .int .i64 0, .int .i64 0, .int .i64 0, .int .i64 0, .slice none 0 0, .slice none 0 0, .bool false]), 10, 112) := by kernel_rfl

theorem CutsIm.evo {k k' : Nat → Nat} {w w' : World} {v : Value} {l : List (Int × Int)} {C : Nat → Prop} (h : CutsIm k w v l) (g : Evo k k' C w w') (hc : ¬ C IM) : CutsIm k' w' v l := Rows.evo h g hc
theorem IntsIm.evo {k k' : Nat → Nat} {w w' : World} {v : Value} {l : List Int} {C : Nat → Prop} (h : IntsIm k w v l) (g : Evo k k' C w w') (hc : ¬ C IM) : IntsIm k' w' v l := Rows.evo h g hc
theorem MsgIs.evo {k k' : Nat → Nat} {w w' : World} {m : Msg} {r : List Value} {C : Nat → Prop} (h : MsgIs k w m r) (g : Evo k k' C w w') (hc : ¬ C IM) : MsgIs k' w' m r := by
  obtain ⟨vc, vm, hr, h1, h2⟩ := h
  exact ⟨vc, vm, hr, h1.evo g hc, h2.evo g hc⟩
theorem PostIs.evo {k k' : Nat → Nat} {w w' : World} {m : Msg × Bool} {r : List Value} {C : Nat → Prop} (h : PostIs k w m r) (g : Evo k k' C w w') (hc : ¬ C IM) : PostIs k' w' m r := by
  obtain ⟨r0, h0, hr⟩ := h
  exact ⟨r0, h0.evo g hc, hr⟩
theorem All2.imp {A B : Type} {R S : A → B → Prop} {xs : List A} {ys : List B} (h : All2 R xs ys) (hs : ∀ x y, R x y → S x y) : All2 S xs ys := ⟨h.1, fun i a b => hs _ _ (h.2 i a b)⟩
theorem All2.snoc {A B : Type} {R : A → B → Prop} {xs : List A} {ys : List B} (h : All2 R xs ys) {x : A} {y : B} (hx : R x y) : All2 R (xs ++ [x]) (ys ++ [y]) := by
  refine ⟨by simp [h.1], fun i a b => ?_⟩
  by_cases hi : i < xs.length
  · rw [List.getElem_append_left hi, List.getElem_append_left (by rw [← h.1]; exact hi)]; exact h.2 i hi _
  · have e : i = xs.length := by simp at a; omega
    subst e
    have e2 : xs.length = ys.length := h.1
    simp only [List.getElem_append_right (Nat.le_refl _), List.getElem_append_right (Nat.le_of_eq e2.symm)]
    simpa using hx
theorem All2.set {A B : Type} {R : A → B → Prop} {xs : List A} {ys : List B} (h : All2 R xs ys) (i : Nat) {x : A} {y : B} (hx : R x y) : All2 R (xs.set i x) (ys.set i y) := by
  refine ⟨by simp [h.1], fun j a b => ?_⟩
  by_cases hj : i = j
  · subst hj; simpa using hx
  · simp only [List.getElem_set_ne hj]; exact h.2 j (by simpa using a) (by simpa using b)
theorem NetIs.evo {k k' : Nat → Nat} {w w' : World} {v : Value} {net : List (Msg × Bool)} {rows : List (List Value)} {C : Nat → Prop} (h : NetIs k w v net rows) (g : Evo k k' C w w') (hc : ¬ C IM) (hn : ¬ C cNet) : NetIs k' w' v net rows :=
  ⟨h.own.evo g hn, h.all.imp fun _ _ x => x.evo g hc⟩

theorem flight_any {k : Nat → Nat} {w : World} {q : Nat} {wi fl vNet vSegs vPens : Value} {net : List (Msg × Bool)} {rows : List (List Value)}
    (hY : Blk k w cY q 84 [wi, fl, vNet, vSegs, vPens]) (hN : NetIs k w vNet net rows) (hlen : net.length ≤ 4000000000) :
    Calls Tryz.prog 23 #[.pointer (some ⟨q, 0, none⟩)] w fun e w' => e = .returned (.int .i64 (flightOf net)) ∧ w' = w := by
  obtain ⟨a, cap, hv, hg⟩ := net_gone hN
  exact flight_core w q a net cap hlen (by rw [hY.cell, hv]; rfl) hg


/-- The cells of a message whose two lists are the values vc, vm. -/
def msgCells (m : Msg) (vc vm : Value) : List Value := [.int .i64 m.kind, .int .i64 m.frm, .int .i64 m.to_, .int .i64 m.epoch, .int .i64 m.lsn, .int .i64 m.value, .int .i64 m.scl, vc, vm]

theorem Rows.oneCell {k : Nat → Nat} {w : World} {c e size : Nat} {v : Value} {rows : List (List Value)} (h : Rows k w c e size v rows) : v.oneCell' = true := by
  obtain ⟨a, cap, rfl, _⟩ := h.form
  rfl

def sendNet (fl : Int) (net : List (Msg × Bool)) (m : Msg) : List (Msg × Bool) := if (flightOf net : Int) < fl then net ++ [(m, false)] else net

/-- The document's volume: its block, with the network; the other two cells as they are. -/
structure YNet (k : Nat → Nat) (w : World) (q : Nat) (wi fl : Int) (vSegs vPens : Value) (net : List (Msg × Bool)) : Prop where
  ex : ∃ vNet rows, Blk k w cY q 84 [.int .i64 wi, .int .i64 fl, vNet, vSegs, vPens] ∧ NetIs k w vNet net rows

theorem YNet.evo {k k' : Nat → Nat} {w w' : World} {q : Nat} {wi fl : Int} {vSegs vPens : Value} {net : List (Msg × Bool)} {C : Nat → Prop} (h : YNet k w q wi fl vSegs vPens net) (g : Evo k k' C w w') (h1 : ¬ C IM) (h2 : ¬ C cNet) (h3 : ¬ C cY) : YNet k' w' q wi fl vSegs vPens net := by
  obtain ⟨vNet, rows, hY, hN⟩ := h.ex
  exact ⟨vNet, rows, hY.evo g h3, hN.evo g h1 h2⟩

theorem net_push {k k1 : Nat → Nat} {w W w1 : World} {q : Nat} {wi fl : Int} {vNet vSegs vPens v1 : Value} {net : List (Msg × Bool)} {rows : List (List Value)} {m : Msg} {vc vm : Value}
    (e0 : Evo k k noC w W) (hY1 : Blk k W cY q 84 [.int .i64 wi, .int .i64 fl, vNet, vSegs, vPens]) (hN : NetIs k w vNet net rows) (hc : CutsIm k w vc m.cuts) (hm : IntsIm k w vm m.marks)
    (hR1 : Rows k1 w1 cNet 111 10 v1 (rows ++ [msgCells m vc vm ++ [.bool false]])) (hE1 : Evo k k1 (fun x => x = cNet) W w1) :
    ∃ k', Evo k k' (fun c => c = cY ∨ c = cNet) w (w1.setCell ⟨q, 2, none⟩ v1) ∧ YNet k' (w1.setCell ⟨q, 2, none⟩ v1) q wi fl vSegs vPens (net ++ [(m, false)]) := by
  have eA : Evo k k1 (fun c => c = cY ∨ c = cNet) w w1 := (e0.mono (fun _ h => h.elim)).trans (hE1.mono (fun _ h => .inr h))
  have hY2 : Blk k1 w1 cY q _ _ := hY1.evo hE1 (by decide)
  have eB := eA.setCell ⟨q, 2, none⟩ v1 (fun _ => .inl hY2.2)
  refine ⟨k1, eB, ⟨v1, rows ++ [msgCells m vc vm ++ [.bool false]], hY2.set 2 v1, ?_, ?_⟩⟩
  · exact hR1.other _ _ (by show k1 q ≠ cNet; rw [hY2.2]; decide)
  · have eC : Evo k k1 (fun c => c = cY ∨ c = cNet) w (w1.setCell ⟨q, 2, none⟩ v1) := eB
    refine All2.snoc (hN.all.imp fun _ _ x => x.evo eC (by decide)) ⟨_, ⟨vc, vm, rfl, hc.evo eC (by decide), hm.evo eC (by decide)⟩, rfl⟩

set_option maxHeartbeats 400000 in
theorem send_yes (k : Nat → Nat) (w : World) (q : Nat) (wi fl : Int) (vSegs vPens vNet : Value) (net : List (Msg × Bool)) (rows : List (List Value)) (m : Msg) (vc vm : Value)
    (hY : Blk k w cY q 84 [.int .i64 wi, .int .i64 fl, vNet, vSegs, vPens]) (hN : NetIs k w vNet net rows) (hlen : net.length ≤ 4000000000)
    (hc : CutsIm k w vc m.cuts) (hm : IntsIm k w vm m.marks) (hfl : (flightOf net : Int) < fl) :
    Calls Tryz.prog 67 #[.pointer (some ⟨q, 0, none⟩), .agg #[.int .i64 m.kind, .int .i64 m.frm, .int .i64 m.to_, .int .i64 m.epoch, .int .i64 m.lsn, .int .i64 m.value, .int .i64 m.scl, vc, vm]] w fun e w' => e = .returned (.tuple #[]) ∧
      ∃ k', Evo k k' (fun c => c = cY ∨ c = cNet) w w' ∧ YNet k' w' q wi fl vSegs vPens (net ++ [(m, false)]) := by
  have y2 : w.cell? ⟨q, 2, none⟩ = some vNet := by rw [hY.cell]; rfl
  have y1 : w.cell? ⟨q, 1, none⟩ = some (.int .i64 fl) := by rw [hY.cell]; rfl
  have hq := hY.lt
  have hnl : net.length = rows.length := hN.all.1
  have hnl : net.length = rows.length := hN.all.1
  have e1 : Evo k k noC w (w.alloc (Obj.cells #[.int .i64 m.kind, .int .i64 m.frm, .int .i64 m.to_, .int .i64 m.epoch, .int .i64 m.lsn, .int .i64 m.value, .int .i64 m.scl, vc, vm] 109)) := (Evo.refl k noC w).alloc _
  have e2 : Evo k k noC w ((w.alloc (Obj.cells #[.int .i64 m.kind, .int .i64 m.frm, .int .i64 m.to_, .int .i64 m.epoch, .int .i64 m.lsn, .int .i64 m.value, .int .i64 m.scl, vc, vm] 109)).alloc (Obj.cells #[.int .i64 m.kind, .int .i64 m.frm, .int .i64 m.to_, .int .i64 m.epoch, .int .i64 m.lsn, .int .i64 m.value, .int .i64 m.scl, vc, vm, .bool false] 111)).drew := (e1.alloc _).drew
  have hR : Rows k ((w.alloc (Obj.cells #[.int .i64 m.kind, .int .i64 m.frm, .int .i64 m.to_, .int .i64 m.epoch, .int .i64 m.lsn, .int .i64 m.value, .int .i64 m.scl, vc, vm] 109)).alloc (Obj.cells #[.int .i64 m.kind, .int .i64 m.frm, .int .i64 m.to_, .int .i64 m.epoch, .int .i64 m.lsn, .int .i64 m.value, .int .i64 m.scl, vc, vm, .bool false] 111)).drew cNet 111 10 vNet rows := hN.own.evo e2 (noC_not _)
  have hY1 := hY.evo e2 (noC_not _)
  have oc := hc.oneCell
  have om := hm.oneCell
  have HL := hide hnl
  clear hnl
  have hnews : ∀ j u, ([msgCells m vc vm ++ [.bool false]] : List (List Value)).flatten[j]? = some u → ((w.alloc (Obj.cells #[.int .i64 m.kind, .int .i64 m.frm, .int .i64 m.to_, .int .i64 m.epoch, .int .i64 m.lsn, .int .i64 m.value, .int .i64 m.scl, vc, vm] 109)).alloc (Obj.cells #[.int .i64 m.kind, .int .i64 m.frm, .int .i64 m.to_, .int .i64 m.epoch, .int .i64 m.lsn, .int .i64 m.value, .int .i64 m.scl, vc, vm, .bool false] 111)).drew.cell? ((⟨w.heap.size + 1, 0, none⟩ : Addr).add j) = some u := by
    intro j u hj
    rw [Addr.add_lit]
    show World.cell? ((w.alloc _).alloc _) _ = _
    rw [cell_of_row _ (w.heap.size + 1) _ _ _ _ (heap_alloc2_new w _ _)]
    simpa [msgCells] using hj
  have honec : ∀ u ∈ ([msgCells m vc vm ++ [.bool false]] : List (List Value)).flatten, u.oneCell' = true := by
    intro u hu
    simp [msgCells] at hu
    rcases hu with rfl | rfl | rfl | rfl | rfl | rfl | rfl | rfl | rfl | rfl <;> first | rfl | assumption
  have F1 := flight_any (hY.evo e1 (noC_not _)) (hN.evo e1 (noC_not _) (noC_not _)) hlen
  have HF := hide F1
  clear F1 oc om
  go_enter Tryz.func67, Tryz.ntmps67
  go_wp2_with fail
  refine HF.out.mono ?_
  rintro e w1 ⟨rfl, rfl⟩
  go_wp2_with fail
  go_region_law
    (refine step_append_rows k cNet (.tmp 18) (.tmp 21) 80 111 _ 10 112 vNet rows [msgCells m vc vm ++ [.bool false]] rows.length ⟨w.heap.size + 1, 0, none⟩ 1 1 rfl rfl rfl Tryz.underlying80 Tryz.infoPost rfl (by decide) rfl rfl hR rfl (by simp [msgCells]) hnews honec (by have := HL.out; simp only [maxLen]; omega) (by have := HL.out; omega) ?_; intro ao1 cap1 w1 k1 hR1 hE1; have y2' : w1.cell? ⟨q, 2, none⟩ = some vNet := (hY1.evo hE1 (by decide)).cell 2; have yf' : w1.frozen? ⟨q, 2, none⟩ = false := (hY1.evo hE1 (by decide)).free 2)
  all_goals go_end0
  all_goals exact ⟨rfl, net_push e2 hY1 hN hc hm hR1 hE1⟩
end Go.Proofs.YtfpbkghcjaonlaaGreat
